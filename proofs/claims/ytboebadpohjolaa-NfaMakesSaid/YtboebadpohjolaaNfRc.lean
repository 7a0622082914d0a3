import Derived.Test.YtboebadpohjolaaNfRa
import Derived.Test.YtboebadpohjolaaNfRb
namespace Go.Proofs.Ytboebadpohjolaa
open Go.RowKit Go.Shelf
attribute [local go_sem] Oper.semAt_some

variable {B : Nat}

theorem LS.set {a b : World} {lb : Nat} {v0 v1 : Value} {L : List St} (h : LS B a b lb v0 L v1) {p : Addr} (h1 : p.block ≠ lb) (h2 : v1.ownBlock ≠ some p.block) (h3 : a.heap.size ≤ p.block) (u : Value) : LS B a (b.setCell p u) lb v0 L v1 :=
  ⟨⟨CB.other h.at_.box p h1 u, ((Chg.refl (fun k => k = p.block) b).setCell rfl u).ownsS h.at_.row fun k hk e => h2 (by rw [hk, e]), h.at_.ne, h.at_.base⟩, h.chg.step ((Chg.refl (fun k => k = p.block) b).setCell rfl u) fun i hi hlt => (by omega), h.own⟩
/-- What is known between two rounds of a row: l0 the box of the layout's address, t0 that of the state to which the next part is laid. -/
structure RowI (B : Nat) (w : World) (lb : Nat) (v : Value) (l0 t0 : Nat) (ps : List PT) (q : Nat) (L : List St) (k : Nat) (W : World) (vk : Value) : Prop where
  ls : LS B w W lb v (rowK ps q L k).1 vk
  bl : CB W 48 l0 [.pointer (some ⟨lb, 0, none⟩)]
  bt : CB W 3 t0 [.int .i64 ((rowK ps q L k).2 : Nat)]
  nb : ∀ i, l0 ≤ i → i ≤ t0 + 1 → vk.ownBlock ≠ some i
  li : LI (rowK ps q L k).1 (rowK ps q L k).2
  sz : t0 + 2 ≤ W.heap.size
theorem RowI.others {w W W' : World} {lb : Nat} {v : Value} {l0 t0 : Nat} {ps : List PT} {q : Nat} {L : List St} {k : Nat} {vk : Value} {row : Option Nat} (h : RowI B w lb v l0 t0 ps q L k W vk) (hg : W.grownBy W' row) (hr : ∀ r, row = some r → w.heap.size ≤ r ∧ ∃ o : Obj, W.heap[r]? = some o ∧ o.isCells = false) : RowI B w lb v l0 t0 ps q L k W' vk :=
  ⟨h.ls.others hg hr, h.bl.others hg fun r e => (hr r e).2, h.bt.others hg fun r e => (hr r e).2, h.nb, h.li, Nat.le_trans h.sz hg.size⟩
theorem RowI.alloc {w W : World} {lb : Nat} {v : Value} {l0 t0 : Nat} {ps : List PT} {q : Nat} {L : List St} {k : Nat} {vk : Value} (h : RowI B w lb v l0 t0 ps q L k W vk) (o : Obj) : RowI B w lb v l0 t0 ps q L k (W.alloc o) vk :=
  h.others (World.grownBy_alloc W o none) fun r e => by cases e
set_option maxHeartbeats 4000000 in
set_option maxRecDepth 100000 in
theorem n_row (lb : Nat) (w0 : World) (ki : Int) (s : S4) (m n : Int) (a : Option Addr) (c : Nat) (ps : List NT) (hok : ∀ t ∈ ps, LayOK B lb w0 t) (hlaid : ∀ t ∈ ps.map NT.pt, Laid (layT t) (cnt t)) (hw0 : w0.heap.size ≤ B)
    (hrow : RowAt w0 a (ps.flatMap NT.cells)) (hps : ∀ t ∈ ps, t.Lies w0) (hpl : ps.length ≤ 1099511627776)
    (L : List St) (q : Nat) (v : Value) (w : World) (h : LC B w lb L v) (hb : Below w0.heap.size w0 w) (hi : LI L q) (hlen : L.length + cntL (ps.map NT.pt) ≤ 1048576) :
    Calls Try.prog 41 #[.pointer (some ⟨lb, 0, none⟩), nodeVal ki s m n (.slice a ps.length c), .int .i64 (q : Nat)] w fun e w' => LRet B lb v (layRow (ps.map NT.pt) q L).1 (layRow (ps.map NT.pt) q L).2 w e w' := by
  refine (callsIn_wide (n := 9)).1 ?_
  obtain ⟨len, hl⟩ : ∃ len, ps.length = len := ⟨_, rfl⟩
  rw [hl]
  have HL := Lib.hid hl
  have HROW := Lib.hid hrow
  have HPS := Lib.hid hps
  have HOK := Lib.hid hok
  have HLAID := Lib.hid hlaid
  have HH := Lib.hid h
  have HB := Lib.hid hb
  have HI := Lib.hid hi
  have HLEN := Lib.hid hlen
  have hlt := h.lt
  have hbase := h.base
  have hv : ∀ i, w.heap.size ≤ i → i ≤ w.heap.size + 2 + 1 → v.ownBlock ≠ some i := fun i hi _ e => absurd (World.ownsRow.lt h.row _ e).2 (by omega)
  clear hrow hps hok hlaid h hb hi hlen hl
  refine callsIn_of_wp_marks Try.func41 rfl trivial ?_ rfl
  simp only [Try.ntmps41, List.size_toArray, List.length_cons, List.length_nil, Nat.reduceAdd, Nat.reduceSub, Array.replicate_succ, Array.replicate_zero, List.push_toArray, List.append_toArray, List.nil_append, List.cons_append]
  gi_wp2_with (refine ⟨trivial, ?_⟩; gi_at_call 45; refine (n_backward (F := Fence.wide) (n := 8) trivial rfl a len c _).mono ?_; rintro e w' ⟨rfl, rfl⟩)
  obtain ⟨W2, hW2⟩ : ∃ W2, (((w.alloc (.cells #[.pointer (some ⟨lb, 0, none⟩)] 48)).alloc (.cells #[.int .i64 ki, .int .u64 (s.a : Nat), .int .u64 (s.b : Nat), .int .u64 (s.c : Nat), .int .u64 (s.d : Nat), .int .i64 m, .int .i64 n, .slice a len c] 27)).alloc (.cells #[.int .i64 (q : Nat)] 3)).alloc (.cells #[.slice a len c] 25) = W2 := ⟨_, rfl⟩
  have hsz : W2.heap.size = w.heap.size + 4 := by rw [← hW2]; simp
  have hb2 : Below w.heap.size w W2 := by rw [← hW2]; exact ((((Below.refl _ w).alloc (Nat.le_refl _) _).alloc (by simp) _).alloc (by simp; omega) _).alloc (by simp; omega) _
  have hI0 : RowI B w lb v w.heap.size (w.heap.size + 2) (ps.map NT.pt) q L 0 W2 v := by
    refine ⟨by rw [rowK_zero]; exact (LS.refl HH.out).below hb2, ?_, ?_, hv, by rw [rowK_zero]; exact HI.out, by omega⟩
    · rw [← hW2]; exact (((CB.new w _ _).alloc _).alloc _).alloc _
    · rw [← hW2, rowK_zero]; exact (cb3 w _ _ _ _).alloc _
  have hcs : W2.cell? ⟨w.heap.size + 3, 0, none⟩ = some (.slice a len c) := by rw [← hW2]; exact CB.cell (show CB _ _ _ [_] from by simpa using CB.new (((w.alloc _).alloc _).alloc _) _ [.slice a len c]) 0
  rw [hW2]
  refine wpIn_rounds (F := Fence.wide) (n := 9) rfl (by decide) (gf := 51) (lb := #[.pointer (some ⟨w.heap.size + 1 + 1 + 1, 0, none⟩)]) rfl trivial (enters_of Try.func51 (by kernel_rfl) rfl)
    (n_back (F := Fence.wide) (n := 8) trivial rfl (by decide) w0 W2 (w.heap.size + 3) ps a c hpl (by omega) (HB.out.trans (hb2.mono HB.out.size)) (by rw [HL.out]; exact hcs) HROW.out HPS.out)
    (fun h k => ⟨k.1.trans h.1, h.2.trans k.2⟩) (fun W l o o' hl h h1 h2 => ⟨World.putObj_heap_other (by omega), belowK_b (w := W2) (Nat.le_trans HB.out.size (by omega)) W l o o' hl h h1 h2⟩) (Below.refl _ _) (fun _ => rfl)
    (fun k W => ∃ vk, RowI B w lb v w.heap.size (w.heap.size + 2) (ps.map NT.pt) q L k W vk)
    (fun k W W' row ⟨vk, hs⟩ hg hr => ⟨vk, hs.others hg fun r e => ⟨Nat.le_trans (by omega) (hr r e).1, (hr r e).2⟩⟩) ⟨v, hI0⟩
    (fun k a' W => ∃ vk Bx j i tk tS tm tn ta tl tc tps, RowI B w lb v w.heap.size (w.heap.size + 2) (ps.map NT.pt) q L k W vk ∧ j + 1 + k = len ∧ ps[j]? = some (.mk tk tS tm tn (.slice ta tl tc) tps) ∧ CB W 27 Bx (nodeCells tk tS tm tn (.slice ta tl tc)) ∧ vk.ownBlock ≠ some Bx ∧ w.heap.size + 4 ≤ Bx ∧ a' = { tmps := #[.pointer (some ⟨lb, 0, none⟩), nodeVal ki s m n (.slice a len c),
      .int .i64 (q : Nat), .pointer (some ⟨w.heap.size, 0, none⟩), .pointer (some ⟨w.heap.size + 1, 0, none⟩), .pointer (some ⟨w.heap.size + 1 + 1, 0, none⟩), .int .i64 0, undef, .pointer (some ⟨Bx, 0, none⟩), .pointer (some ⟨w.heap.size + 1, 7, none⟩), .slice a len c, .func (.func 51) #[] #[.pointer (some ⟨w.heap.size + 1 + 1 + 1, 0, none⟩)], .int .i64 (i : Nat), nodeVal tk tS tm tn (.slice ta tl tc), undef, undef, undef, undef, undef], defers := [] })
    ?hA ?assign ?body ?done
  case hA =>
    rintro a' k W W' row ⟨vk, Bx, j, i, tk, tS, tm, tn, ta, tl, tc, tps, hs, hj, he, hB, hn, hx, ea⟩ hg hr
    exact ⟨vk, Bx, j, i, tk, tS, tm, tn, ta, tl, tc, tps, hs.others hg fun r e => ⟨Nat.le_trans (by omega) (hr r e).1, (hr r e).2⟩, hj, he, hB.others hg fun r e => (hr r e).2, hn, hx, ea⟩
  case assign =>
    rintro l k W hk ⟨vk, hs⟩
    obtain ⟨j, hj⟩ : ∃ j, j + 1 + k = len := ⟨len - 1 - k, by have := HL.out; omega⟩
    have hip : j < ps.length := by rw [HL.out]; omega
    obtain ⟨b, off, tk, tS, tm, tn, ta, tl, tc, tps, ha, ht, htm, hra⟩ := lies_elem HROW.out HPS.out hip
    have henc : backN ps k = #[.int .i64 (j : Int), nodeVal tk tS tm tn (.slice ta tl tc)] := by
      have h1 : ps.length - 1 - k = j := by rw [HL.out]; omega
      unfold backN
      rw [h1, List.getElem?_eq_getElem hip, ht]
      rfl
    rw [henc]
    have HS := Lib.hid hs
    have HE : Hid (ps[j]? = some (.mk tk tS tm tn (.slice ta tl tc) tps)) := by show _ = _; rw [List.getElem?_eq_getElem hip, ht]
    have HJ := Lib.hid hj
    clear hs hj hra ht ha henc htm hip
    have hWs := HS.out.sz
    have hne : vk.ownBlock ≠ some W.heap.size := fun e => absurd (World.ownsRow.lt HS.out.ls.at_.row _ e).2 (by omega)
    gi_wp2
    exact ⟨(KeepsOthers.alloc _ _).from _, ⟨Below.heap_alloc _ _ _ (by omega), (Below.refl _ _).alloc (by have := HB.out.size; omega) _⟩, vk, W.heap.size, j, j, tk, tS, tm, tn, ta, tl, tc, tps, HS.out.alloc _, HJ.out, HE.out, CB.new W _ _, hne, by omega, rfl⟩
  case body =>
    rintro l k a' W hk ⟨vk, Bx, j, i, tk, tS, tm, tn, ta, tl, tc, tps, hs, hj, he, hB, hn, hx, rfl⟩
    have hmem : NT.mk tk tS tm tn (.slice ta tl tc) tps ∈ ps := List.mem_of_getElem? he
    have hjl : j < ps.length := by rw [HL.out]; omega
    have hpt : (ps.map NT.pt)[j]'(by rw [List.length_map]; exact hjl) = (NT.mk tk tS tm tn (.slice ta tl tc) tps).pt := by
      rw [List.getElem?_eq_getElem hjl] at he
      injection he with he
      rw [List.getElem_map, he]
    have hstep := rowK_succ (ps.map NT.pt) q L (j := j) (k := k) (by rw [List.length_map, HL.out]; exact hj) (by rw [List.length_map]; exact hjl)
    rw [hpt] at hstep
    have hlk := (rowK_laid (ps.map NT.pt) HLAID.out q L k HI.out).1
    have hlk2 := rowK_laid (ps.map NT.pt) HLAID.out q L (k + 1) HI.out
    have hbd : (rowK (ps.map NT.pt) q L k).1.length + cnt (NT.mk tk tS tm tn (.slice ta tl tc) tps).pt ≤ 1048576 := by
      have h1 := cntL_drop (ps.map NT.pt) j
      rw [List.drop_eq_getElem_cons (by rw [List.length_map]; exact hjl), hpt, cntL] at h1
      rw [List.length_map, HL.out, show len - k = j + 1 by omega] at hlk
      have := HLEN.out
      omega
    have hcall := HOK.out _ hmem _ _ vk W hs.ls.at_ (hs.ls.from0 HH.out HB.out hw0) hs.li.1 hs.li.2.1 hs.li.2.2 hbd
    rw [← hstep] at hcall
    have HCALL := Lib.hid hcall
    have HS := Lib.hid hs
    have HLI := Lib.hid hlk2.2
    have HRA := Lib.hid hB.range0
    have hc1 : W.cell? ⟨w.heap.size, 0, none⟩ = some (.pointer (some ⟨lb, 0, none⟩)) := hs.bl.cell 0
    have hc3 : W.cell? ⟨w.heap.size + 2, 0, none⟩ = some (.int .i64 ((rowK (ps.map NT.pt) q L k).2 : Nat)) := hs.bt.cell 0
    obtain ⟨p, hp⟩ : ∃ p, (rowK (ps.map NT.pt) q L k).2 = p := ⟨_, rfl⟩
    rw [hp] at hc3 HCALL
    have HJ := Lib.hid hj
    have hsz2 := hs.sz
    have hl1 : w.heap.size ≠ lb := by omega
    have hnl : vk.ownBlock ≠ some w.heap.size := hs.nb _ (Nat.le_refl _) (by omega)
    have hnt : vk.ownBlock ≠ some (w.heap.size + 2) := hs.nb _ (by omega) (by omega)
    have hns : vk.ownBlock ≠ some (w.heap.size + 3) := hs.nb _ (by omega) (by omega)
    have hl2 : w.heap.size + 2 ≠ lb := by omega
    clear hs hcall hstep hlk hlk2 hbd hB hmem hpt he hj hp hjl
    gi_wp2_with (first | (refine wplIn_loadN (.tmp 8) rfl rfl (g := Bx) (off := 0) (k := tk) (s := tS) (m := tm) (n := tn) (p := .slice ta tl tc) ?_ ?_ ?_; rfl; exact HRA.out) | (refine ⟨trivial, ?_⟩; gi_at_call 21; refine (CallsIn.inRound l (callsIn_wide.2 HCALL.out)).mono ?_; rintro e w2 ⟨rfl, v2, hS2⟩; have hbt := hS2.box HS.out.bt hl2 hnt; have hf3 : w2.frozen? ⟨w.heap.size + 2, 0, none⟩ = false := hbt.free 0; have hd3 := hbt.cell 0; have HS2 := Lib.hid hS2; clear hS2 hbt))
    have hkb : KeepB (w.heap.size + 3) w0.heap.size W (w2.setCell ⟨w.heap.size + 2, 0, none⟩ (.int .i64 ((rowK (ps.map NT.pt) q L (k + 1)).2 : Nat))) :=
      ⟨(Below.heap_setCell w2 _ _ _ (by show w.heap.size + 3 ≠ w.heap.size + 2; omega)).trans (HS2.out.chg.block _ (by omega) fun e => e.elim (fun e => by omega) hns), (HS2.out.low HS.out.ls.at_ hw0).setCell (p := ⟨w.heap.size + 2, 0, none⟩) (by have := HB.out.size; show _ ≤ w.heap.size + 2; omega) _⟩
    have hnb : ∀ i, w.heap.size ≤ i → i ≤ w.heap.size + 2 + 1 → v2.ownBlock ≠ some i := fun i hi hj e => (HS2.out.own i e).elim (HS.out.nb i hi hj) fun e => by omega
    have hnbt : v2.ownBlock ≠ some (w.heap.size + 2) := hnb (w.heap.size + 2) (by omega) (by omega)
    exact ⟨(HS2.out.keeps HS.out.ls.at_).trans ((KeepsOthers.setCell _ _ _).from _), hkb, v2, (HS.out.ls.trans HS2.out).set (p := ⟨w.heap.size + 2, 0, none⟩) (by show w.heap.size + 2 ≠ lb; omega) hnbt (by show _ ≤ w.heap.size + 2; omega) _, CB.other (HS2.out.box HS.out.bl hl1 hnl) _ (by show w.heap.size + 2 ≠ w.heap.size; omega) _,
      CB.set (HS2.out.box HS.out.bt hl2 hnt) 0 _, hnb, HLI.out, by have := HS2.out.chg.size; simp [World.setCell]; omega⟩
  case done =>
    rintro D W hD ⟨vk, hs⟩ hK
    have hc3 : W.cell? ⟨w.heap.size + 2, 0, none⟩ = some (.int .i64 ((rowK (ps.map NT.pt) q L ps.length).2 : Nat)) := hs.bt.cell 0
    have HS := Lib.hid hs
    clear hs
    gi_wp2
    refine ⟨by simp, .inl ⟨_, _, rfl, run_takeDeferred hK, ?_⟩⟩
    refine ⟨_, results_tmp rfl _ _ _, ?_⟩
    have e1 := rowK_all (ps.map NT.pt) q L
    rw [List.length_map] at e1
    rw [← e1]
    exact ⟨rfl, vk, HS.out.ls.others (grownBy_putObj' W D _) fun r e => by cases e; exact ⟨by omega, _, hK, rfl⟩⟩
end Go.Proofs.Ytboebadpohjolaa
