import Derived.Test.YthhchpmlljfpjaaGreatNP3
namespace Go.Proofs.YthhchpmlljfpjaaGreat
open Go.RowKit

section
open Go.RowKit Go.Shelf
attribute [local go_sem] Oper.semAt_some

variable {B : Nat}

theorem LS.set {a b : World} {lb : Nat} {v0 v1 : Value} {L : List St} (h : LS B a b lb v0 L v1) {p : Addr} (h1 : p.block ≠ lb) (h2 : v1.ownBlock ≠ some p.block) (h3 : a.heap.size ≤ p.block) (u : Value) : LS B a (b.setCell p u) lb v0 L v1 :=
  ⟨⟨CB.other h.at_.box p h1 u, ((Chg.refl (fun k => k = p.block) b).setCell rfl u).ownsS h.at_.row fun k hk e => h2 (by rw [hk, e]), h.at_.ne, h.at_.base⟩, h.chg.step ((Chg.refl (fun k => k = p.block) b).setCell rfl u) fun i hi hlt => (by omega), h.own⟩
/-- What is known between two rounds of a row: l0 the box of the layout's address, t0 that of the state to which the next part is laid. -/
structure RowI (B : Nat) (w : World) (lb : Nat) (v : Value) (l0 t0 : Nat) (ps : List PT) (q : Nat) (L : List St) (k : Nat) (W : World) (vk : Value) : Prop where
  ls : LS B w W lb v (rowK ps q L k).1 vk
  bl : CB W 63 l0 [.pointer (some ⟨lb, 0, none⟩)]
  bt : CB W 3 t0 [.int .i64 ((rowK ps q L k).2 : Nat)]
  nb : ∀ i, l0 ≤ i → i ≤ t0 + 1 → vk.ownBlock ≠ some i
  li : LI (rowK ps q L k).1 (rowK ps q L k).2
  sz : t0 + 2 ≤ W.heap.size
theorem RowI.others {w W W' : World} {lb : Nat} {v : Value} {l0 t0 : Nat} {ps : List PT} {q : Nat} {L : List St} {k : Nat} {vk : Value} {row : Option Nat} (h : RowI B w lb v l0 t0 ps q L k W vk) (hg : W.grownBy W' row) (hr : ∀ r, row = some r → w.heap.size ≤ r ∧ ∃ o : Obj, W.heap[r]? = some o ∧ o.isCells = false) : RowI B w lb v l0 t0 ps q L k W' vk :=
  ⟨h.ls.others hg hr, h.bl.others hg fun r e => (hr r e).2, h.bt.others hg fun r e => (hr r e).2, h.nb, h.li, Nat.le_trans h.sz hg.size⟩
theorem RowI.alloc {w W : World} {lb : Nat} {v : Value} {l0 t0 : Nat} {ps : List PT} {q : Nat} {L : List St} {k : Nat} {vk : Value} (h : RowI B w lb v l0 t0 ps q L k W vk) (o : Obj) : RowI B w lb v l0 t0 ps q L k (W.alloc o) vk :=
  h.others (World.grownBy_alloc W o none) fun r e => by cases e
set_option maxHeartbeats 4000000 in
set_option maxRecDepth 100000 in
theorem n_row (lb : Nat) (w0 : World) (ki : Int) (s : S4) (m n : Int) (a : Option Addr) (c : Nat) (ps : List NT) (hok : ∀ t ∈ ps, LayOK B lb w0 t) (hlaid : ∀ t ∈ ps.map NT.pt, Laid (layT t) (cnt t)) (hw0 : w0.heap.size ≤ B)
    (hrow : RowAt w0 a (ps.flatMap NT.cells)) (hps : ∀ t ∈ ps, t.Lies w0) (hpl : ps.length ≤ 1099511627776)
    (L : List St) (q : Nat) (v : Value) (w : World) (h : LC B w lb L v) (hb : Below w0.heap.size w0 w) (hi : LI L q) (hlen : L.length + cntL (ps.map NT.pt) ≤ 1048576) :
    Calls Tryz.prog 75 #[.pointer (some ⟨lb, 0, none⟩), nodeVal ki s m n (.slice a ps.length c), .int .i64 (q : Nat)] w fun e w' => LRet B lb v (layRow (ps.map NT.pt) q L).1 (layRow (ps.map NT.pt) q L).2 w e w' := by
  refine (callsIn_wide (n := 9)).1 ?_
  obtain ⟨len, hl⟩ : ∃ len, ps.length = len := ⟨_, rfl⟩
  rw [hl]
  have HL := Lib.hid hl
  have HROW := Lib.hid hrow
  have HPS := Lib.hid hps
  have HOK := Lib.hid hok
  have HLAID := Lib.hid hlaid
  have HH := Lib.hid h
  have HB := Lib.hid hb
  have HI := Lib.hid hi
  have HLEN := Lib.hid hlen
  have hlt := h.lt
  have hbase := h.base
  have hv : ∀ i, w.heap.size ≤ i → i ≤ w.heap.size + 2 + 1 → v.ownBlock ≠ some i := fun i hi _ e => absurd (World.ownsRow.lt h.row _ e).2 (by omega)
  clear hrow hps hok hlaid h hb hi hlen hl
  refine callsIn_of_wp_marks Tryz.func75 rfl trivial ?_ rfl
  simp only [Tryz.ntmps75, List.size_toArray, List.length_cons, List.length_nil, Nat.reduceAdd, Nat.reduceSub, Array.replicate_succ, Array.replicate_zero, List.push_toArray, List.append_toArray, List.nil_append, List.cons_append]
  gi_wp2_with (refine ⟨trivial, ?_⟩; gi_at_call 86; refine (n_backward (F := Fence.wide) (n := 8) trivial rfl a len c _).mono ?_; rintro e w' ⟨rfl, rfl⟩)
  obtain ⟨W2, hW2⟩ : ∃ W2, (((w.alloc (.cells #[.pointer (some ⟨lb, 0, none⟩)] 63)).alloc (.cells #[.int .i64 ki, .int .u64 (s.a : Nat), .int .u64 (s.b : Nat), .int .u64 (s.c : Nat), .int .u64 (s.d : Nat), .int .i64 m, .int .i64 n, .slice a len c] 42)).alloc (.cells #[.int .i64 (q : Nat)] 3)).alloc (.cells #[.slice a len c] 40) = W2 := ⟨_, rfl⟩
  have hsz : W2.heap.size = w.heap.size + 4 := by rw [← hW2]; simp
  have hb2 : Below w.heap.size w W2 := by rw [← hW2]; exact ((((Below.refl _ w).alloc (Nat.le_refl _) _).alloc (by simp) _).alloc (by simp; omega) _).alloc (by simp; omega) _
  have hI0 : RowI B w lb v w.heap.size (w.heap.size + 2) (ps.map NT.pt) q L 0 W2 v := by
    refine ⟨by rw [rowK_zero]; exact (LS.refl HH.out).below hb2, ?_, ?_, hv, by rw [rowK_zero]; exact HI.out, by omega⟩
    · rw [← hW2]; exact (((CB.new w _ _).alloc _).alloc _).alloc _
    · rw [← hW2, rowK_zero]; exact (cb3 w _ _ _ _).alloc _
  have hcs : W2.cell? ⟨w.heap.size + 3, 0, none⟩ = some (.slice a len c) := by rw [← hW2]; exact CB.cell (show CB _ _ _ [_] from by simpa using CB.new (((w.alloc _).alloc _).alloc _) _ [.slice a len c]) 0
  rw [hW2]
  refine wpIn_rounds (F := Fence.wide) (n := 9) rfl (by decide) (gf := 100) (lb := #[.pointer (some ⟨w.heap.size + 1 + 1 + 1, 0, none⟩)]) rfl trivial (enters_of Tryz.func100 (by kernel_rfl) rfl)
    (n_back (F := Fence.wide) (n := 8) trivial rfl (by decide) w0 W2 (w.heap.size + 3) ps a c hpl (by omega) (HB.out.trans (hb2.mono HB.out.size)) (by rw [HL.out]; exact hcs) HROW.out HPS.out)
    (fun h k => ⟨k.1.trans h.1, h.2.trans k.2⟩) (fun W l o o' hl h h1 h2 => ⟨World.putObj_heap_other (by omega), belowK_b (w := W2) (Nat.le_trans HB.out.size (by omega)) W l o o' hl h h1 h2⟩) (Below.refl _ _) (fun _ => rfl)
    (fun k W => ∃ vk, RowI B w lb v w.heap.size (w.heap.size + 2) (ps.map NT.pt) q L k W vk)
    (fun k W W' row ⟨vk, hs⟩ hg hr => ⟨vk, hs.others hg fun r e => ⟨Nat.le_trans (by omega) (hr r e).1, (hr r e).2⟩⟩) ⟨v, hI0⟩
    (fun k a' W => ∃ vk Bx j i tk tS tm tn ta tl tc tps, RowI B w lb v w.heap.size (w.heap.size + 2) (ps.map NT.pt) q L k W vk ∧ j + 1 + k = len ∧ ps[j]? = some (.mk tk tS tm tn (.slice ta tl tc) tps) ∧ CB W 42 Bx (nodeCells tk tS tm tn (.slice ta tl tc)) ∧ vk.ownBlock ≠ some Bx ∧ w.heap.size + 4 ≤ Bx ∧ a' = { tmps := #[.pointer (some ⟨lb, 0, none⟩), nodeVal ki s m n (.slice a len c),
      .int .i64 (q : Nat), .pointer (some ⟨w.heap.size, 0, none⟩), .pointer (some ⟨w.heap.size + 1, 0, none⟩), .pointer (some ⟨w.heap.size + 1 + 1, 0, none⟩), .int .i64 0, undef, .pointer (some ⟨Bx, 0, none⟩), .pointer (some ⟨w.heap.size + 1, 7, none⟩), .slice a len c, .func (.func 100) #[] #[.pointer (some ⟨w.heap.size + 1 + 1 + 1, 0, none⟩)], .int .i64 (i : Nat), nodeVal tk tS tm tn (.slice ta tl tc), undef, undef, undef, undef, undef], defers := [] })
    ?hA ?assign ?body ?done
  case hA =>
    rintro a' k W W' row ⟨vk, Bx, j, i, tk, tS, tm, tn, ta, tl, tc, tps, hs, hj, he, hB, hn, hx, ea⟩ hg hr
    exact ⟨vk, Bx, j, i, tk, tS, tm, tn, ta, tl, tc, tps, hs.others hg fun r e => ⟨Nat.le_trans (by omega) (hr r e).1, (hr r e).2⟩, hj, he, hB.others hg fun r e => (hr r e).2, hn, hx, ea⟩
  case assign =>
    rintro l k W hk ⟨vk, hs⟩
    obtain ⟨j, hj⟩ : ∃ j, j + 1 + k = len := ⟨len - 1 - k, by have := HL.out; omega⟩
    have hip : j < ps.length := by rw [HL.out]; omega
    obtain ⟨b, off, tk, tS, tm, tn, ta, tl, tc, tps, ha, ht, htm, hra⟩ := lies_elem HROW.out HPS.out hip
    have henc : backN ps k = #[.int .i64 (j : Int), nodeVal tk tS tm tn (.slice ta tl tc)] := by
      have h1 : ps.length - 1 - k = j := by rw [HL.out]; omega
      unfold backN
      rw [h1, List.getElem?_eq_getElem hip, ht]
      rfl
    rw [henc]
    have HS := Lib.hid hs
    have HE : Hid (ps[j]? = some (.mk tk tS tm tn (.slice ta tl tc) tps)) := by show _ = _; rw [List.getElem?_eq_getElem hip, ht]
    have HJ := Lib.hid hj
    clear hs hj hra ht ha henc htm hip
    have hWs := HS.out.sz
    have hne : vk.ownBlock ≠ some W.heap.size := fun e => absurd (World.ownsRow.lt HS.out.ls.at_.row _ e).2 (by omega)
    gi_wp2
    exact ⟨(KeepsOthers.alloc _ _).from _, ⟨Below.heap_alloc _ _ _ (by omega), (Below.refl _ _).alloc (by have := HB.out.size; omega) _⟩, vk, W.heap.size, j, j, tk, tS, tm, tn, ta, tl, tc, tps, HS.out.alloc _, HJ.out, HE.out, CB.new W _ _, hne, by omega, rfl⟩
  case body =>
    rintro l k a' W hk ⟨vk, Bx, j, i, tk, tS, tm, tn, ta, tl, tc, tps, hs, hj, he, hB, hn, hx, rfl⟩
    have hmem : NT.mk tk tS tm tn (.slice ta tl tc) tps ∈ ps := List.mem_of_getElem? he
    have hjl : j < ps.length := by rw [HL.out]; omega
    have hpt : (ps.map NT.pt)[j]'(by rw [List.length_map]; exact hjl) = (NT.mk tk tS tm tn (.slice ta tl tc) tps).pt := by
      rw [List.getElem?_eq_getElem hjl] at he
      injection he with he
      rw [List.getElem_map, he]
    have hstep := rowK_succ (ps.map NT.pt) q L (j := j) (k := k) (by rw [List.length_map, HL.out]; exact hj) (by rw [List.length_map]; exact hjl)
    rw [hpt] at hstep
    have hlk := (rowK_laid (ps.map NT.pt) HLAID.out q L k HI.out).1
    have hlk2 := rowK_laid (ps.map NT.pt) HLAID.out q L (k + 1) HI.out
    have hbd : (rowK (ps.map NT.pt) q L k).1.length + cnt (NT.mk tk tS tm tn (.slice ta tl tc) tps).pt ≤ 1048576 := by
      have h1 := cntL_drop (ps.map NT.pt) j
      rw [List.drop_eq_getElem_cons (by rw [List.length_map]; exact hjl), hpt, cntL] at h1
      rw [List.length_map, HL.out, show len - k = j + 1 by omega] at hlk
      have := HLEN.out
      omega
    have hcall := HOK.out _ hmem _ _ vk W hs.ls.at_ (hs.ls.from0 HH.out HB.out hw0) hs.li.1 hs.li.2.1 hs.li.2.2 hbd
    rw [← hstep] at hcall
    have HCALL := Lib.hid hcall
    have HS := Lib.hid hs
    have HLI := Lib.hid hlk2.2
    have HRA := Lib.hid hB.range0
    have hc1 : W.cell? ⟨w.heap.size, 0, none⟩ = some (.pointer (some ⟨lb, 0, none⟩)) := hs.bl.cell 0
    have hc3 : W.cell? ⟨w.heap.size + 2, 0, none⟩ = some (.int .i64 ((rowK (ps.map NT.pt) q L k).2 : Nat)) := hs.bt.cell 0
    obtain ⟨p, hp⟩ : ∃ p, (rowK (ps.map NT.pt) q L k).2 = p := ⟨_, rfl⟩
    rw [hp] at hc3 HCALL
    have HJ := Lib.hid hj
    have hsz2 := hs.sz
    have hl1 : w.heap.size ≠ lb := by omega
    have hnl : vk.ownBlock ≠ some w.heap.size := hs.nb _ (Nat.le_refl _) (by omega)
    have hnt : vk.ownBlock ≠ some (w.heap.size + 2) := hs.nb _ (by omega) (by omega)
    have hns : vk.ownBlock ≠ some (w.heap.size + 3) := hs.nb _ (by omega) (by omega)
    have hl2 : w.heap.size + 2 ≠ lb := by omega
    clear hs hcall hstep hlk hlk2 hbd hB hmem hpt he hj hp hjl
    gi_wp2_with (first | (refine wplIn_loadN (.tmp 8) rfl rfl (g := Bx) (off := 0) (k := tk) (s := tS) (m := tm) (n := tn) (p := .slice ta tl tc) ?_ ?_ ?_; rfl; exact HRA.out) | (refine ⟨trivial, ?_⟩; gi_at_call 36; refine (CallsIn.inRound l (callsIn_wide.2 HCALL.out)).mono ?_; rintro e w2 ⟨rfl, v2, hS2⟩; have hbt := hS2.box HS.out.bt hl2 hnt; have hf3 : w2.frozen? ⟨w.heap.size + 2, 0, none⟩ = false := hbt.free 0; have hd3 := hbt.cell 0; have HS2 := Lib.hid hS2; clear hS2 hbt))
    have hkb : KeepB (w.heap.size + 3) w0.heap.size W (w2.setCell ⟨w.heap.size + 2, 0, none⟩ (.int .i64 ((rowK (ps.map NT.pt) q L (k + 1)).2 : Nat))) :=
      ⟨(Below.heap_setCell w2 _ _ _ (by show w.heap.size + 3 ≠ w.heap.size + 2; omega)).trans (HS2.out.chg.block _ (by omega) fun e => e.elim (fun e => by omega) hns), (HS2.out.low HS.out.ls.at_ hw0).setCell (p := ⟨w.heap.size + 2, 0, none⟩) (by have := HB.out.size; show _ ≤ w.heap.size + 2; omega) _⟩
    have hnb : ∀ i, w.heap.size ≤ i → i ≤ w.heap.size + 2 + 1 → v2.ownBlock ≠ some i := fun i hi hj e => (HS2.out.own i e).elim (HS.out.nb i hi hj) fun e => by omega
    have hnbt : v2.ownBlock ≠ some (w.heap.size + 2) := hnb (w.heap.size + 2) (by omega) (by omega)
    exact ⟨(HS2.out.keeps HS.out.ls.at_).trans ((KeepsOthers.setCell _ _ _).from _), hkb, v2, (HS.out.ls.trans HS2.out).set (p := ⟨w.heap.size + 2, 0, none⟩) (by show w.heap.size + 2 ≠ lb; omega) hnbt (by show _ ≤ w.heap.size + 2; omega) _, CB.other (HS2.out.box HS.out.bl hl1 hnl) _ (by show w.heap.size + 2 ≠ w.heap.size; omega) _,
      CB.set (HS2.out.box HS.out.bt hl2 hnt) 0 _, hnb, HLI.out, by have := HS2.out.chg.size; simp [World.setCell]; omega⟩
  case done =>
    rintro D W hD ⟨vk, hs⟩ hK
    have hc3 : W.cell? ⟨w.heap.size + 2, 0, none⟩ = some (.int .i64 ((rowK (ps.map NT.pt) q L ps.length).2 : Nat)) := hs.bt.cell 0
    have HS := Lib.hid hs
    clear hs
    gi_wp2
    refine ⟨by simp, .inl ⟨_, _, rfl, run_takeDeferred hK, ?_⟩⟩
    refine ⟨_, results_tmp rfl _ _ _, ?_⟩
    have e1 := rowK_all (ps.map NT.pt) q L
    rw [List.length_map] at e1
    rw [← e1]
    exact ⟨rfl, vk, HS.out.ls.others (grownBy_putObj' W D _) fun r e => by cases e; exact ⟨by omega, _, hK, rfl⟩⟩
end

section
open Go.RowKit Go.Shelf
attribute [local go_sem] Oper.semAt_some

/-! slices.Backward over a row of numbers; an append inside a fence; the pure side of a choice. -/
theorem wplIn_app {F : Fence} {N : Nat} (T E : TypeId) (hT : Tryz.prog.underlying T = some (.slice E)) {z : Value} {bytes : Nat} (hI : (Tryz.prog.info? E).map (fun i => (i.zero, i.size, i.bytes)) = some (some z, 1, bytes)) (hzs : z.cells.size = 1) (hby : bytes ≤ 32)
    {w : World} {ops : Array Oper} {rest : List Oper} {o : Oper} {a : Act} {Q : Exit → Act → World → Prop} (hgd : o.guard = none) (s x : Operand)
    (ho : o.op = .call { callee := .builtin .append, args := #[s, x], argTypes := #[T, T] })
    (B : Nat) (v : Value) (n : Nat) (xs : List Value) (hs : a.eval s = v) (hown : w.ownsRow B E 1 v n xs) (b : Nat) (c : Value) (hx : a.eval x = .slice (some ⟨b, 0, none⟩) 1 1)
    (hc : w.cell? ⟨b, 0, none⟩ = some c) (h1 : c.oneCell' = true) (hn : n + 1 ≤ 4398046511104) (hB : B ≤ w.heap.size)
    (h : ∀ g cap w', w'.ownsRow B E 1 (.slice (some ⟨g, 0, none⟩) (n + 1) cap) (n + 1) (xs ++ [c]) → w.grownBy w' v.ownBlock → B ≤ g → g < w'.heap.size → Hid (v.ownBlock = some g ∨ g = w.heap.size) →
      wpListIn F N Tryz.prog ops Q rest (a.put o.dst (.slice (some ⟨g, 0, none⟩) (n + 1) cap)) w') :
    wpListIn F N Tryz.prog ops Q (o :: rest) a w := by
  refine wpListIn_plain hgd fun K hK => ?_
  obtain ⟨g, cap, w', hr, hown', hg, hBg, hlt, hor⟩ := run_app (P := Tryz.prog) T o.type E hT hI hzs hby B v n xs hown b c hc h1 hn hB
  refine ⟨?_, ?_⟩
  · simp [Oper.about, ho, resolve, Target.leads, Sem.run_pure]
  · rw [Oper.semAt_plain F _ _ (by rw [ho]; intro c hc'; cases hc')]
    unfold execOp
    simp only [ho, resolve, invoke, builtin, Sem.run_bind, Sem.run_pure, Result.andThen_ok, List.map_toArray, List.map_cons, List.map_nil, hs, hx, hr]
    exact hK _ _ (h g cap w' hown' hg hBg hlt hor)
def backI (bs : List Nat) (k : Nat) : Array Value := #[.int .i64 ((bs.length - 1 - k : Nat) : Int), .int .i64 ((bs[bs.length - 1 - k]?.getD 0 : Nat) : Int)]
def KeepG (B0 g : Nat) (W W' : World) : Prop := W'.heap[B0]? = W.heap[B0]? ∧ W'.heap[g]? = W.heap[g]?
set_option maxHeartbeats 2000000 in
set_option maxRecDepth 100000 in
theorem n_backI {F : Fence} {n : Nat} (hF : F.fn 101) (hro : F.round = none) (hn : 1 ≤ n) (w : World) (B0 g : Nat) (bs : List Nat) (c : Nat) (hlen : bs.length ≤ 1099511627776)
    (hB0 : B0 < w.heap.size) (hg : g < w.heap.size) (hc : w.cell? ⟨B0, 0, none⟩ = some (.slice (some ⟨g, 0, none⟩) bs.length c)) (hrow : ∀ j, j < bs.length → w.cell? ⟨g, j, none⟩ = some (.int .i64 ((bs[j]?.getD 0 : Nat) : Int))) :
    Rounds F n Tryz.prog 101 #[.pointer (some ⟨B0, 0, none⟩)] (backI bs) (KeepG B0 g) bs.length w := by
  intro l J W hW hJ hY h0
  have hcW := (hW.cell (p := ⟨B0, 0, none⟩) hB0).trans hc
  have hrW : ∀ j, j < bs.length → W.cell? ⟨g, j, none⟩ = some (.int .i64 ((bs[j]?.getD 0 : Nat) : Int)) := fun j hj => (hW.cell (p := ⟨g, j, none⟩) hg).trans (hrow j hj)
  obtain ⟨len, hl⟩ : ∃ len, bs.length = len := ⟨_, rfl⟩
  rw [hl] at hlen hc hcW hY hrW ⊢
  have HY := Lib.hid hY
  have HL := Lib.hid hl
  have HRW := Lib.hid hrW
  clear hY hrow hl hJ hrW hc
  refine callsIn_of_wp Tryz.func101 rfl hF ?_ hro
  simp only [Tryz.ntmps101, List.size_toArray, List.length_cons, List.length_nil, Nat.reduceAdd, Nat.reduceSub, Array.replicate_succ, Array.replicate_zero, List.push_toArray, List.append_toArray, List.nil_append, List.cons_append]
  gi_wp2
  gi_loopw [3] (fun i wr => ∃ (m k : Nat) (v : Int), m + k = len ∧ i = .int .i64 v ∧ v = (m : Int) - 1 ∧ wr.cell? ⟨B0, 0, none⟩ = some (.slice (some ⟨g, 0, none⟩) len c) ∧ Hid (J k wr) ∧ Hid (∀ j, j < len → wr.cell? ⟨g, j, none⟩ = some (.int .i64 ((bs[j]?.getD 0 : Nat) : Int)))) (fun i _ => (intOf i + 1).toNat)
  case atStart => exact ⟨len, 0, _, by omega, rfl, rfl, hcW, h0, HRW.out⟩
  case round =>
    obtain ⟨m, k, v, hmk, rfl, hv, hcr, HJ, HR0⟩ := hrel
    rcases m with _ | j
    · obtain rfl : v = -1 := by omega
      obtain rfl : k = len := by omega
      clear hmk hv
      gi_wp2
      go_end0
      exact ⟨⟨_, rfl⟩, HJ.out⟩
    · obtain rfl : v = (j : Int) := by omega
      have hjl : j < len := by omega
      obtain ⟨x, hx⟩ : ∃ x, bs[j]?.getD 0 = x := ⟨_, rfl⟩
      have hxc := HR0.out j hjl
      rw [hx] at hxc
      obtain ⟨fn, tmps, assign, body, hy, hR⟩ := HY.out k wr (by omega) HJ.out
      have henc : backI bs k = #[.int .i64 (j : Int), .int .i64 (x : Int)] := by
        have h1 : bs.length - 1 - k = j := by rw [HL.out]; omega
        unfold backI
        rw [h1, hx]
      rw [henc] at hy
      have HR := Lib.hid hR
      have HMK := Lib.hid hmk
      clear henc hR hmk hv hx
      gi_wp2
      refine HR.out.mono ?_
      rintro e W3 ⟨rfl, hJ3, hk3⟩
      have hc3 := (World.cell?_of_block (a := ⟨B0, 0, none⟩) hk3.1).trans hcr
      have HR3 : Hid (∀ j, j < len → W3.cell? ⟨g, j, none⟩ = some (.int .i64 ((bs[j]?.getD 0 : Nat) : Int))) := fun j hj => (World.cell?_of_block (a := ⟨g, j, none⟩) hk3.2).trans (HR0.out j hj)
      have HJ3 := Lib.hid hJ3
      clear hJ3 hk3
      gi_wp2
      go_roundw
      case rel => exact ⟨j, k + 1, _, (by have := HMK.out; omega), rfl, by go_num, hc3, HJ3.out, HR3.out⟩
      case measure => simp [intOf]
theorem n_backwardI {F : Fence} {n : Nat} (hF : F.fn 87) (hro : F.round = none) (a : Option Addr) (len c : Nat) (w : World) :
    CallsIn F n Tryz.prog 87 #[.slice a len c] w fun e w' => e = .returned (.func (.func 101) #[] #[.pointer (some ⟨w.heap.size, 0, none⟩)]) ∧ w' = w.alloc (.cells #[.slice a len c] 74) := by
  refine callsIn_of_wp Tryz.func87 rfl hF ?_ hro
  simp only [Tryz.ntmps87, List.size_toArray, List.length_cons, List.length_nil, Nat.reduceAdd, Nat.reduceSub, Array.replicate_succ, Array.replicate_zero, List.push_toArray, List.append_toArray, List.nil_append, List.cons_append]
  gi_wp2
  go_ret
  exact ⟨rfl, rfl⟩
theorem splits_snoc : ∀ (bs : List Nat) (b : Nat) (L : List St) (x : Nat), splits (bs ++ [b]) L x = ((splits bs L x).1 ++ [splitS b (splits bs L x).2], (splits bs L x).1.length)
  | [], b, L, x => by rw [List.nil_append, splits, splits, splits]
  | c :: bs, b, L, x => by rw [List.cons_append, splits, splits_snoc bs b, splits]
theorem splits_len : ∀ (bs : List Nat) (L : List St) (x : Nat), (splits bs L x).1.length = L.length + bs.length
  | [], L, x => by rw [splits]; rfl
  | b :: bs, L, x => by rw [splits, splits_len bs, List.length_append, List.length_singleton, List.length_cons]; omega
theorem layAll_snoc (ps : List PT) (t : PT) : ∀ (q : Nat) (L : List St), layAll (ps ++ [t]) q L = ((layT t q (layAll ps q L).1).1, (layAll ps q L).2 ++ [(layT t q (layAll ps q L).1).2]) := by
  induction ps with
  | nil => intro q L; rw [List.nil_append, layAll, layAll, layAll]; rfl
  | cons p ps ih => intro q L; simp only [List.cons_append, layAll, ih]
theorem layAll_len (ps : List PT) : ∀ (q : Nat) (L : List St), (layAll ps q L).2.length = ps.length := by
  induction ps with
  | nil => intro q L; rw [layAll]; rfl
  | cons p ps ih => intro q L; rw [layAll, List.length_cons, ih, List.length_cons]
theorem choose_eq (r : List St × List Nat) (q n : Nat) (h : r.2.length = n + 1) : choose r q = splits ((r.2.take n).reverse) r.1 (r.2[n]?.getD 0) := by
  obtain ⟨L, bs⟩ := r
  have hne : bs = bs.take n ++ [bs[n]?.getD 0] := by
    have h1 : n < bs.length := by show n < bs.length; have : bs.length = n + 1 := h; omega
    rw [List.getElem?_eq_getElem h1, Option.getD_some]
    conv => lhs; rw [← List.take_append_drop n bs, List.drop_eq_getElem_cons h1, List.drop_eq_nil_of_le (by have : bs.length = n + 1 := h; omega)]
  unfold choose
  show (match bs.reverse with | [] => _ | b :: l => _) = _
  rw [hne]
  simp only [List.reverse_append, List.reverse_cons, List.reverse_nil, List.nil_append, List.cons_append]
  have h2 : (bs.take n).length = n := by rw [List.length_take]; have : bs.length = n + 1 := h; omega
  show splits (bs.take n).reverse L (bs[n]?.getD 0) = _
  rw [List.take_append_of_le_length (by omega), List.take_take, Nat.min_self, List.getElem?_append_right (by omega), h2, Nat.sub_self]
  rfl
end

section
open Go.RowKit Go.Shelf
attribute [local go_sem] Oper.semAt_some

variable {B : Nat}

/-! A choice laid. -/
theorem infoInt : (Tryz.prog.info? 3).map (fun i => (i.zero, i.size, i.bytes)) = some (some (.int .i64 0), 1, 8) := by kernel_rfl
@[reducible] def intVs (bs : List Nat) : List Value := bs.map fun b => .int .i64 (b : Nat)
theorem LS.row {a w w' : World} {lb : Nat} {v v' : Value} {L : List St} {row : Option Nat} (h : LS B a w lb v L v') (hg : w.grownBy w' row) (h1 : row ≠ some lb) (h2 : ∀ k, row = some k → v'.ownBlock ≠ some k) (h3 : ∀ k, row = some k → a.heap.size ≤ k) : LS B a w' lb v L v' :=
  ⟨⟨CB.chg h.at_.box (Chg.of_grown hg) fun e => h1 e.symm, (Chg.of_grown hg).ownsS h.at_.row fun k hk e => h2 k e.symm hk, h.at_.ne, h.at_.base⟩, h.chg.step (Chg.of_grown hg) fun i hi hlt => (by have := h3 i hi.symm; omega), h.own⟩
theorem own_below {w w' : World} {b0 : Nat} {e : TypeId} {S : Nat} {v : Value} {n : Nat} {xs : List Value} (h : w.ownsRow b0 e S v n xs) (hb : Below w.heap.size w w') : w'.ownsRow b0 e S v n xs :=
  (Chg.of_below hb).ownsS h fun k hk => (by have := World.ownsRow.lt h k hk; omega)
theorem own_alloc {w : World} {b0 : Nat} {e : TypeId} {S : Nat} {v : Value} {n : Nat} {xs : List Value} (h : w.ownsRow b0 e S v n xs) (o : Obj) : (w.alloc o).ownsRow b0 e S v n xs := own_below h ((Below.refl _ _).alloc (Nat.le_refl _) o)
theorem cntL_snoc (ps : List PT) (t : PT) : cntL (ps ++ [t]) = cntL ps + cnt t := by
  induction ps with
  | nil => simp [cntL]
  | cons p ps ih => rw [List.cons_append, cntL, ih, cntL]; omega
theorem cntL_take (ps : List PT) (d : Nat) : cntL (ps.take d) ≤ cntL ps := by
  induction ps generalizing d with
  | nil => simp
  | cons t ts ih =>
    cases d with
    | zero => simp [cntL]
    | succ d => rw [List.take_succ_cons, cntL, cntL]; have := ih d; omega
/-- What is known while a choice's parts are laid: l0 the box of the layout's address, bv the begins. -/
structure ChI (B : Nat) (w : World) (lb : Nat) (v : Value) (ps : List PT) (q : Nat) (L : List St) (i : Nat) (W : World) (vk bv : Value) : Prop where
  ls : LS B w W lb v (layAll (ps.take i) q L).1 vk
  bl : CB W 63 w.heap.size [.pointer (some ⟨lb, 0, none⟩)]
  row : W.ownsRow (w.heap.size + 2) 3 1 bv i (intVs (layAll (ps.take i) q L).2)
  dis : ∀ k, bv.ownBlock = some k → vk.ownBlock ≠ some k
  nb : vk.ownBlock ≠ some w.heap.size
  li : LI (layAll (ps.take i) q L).1 q
  sz : w.heap.size + 2 ≤ W.heap.size
/-- What is known between two splits of a choice: b0 the box of the state that comes first so far. -/
structure SpI (B : Nat) (w : World) (lb : Nat) (v : Value) (b0 g : Nat) (M : List Nat) (P : List St) (x0 k : Nat) (W : World) (vk : Value) : Prop where
  ls : LS B w W lb v (splits (M.take k) P x0).1 vk
  bl : CB W 63 w.heap.size [.pointer (some ⟨lb, 0, none⟩)]
  bx : CB W 3 b0 [.int .i64 ((splits (M.take k) P x0).2 : Nat)]
  nb : ∀ i, i = w.heap.size ∨ i = b0 ∨ i = b0 + 1 ∨ i = g → vk.ownBlock ≠ some i
  sz : b0 + 2 ≤ W.heap.size
theorem SpI.others {w W W' : World} {lb : Nat} {v : Value} {b0 g : Nat} {M : List Nat} {P : List St} {x0 k : Nat} {vk : Value} {row : Option Nat} (h : SpI B w lb v b0 g M P x0 k W vk) (hg : W.grownBy W' row) (hr : ∀ r, row = some r → w.heap.size ≤ r ∧ ∃ o : Obj, W.heap[r]? = some o ∧ o.isCells = false) : SpI B w lb v b0 g M P x0 k W' vk :=
  ⟨h.ls.others hg hr, h.bl.others hg fun r e => (hr r e).2, h.bx.others hg fun r e => (hr r e).2, h.nb, Nat.le_trans h.sz hg.size⟩
theorem SpI.below {w W W' : World} {lb : Nat} {v : Value} {b0 g : Nat} {M : List Nat} {P : List St} {x0 k : Nat} {vk : Value} (h : SpI B w lb v b0 g M P x0 k W vk) (hb : Below W.heap.size W W') : SpI B w lb v b0 g M P x0 k W' vk :=
  ⟨h.ls.below hb, h.bl.below hb, h.bx.below hb, h.nb, Nat.le_trans h.sz hb.size⟩
set_option maxHeartbeats 4000000 in
set_option maxRecDepth 100000 in
theorem n_choice (lb : Nat) (w0 : World) (ki : Int) (s : S4) (m n : Int) (a : Option Addr) (c : Nat) (ps : List NT) (hok : ∀ t ∈ ps, LayOK B lb w0 t) (hlaid : ∀ t ∈ ps.map NT.pt, Laid (layT t) (cnt t)) (hw0 : w0.heap.size ≤ B)
    (hrow : RowAt w0 a (ps.flatMap NT.cells)) (hps : ∀ t ∈ ps, t.Lies w0) (last : Nat) (hpl : ps.length = last + 1) (hlast : last ≤ 1048576)
    (L : List St) (q : Nat) (v : Value) (w : World) (h : LC B w lb L v) (hb : Below w0.heap.size w0 w) (hi : LI L q) (hlen : L.length + cntL (ps.map NT.pt) + last ≤ 1048576) :
    Calls Tryz.prog 76 #[.pointer (some ⟨lb, 0, none⟩), nodeVal ki s m n (.slice a ps.length c), .int .i64 (q : Nat)] w fun e w' => LRet B lb v (choose (layAll (ps.map NT.pt) q L) q).1 (choose (layAll (ps.map NT.pt) q L) q).2 w e w' := by
  refine (callsIn_wide (n := 9)).1 ?_
  obtain ⟨len, hl⟩ : ∃ len, ps.length = len := ⟨_, rfl⟩
  rw [hl]
  have hll : len = last + 1 := hl.symm.trans hpl
  have HLL := Lib.hid hll
  have hlenb : len ≤ 1048577 := by omega
  have HL := Lib.hid hl
  have HROW := Lib.hid hrow
  have HPS := Lib.hid hps
  have HOK := Lib.hid hok
  have HLAID := Lib.hid hlaid
  have HH := Lib.hid h
  have HB := Lib.hid hb
  have HI := Lib.hid hi
  have HLEN := Lib.hid hlen
  have hlt := h.lt
  have hbase := h.base
  have hv1 : v.ownBlock ≠ some w.heap.size := fun e => absurd (World.ownsRow.lt h.row _ e).2 (by omega)
  clear hrow hps hok hlaid h hb hi hlen hl hll hpl
  refine callsIn_of_wp_marks Tryz.func76 rfl trivial ?_ rfl
  simp only [Tryz.ntmps76, List.size_toArray, List.length_cons, List.length_nil, Nat.reduceAdd, Nat.reduceSub, Array.replicate_succ, Array.replicate_zero, List.push_toArray, List.append_toArray, List.nil_append, List.cons_append]
  gi_wp2
  gi_loopw [7, 17] (fun bv iv wr => ∃ (i : Nat) (vk : Value), i ≤ len ∧ iv = .int .i64 (i : Nat) ∧ Hid (ChI B w lb v (ps.map NT.pt) q L i wr vk bv)) (fun _ iv _ => len - (intOf iv).toNat)
  case atStart =>
    refine ⟨0, v, by omega, rfl, ?_⟩
    have hls := ((LS.refl HH.out).alloc (.cells #[.pointer (some ⟨lb, 0, none⟩)] 63)).alloc (.cells #[.int .i64 ki, .int .u64 (s.a : Nat), .int .u64 (s.b : Nat), .int .u64 (s.c : Nat), .int .u64 (s.d : Nat), .int .i64 m, .int .i64 n, .slice a len c] 42)
    refine ⟨by rw [List.take_zero, layAll]; exact hls, (CB.new w _ _).alloc _, ?_, (fun k hk => by cases hk), hv1, by rw [List.take_zero, layAll]; exact HI.out, by simp⟩
    rw [List.take_zero, layAll]
    exact World.ownsRow_nil _ _ _ _
  case round =>
    obtain ⟨i, vk, hil, rfl, HC⟩ := hrel
    by_cases hlt2 : i < len
    · have hip : i < ps.length := by rw [HL.out]; exact hlt2
      obtain ⟨b, off, tk, tS, tm, tn, ta, tl, tc, tps, rfl, ht, htm, hra⟩ := lies_elem HROW.out HPS.out hip
      have hsz := HC.out.sz
      have hbw := HC.out.ls.from0 HH.out HB.out hw0
      have hra1 := rangeAt_below hra hbw
      have hpt : (ps.map NT.pt)[i]? = some (NT.mk tk tS tm tn (.slice ta tl tc) tps).pt := by rw [List.getElem?_map, List.getElem?_eq_getElem hip, ht]; rfl
      have htake : (ps.map NT.pt).take (i + 1) = (ps.map NT.pt).take i ++ [(NT.mk tk tS tm tn (.slice ta tl tc) tps).pt] := by rw [List.take_add_one, hpt]; rfl
      have hsnoc := layAll_snoc ((ps.map NT.pt).take i) (NT.mk tk tS tm tn (.slice ta tl tc) tps).pt q L
      rw [← htake] at hsnoc
      have hbd : (layAll ((ps.map NT.pt).take i) q L).1.length + cnt (NT.mk tk tS tm tn (.slice ta tl tc) tps).pt ≤ 1048576 := by
        have h1 := (layAll_laid ((ps.map NT.pt).take i) (fun t ht => HLAID.out t (List.mem_of_mem_take ht)) q L HI.out.1 HI.out.2.1 HI.out.2.2).1
        have h2 := cntL_take (ps.map NT.pt) (i + 1)
        rw [htake, cntL_snoc] at h2
        have := HLEN.out
        omega
      have hlay := HLAID.out _ (List.mem_of_getElem? hpt) q _ HC.out.li.1 HC.out.li.2.1 HC.out.li.2.2
      have hcall := fun W hW hB => HOK.out _ htm (layAll ((ps.map NT.pt).take i) q L).1 q vk W hW hB HC.out.li.1 HC.out.li.2.1 HC.out.li.2.2 hbd
      have hls := HC.out.ls.alloc (.cells #[.int .i64 tk, .int .u64 (tS.a : Nat), .int .u64 (tS.b : Nat), .int .u64 (tS.c : Nat), .int .u64 (tS.d : Nat), .int .i64 tm, .int .i64 tn, .slice ta tl tc] 42)
      have hrw := own_alloc HC.out.row (.cells #[.int .i64 tk, .int .u64 (tS.a : Nat), .int .u64 (tS.b : Nat), .int .u64 (tS.c : Nat), .int .u64 (tS.d : Nat), .int .i64 tm, .int .i64 tn, .slice ta tl tc] 42)
      have hbl := HC.out.bl.alloc (.cells #[.int .i64 tk, .int .u64 (tS.a : Nat), .int .u64 (tS.b : Nat), .int .u64 (tS.c : Nat), .int .u64 (tS.d : Nat), .int .i64 tm, .int .i64 tn, .slice ta tl tc] 42)
      have hdis := HC.out.dis
      have hli := HC.out.li
      have hnb := HC.out.nb
      obtain ⟨P, hP⟩ : ∃ P, layAll ((ps.map NT.pt).take i) q L = P := ⟨_, rfl⟩
      obtain ⟨R, hR⟩ : ∃ R, layT (NT.mk tk tS tm tn (.slice ta tl tc) tps).pt q P.1 = R := ⟨_, rfl⟩
      obtain ⟨x, hx⟩ : ∃ x, R.2 = x := ⟨_, rfl⟩
      rw [hP] at hcall hlay hsnoc hls hrw hli
      rw [hR] at hcall hlay hsnoc
      rw [hx] at hcall hsnoc
      have HRA := Lib.hid hra1
      have HCALL := Lib.hid hcall
      have HLAY := Lib.hid hlay
      have HSN := Lib.hid hsnoc
      have HLS := Lib.hid hls
      have HRW := Lib.hid hrw
      have HBL := Lib.hid hbl
      have HDIS := Lib.hid hdis
      have HLI := Lib.hid hli
      have HBW := Lib.hid (hbw.alloc (by have := hbw.size; omega) (.cells #[.int .i64 tk, .int .u64 (tS.a : Nat), .int .u64 (tS.b : Nat), .int .u64 (tS.c : Nat), .int .u64 (tS.d : Nat), .int .i64 tm, .int .i64 tn, .slice ta tl tc] 42))
      have hc1 : (wr.alloc (.cells #[.int .i64 tk, .int .u64 (tS.a : Nat), .int .u64 (tS.b : Nat), .int .u64 (tS.c : Nat), .int .u64 (tS.d : Nat), .int .i64 tm, .int .i64 tn, .slice ta tl tc] 42)).cell? ⟨w.heap.size, 0, none⟩ = some (.pointer (some ⟨lb, 0, none⟩)) := hbl.cell 0
      have hneW : ∀ k, vk.ownBlock = some k → k < wr.heap.size := fun k e => (World.ownsRow.lt HC.out.ls.at_.row _ e).2
      have hneU : ∀ k, u7.ownBlock = some k → w.heap.size + 2 ≤ k ∧ k < wr.heap.size := fun k e => World.ownsRow.lt HC.out.row _ e
      have HNW := Lib.hid hneW
      have HNU := Lib.hid hneU
      have hl1 : w.heap.size ≠ lb := by omega
      clear hra hra1 hcall hlay hsnoc hx hP hbw hR hbd htake hpt ht htm hip hls hrw hbl hdis hli hneW hneU HC
      gi_wp2_with (first | (refine wplIn_loadN (.tmp 19) rfl rfl (g := b) (off := off + i * 8) (k := tk) (s := tS) (m := tm) (n := tn) (p := .slice ta tl tc) ?_ ?_ ?_; rfl; exact HRA.out) | (refine ⟨trivial, ?_⟩; gi_at_call 36; refine (callsIn_wide.2 (HCALL.out _ HLS.out.at_ HBW.out)).mono ?_; rintro e w2 ⟨rfl, v2, hS2⟩; have HS2 := Lib.hid hS2; have hs2 := hS2.chg.size; rw [World.size_alloc] at hs2; have HR2 := Lib.hid (hS2.chg.ownsS HRW.out fun k hk e => e.elim (fun e => by have := HNU.out k hk; omega) (HDIS.out k hk)); clear hS2) | (refine wplIn_app 74 3 Tryz.underlying74 infoInt rfl (by decide) rfl (.tmp 21) (.tmp 26) rfl (w.heap.size + 2) _ i (intVs P.2) rfl (own_alloc HR2.out _) w2.heap.size (.int .i64 (x : Nat)) rfl ?_ rfl (by omega) (by simp; omega) ?_; (exact CB.cell (CB.new w2 _ [.int .i64 (x : Nat)]) 0); intro g cap w3 hown3 hg3 hBg hlt3 hor; have HO3 := Lib.hid hown3; have HG3 := Lib.hid hg3; clear hown3 hg3))
      have HS3 := Lib.hid ((HLS.out.trans HS2.out).alloc (.cells #[.int .i64 (x : Nat)] 3))
      have hsz3 : w2.heap.size + 1 ≤ w3.heap.size := by have := HG3.out.size; rwa [World.size_alloc] at this
      have hv2 : ∀ k, v2.ownBlock = some k → vk.ownBlock = some k ∨ wr.heap.size ≤ k := fun k hk => (HS2.out.own k hk).imp id fun e => by rw [World.size_alloc] at e; omega
      have hv2l : ∀ k, v2.ownBlock = some k → k < w2.heap.size := fun k e => (World.ownsRow.lt HS2.out.at_.row _ e).2
      have hsn := HSN.out
      go_roundw
      case rel =>
        refine ⟨i + 1, v2, by omega, by go_num, ?_⟩
        refine ⟨?_, ?_, ?_, ?_, ?_, ?_, ?_⟩
        · rw [hsn]
          exact HS3.out.row HG3.out (fun e => by have := HNU.out _ e; omega) (fun k hk e => (hv2 k e).elim (HDIS.out k hk) fun e2 => by have := HNU.out _ hk; omega) fun k hk => by have := HNU.out _ hk; omega
        · exact CB.chg ((HS2.out.box HBL.out hl1 hnb).alloc _) (Chg.of_grown HG3.out) fun e => by have := HNU.out _ e.symm; omega
        · rw [hsn]
          show w3.ownsRow _ _ _ _ _ (intVs (P.2 ++ [x]))
          rw [intVs, List.map_append]
          exact HO3.out
        · intro k hk e
          have hk2 : g = k := by simpa [Value.ownBlock] using hk
          subst hk2
          rcases hor.out with h9 | h9
          · exact (hv2 _ e).elim (HDIS.out _ h9) fun e2 => by have := HNU.out _ h9; omega
          · have := hv2l _ e
            rw [World.size_alloc] at h9
            omega
        · exact fun e => (hv2 _ e).elim hnb fun e2 => by omega
        · rw [hsn]
          obtain ⟨r1, r2, r3⟩ := HLAY.out
          exact ⟨by have := HLI.out.1; show 0 < R.1.length; omega, by have := HLI.out.2.1; show q < R.1.length; omega, r3⟩
        · omega
      case measure => simp [intOf]; omega
    · obtain rfl : i = len := by omega
      obtain rfl : i = last + 1 := HLL.out
      have htake : (ps.map NT.pt).take (last + 1) = ps.map NT.pt := List.take_of_length_le (by rw [List.length_map, HL.out]; exact Nat.le_refl _)
      have hls := HC.out.ls
      have hrw := HC.out.row
      have hbl := HC.out.bl
      have hdis := HC.out.dis
      have hnb := HC.out.nb
      have hsz := HC.out.sz
      rw [htake] at hls hrw
      have hlen2 := layAll_len (ps.map NT.pt) q L
      rw [List.length_map, HL.out] at hlen2
      have hch := choose_eq (layAll (ps.map NT.pt) q L) q last hlen2
      obtain ⟨P, hP⟩ : ∃ P, layAll (ps.map NT.pt) q L = P := ⟨_, rfl⟩
      rw [hP] at hls hrw hlen2 hch
      have hPlen : P.1.length + last ≤ 1048576 := by
        have h1 := (layAll_laid (ps.map NT.pt) HLAID.out q L HI.out.1 HI.out.2.1 HI.out.2.2).1
        rw [hP] at h1
        have := HLEN.out
        omega
      obtain ⟨g, cap, rfl⟩ := Go.Joins.ownsRow_form hrw (by omega)
      have hcell : ∀ j, j < last + 1 → wr.cell? ⟨g, j, none⟩ = some (.int .i64 ((P.2[j]?.getD 0 : Nat) : Int)) := by
        intro j hj
        rw [World.ownsRow.cellAt hrw j (by omega), List.getElem?_map, List.getElem?_eq_getElem (by omega)]
        rfl
      obtain ⟨x0, hx0⟩ : ∃ x0, P.2[last]?.getD 0 = x0 := ⟨_, rfl⟩
      have hcl := hcell last (by omega)
      rw [hx0] at hcl hch
      have hcap : last + 1 ≤ cap := by
        rcases hrw.2 with ⟨h9, _⟩ | ⟨g', cap', cur, h9, _, _, h8, _⟩
        · cases h9
        · injection h9 with _ _ e3
          rw [e3]
          exact h8
      have hg := World.ownsRow.lt hrw g rfl
      have HLS := Lib.hid hls
      have HBL := Lib.hid hbl
      have HCE := Lib.hid hcell
      have HP2 := Lib.hid hlen2
      have HP := Lib.hid hP
      have HCH := Lib.hid hch
      clear hrw hls hbl hcell hlen2 hP hch htake HC hx0
      gi_wp2_with (refine ⟨trivial, ?_⟩; gi_at_call 87; refine (n_backwardI (F := Fence.wide) (n := 8) trivial rfl _ _ _ _).mono ?_; rintro e w' ⟨rfl, rfl⟩)
      obtain ⟨W2, hW2⟩ : ∃ W2, (wr.alloc (.cells #[.int .i64 (x0 : Nat)] 3)).alloc (.cells #[.slice (some ⟨g, 0, none⟩) last cap] 74) = W2 := ⟨_, rfl⟩
      have hszW : W2.heap.size = wr.heap.size + 2 := by rw [← hW2]; simp
      have hbW : Below wr.heap.size wr W2 := by rw [← hW2]; exact ((Below.refl _ wr).alloc (Nat.le_refl _) _).alloc (by simp) _
      have hne : ∀ i, i = w.heap.size ∨ i = wr.heap.size ∨ i = wr.heap.size + 1 ∨ i = g → vk.ownBlock ≠ some i := by
        rintro i hi e
        have h9 := (World.ownsRow.lt HLS.out.at_.row _ e).2
        rcases hi with rfl | rfl | rfl | rfl
        · exact hnb e
        · omega
        · omega
        · exact hdis _ rfl e
      have hS0 : SpI B w lb v wr.heap.size g (P.2.take last).reverse P.1 x0 0 W2 vk := by
        refine ⟨by rw [List.take_zero, splits]; exact HLS.out.below hbW, HBL.out.below hbW, ?_, hne, by omega⟩
        rw [List.take_zero, splits, ← hW2]
        exact (CB.new wr _ _).alloc _
      have hbl : (P.2.take last).length = last := by rw [List.length_take, HP2.out]; omega
      have hcs : W2.cell? ⟨wr.heap.size + 1, 0, none⟩ = some (.slice (some ⟨g, 0, none⟩) (P.2.take last).length cap) := by rw [hbl, ← hW2]; exact CB.cell (cb2 wr _ _ [.slice (some ⟨g, 0, none⟩) last cap]) 0
      have hcg : ∀ j, j < (P.2.take last).length → W2.cell? ⟨g, j, none⟩ = some (.int .i64 (((P.2.take last)[j]?.getD 0 : Nat) : Int)) := by
        intro j hj
        rw [hbl] at hj
        rw [List.getElem?_take_of_lt hj]
        exact (hbW.cell (p := ⟨g, j, none⟩) hg.2).trans (HCE.out j (by omega))
      have hmx : Tryz.prog.follows .mixedOrders = true := by kernel_rfl
      rw [hW2]
      refine wpIn_rounds (F := Fence.wide) (n := 9) rfl (by decide) (gf := 101) (lb := #[.pointer (some ⟨wr.heap.size + 1, 0, none⟩)]) rfl trivial (enters_of Tryz.func101 (by kernel_rfl) rfl)
        (n_backI (F := Fence.wide) (n := 8) trivial rfl (by decide) W2 (wr.heap.size + 1) g (P.2.take last) cap (by omega) (by omega) (by omega) hcs hcg)
        (fun h k => ⟨k.1.trans h.1, k.2.trans h.2⟩) (fun W l o o' hl h h1 h2 => ⟨World.putObj_heap_other (by omega), World.putObj_heap_other (by omega)⟩) (Below.refl _ _) (fun _ => rfl)
        (fun k W => ∃ vk, SpI B w lb v wr.heap.size g (P.2.take last).reverse P.1 x0 k W vk)
        (fun k W W' row ⟨vk, hs⟩ hg hr => ⟨vk, hs.others hg fun r e => ⟨Nat.le_trans (by omega) (hr r e).1, (hr r e).2⟩⟩) ⟨vk, hS0⟩
        (fun k a' W => ∃ vk j x, SpI B w lb v wr.heap.size g (P.2.take last).reverse P.1 x0 k W vk ∧ (P.2.take last).reverse[k]? = some x ∧ a' = { tmps := #[.pointer (some ⟨lb, 0, none⟩), nodeVal ki s m n (.slice a (last + 1) c), .int .i64 (q : Nat), .pointer (some ⟨w.heap.size, 0, none⟩), .pointer (some ⟨w.heap.size + 1, 0, none⟩), undef, .int .i64 0,
          .slice (some ⟨g, 0, none⟩) (last + 1) cap, undef, u9, .int .i64 (last : Nat), .pointer (some ⟨wr.heap.size, 0, none⟩), undef, .int .i64 (x : Nat), .pointer (some ⟨w.heap.size + 1, 7, none⟩), .slice a (last + 1) c, .int .i64 ((last : Int) + 1), .int .i64 ((last : Int) + 1), .bool false, u19, u20, u21, u22, u23, u24, u25, u26, u27, u28, .slice (some ⟨g, 0, none⟩) (last + 1) cap,
          .int .i64 ((last : Int) + 1), .int .i64 (last : Nat), .slice (some ⟨g, 0, none⟩) (last + 1) cap, .int .i64 (last : Nat), .pointer (some ⟨g, last, none⟩), .int .i64 (x0 : Nat), .slice (some ⟨g, 0, none⟩) (last + 1) cap, .int .i64 (last : Nat), .slice (some ⟨g, 0, none⟩) last cap, .func (.func 101) #[] #[.pointer (some ⟨wr.heap.size + 1, 0, none⟩)], .int .i64 (j : Nat), .int .i64 (x : Nat), undef, undef, undef, undef, undef, undef], defers := [] })
        ?hA ?assign ?body ?done
      case hA =>
        rintro a' k W W' row ⟨vk, j, x, hs, he, ea⟩ hg hr
        exact ⟨vk, j, x, hs.others hg fun r e => ⟨Nat.le_trans (by omega) (hr r e).1, (hr r e).2⟩, he, ea⟩
      case assign =>
        rintro l k W hk ⟨vk, hs⟩
        rw [hbl] at hk
        obtain ⟨x, hx⟩ : ∃ x, (P.2.take last)[last - 1 - k]?.getD 0 = x := ⟨_, rfl⟩
        have henc : backI (P.2.take last) k = #[.int .i64 ((last - 1 - k : Nat) : Int), .int .i64 (x : Int)] := by
          unfold backI
          rw [hbl, hx]
        have hrev : (P.2.take last).reverse[k]? = some x := by
          rw [List.getElem?_reverse (by omega), hbl, ← hx, List.getElem?_eq_getElem (by omega)]
          rfl
        rw [henc]
        obtain ⟨j, hj⟩ : ∃ j, last - 1 - k = j := ⟨_, rfl⟩
        rw [hj]
        have HS := Lib.hid hs
        have HREV := Lib.hid hrev
        clear hs hx henc hj hrev
        gi_wp2
        exact ⟨KeepsFrom.refl _ _, ⟨rfl, rfl⟩, vk, j, x, HS.out, HREV.out, rfl⟩
      case body =>
        rintro l k a' W hk ⟨vk, j, x, hs, he, rfl⟩
        rw [hbl] at hk
        have htake : (P.2.take last).reverse.take (k + 1) = (P.2.take last).reverse.take k ++ [x] := by rw [List.take_add_one, he]; rfl
        have hsn := splits_snoc ((P.2.take last).reverse.take k) x P.1 x0
        rw [← htake] at hsn
        have hsl := splits_len ((P.2.take last).reverse.take k) P.1 x0
        rw [List.length_take, List.length_reverse, hbl] at hsl
        obtain ⟨S0, hS0⟩ : ∃ S0, splits ((P.2.take last).reverse.take k) P.1 x0 = S0 := ⟨_, rfl⟩
        obtain ⟨y, hy⟩ : ∃ y, S0.2 = y := ⟨_, rfl⟩
        obtain ⟨N, hN⟩ : ∃ N, S0.1.length = N := ⟨_, rfl⟩
        have hlsW := hs.ls
        have hbxW := hs.bx
        rw [hS0] at hsn hsl hlsW hbxW
        rw [hy] at hsn hbxW
        rw [hN] at hsn hsl
        have hNb : N ≤ 1048576 := by omega
        have HSN := Lib.hid hsn
        have hlsD := hlsW.below ((Below.refl _ W).drew)
        have HLW := Lib.hid hlsW
        have HLD := Lib.hid hlsD
        have HNB := Lib.hid hs.nb
        have hszk := hs.sz
        have HNN := Lib.hid hN
        have hblD : CB W.drew 63 w.heap.size [.pointer (some ⟨lb, 0, none⟩)] := hs.bl.below ((Below.refl _ W).drew)
        have hbxD : CB W.drew 3 wr.heap.size [.int .i64 (y : Nat)] := hbxW.below ((Below.refl _ W).drew)
        have HBLD := Lib.hid hblD
        have HBXD := Lib.hid hbxD
        have hd1 : W.drew.cell? ⟨w.heap.size, 0, none⟩ = some (.pointer (some ⟨lb, 0, none⟩)) := hblD.cell 0
        have hd2 : W.drew.cell? ⟨wr.heap.size, 0, none⟩ = some (.int .i64 (y : Nat)) := hbxD.cell 0
        have he1 : W.cell? ⟨w.heap.size, 0, none⟩ = some (.pointer (some ⟨lb, 0, none⟩)) := hs.bl.cell 0
        have he2 : W.cell? ⟨wr.heap.size, 0, none⟩ = some (.int .i64 (y : Nat)) := hbxW.cell 0
        have hl1 : w.heap.size ≠ lb := by omega
        have hl2 : wr.heap.size ≠ lb := by omega
        clear hs he htake hsn hsl hS0 hy hN hlsW hlsD hbxW hblD hbxD
        gi_wp2
        gi_region_with_o (first | (refine ⟨trivial, ?_⟩; gi_at_call 88; refine (CallsIn.inRound l (callsIn_wide.2 (p_split (x : Nat) (y : Nat) _))).mono ?_; rintro e w1 ⟨rfl, hb1⟩; have hf1 : w1.cell? ⟨w.heap.size, 0, none⟩ = some (.pointer (some ⟨lb, 0, none⟩)) := (HBLD.out.below hb1).cell 0; have HB1 := Lib.hid hb1; clear hb1) | (refine ⟨trivial, ?_⟩; gi_at_call 35; refine (CallsIn.inRound l (callsIn_wide.2 (p_add lb S0.1 vk _ 2 .zero (x : Nat) (y : Nat) (HLD.out.below HB1.out).at_ (by have := HNN.out; omega)))).mono ?_; rintro e w2 ⟨rfl, v2, hS2⟩; have hbt := hS2.box (HBXD.out.below HB1.out) hl2 (HNB.out _ (.inr (.inl rfl))); have hf3 : w2.frozen? ⟨wr.heap.size, 0, none⟩ = false := hbt.free 0; have hd3 := hbt.cell 0; have HS2 := Lib.hid hS2; clear hS2 hbt; rw [HNN.out]))
        all_goals gi_wp2
        all_goals
          have hall := (((LS.refl HLW.out.at_).below ((Below.refl _ W).drew)).below HB1.out).trans HS2.out
          have hnb2 : ∀ i, i = w.heap.size ∨ i = wr.heap.size ∨ i = wr.heap.size + 1 ∨ i = g → v2.ownBlock ≠ some i := fun i hi e => (hall.own i e).elim (HNB.out i hi) fun e2 => by omega
          have hnx : v2.ownBlock ≠ some wr.heap.size := hnb2 _ (.inr (.inl rfl))
          have hk1 : (w2.setCell ⟨wr.heap.size, 0, none⟩ (.int .i64 (N : Nat))).heap[wr.heap.size + 1]? = W.heap[wr.heap.size + 1]? := (Below.heap_setCell w2 _ _ _ (by show wr.heap.size + 1 ≠ wr.heap.size; omega)).trans (hall.chg.block _ (by omega) fun e => e.elim (fun e => by omega) (HNB.out _ (.inr (.inr (.inl rfl)))))
          have hk2 : (w2.setCell ⟨wr.heap.size, 0, none⟩ (.int .i64 (N : Nat))).heap[g]? = W.heap[g]? := (Below.heap_setCell w2 _ _ _ (by show g ≠ wr.heap.size; omega)).trans (hall.chg.block _ (by omega) fun e => e.elim (fun e => by omega) (HNB.out _ (.inr (.inr (.inr rfl)))))
          have hls2 : LS B w (w2.setCell ⟨wr.heap.size, 0, none⟩ (.int .i64 (N : Nat))) lb v (S0.1 ++ [splitS x y]) v2 := (HLW.out.trans hall).set (p := ⟨wr.heap.size, 0, none⟩) (by show wr.heap.size ≠ lb; omega) hnx (by show _ ≤ wr.heap.size; omega) _
          refine ⟨(hall.keeps HLW.out.at_).trans ((KeepsOthers.setCell _ _ _).from _), ⟨hk1, hk2⟩, v2, ?_, ?_, ?_, hnb2, ?_⟩
          · rw [HSN.out]; exact hls2
          · exact CB.other (HS2.out.box (HBLD.out.below HB1.out) hl1 (HNB.out _ (.inl rfl))) _ (by show wr.heap.size ≠ w.heap.size; omega) _
          · rw [HSN.out]; exact CB.set (HS2.out.box (HBXD.out.below HB1.out) hl2 (HNB.out _ (.inr (.inl rfl)))) 0 _
          · have := hall.chg.size
            simp [World.setCell]
            omega
      case done =>
        rintro D W hD ⟨vk, hs⟩ hK
        rw [hbl] at hs
        have hc3 : W.cell? ⟨wr.heap.size, 0, none⟩ = some (.int .i64 ((splits ((P.2.take last).reverse.take last) P.1 x0).2 : Nat)) := hs.bx.cell 0
        have HS := Lib.hid hs
        clear hs
        gi_wp2
        refine ⟨by simp, .inl ⟨_, _, rfl, run_takeDeferred hK, ?_⟩⟩
        refine ⟨_, results_tmp rfl _ _ _, ?_⟩
        rw [HP.out, HCH.out]
        have hall : (P.2.take last).reverse.take last = (P.2.take last).reverse := List.take_of_length_le (by rw [List.length_reverse, hbl]; exact Nat.le_refl _)
        have hls := HS.out.ls
        rw [hall] at hls ⊢
        exact ⟨rfl, vk, hls.others (grownBy_putObj' W D _) fun r e => by cases e; exact ⟨by omega, _, hK, rfl⟩⟩
end
end Go.Proofs.YthhchpmlljfpjaaGreat
