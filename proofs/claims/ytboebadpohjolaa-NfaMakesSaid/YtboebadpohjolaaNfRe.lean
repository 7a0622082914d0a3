import Derived.Test.YtboebadpohjolaaNfRd
namespace Go.Proofs.Ytboebadpohjolaa
open Go.RowKit Go.Shelf
attribute [local go_sem] Oper.semAt_some

variable {B : Nat}

/-! A choice laid. -/
theorem infoInt : (Try.prog.info? 3).map (fun i => (i.zero, i.size, i.bytes)) = some (some (.int .i64 0), 1, 8) := by kernel_rfl
@[reducible] def intVs (bs : List Nat) : List Value := bs.map fun b => .int .i64 (b : Nat)
theorem LS.row {a w w' : World} {lb : Nat} {v v' : Value} {L : List St} {row : Option Nat} (h : LS B a w lb v L v') (hg : w.grownBy w' row) (h1 : row ≠ some lb) (h2 : ∀ k, row = some k → v'.ownBlock ≠ some k) (h3 : ∀ k, row = some k → a.heap.size ≤ k) : LS B a w' lb v L v' :=
  ⟨⟨CB.chg h.at_.box (Chg.of_grown hg) fun e => h1 e.symm, (Chg.of_grown hg).ownsS h.at_.row fun k hk e => h2 k e.symm hk, h.at_.ne, h.at_.base⟩, h.chg.step (Chg.of_grown hg) fun i hi hlt => (by have := h3 i hi.symm; omega), h.own⟩
theorem own_below {w w' : World} {b0 : Nat} {e : TypeId} {S : Nat} {v : Value} {n : Nat} {xs : List Value} (h : w.ownsRow b0 e S v n xs) (hb : Below w.heap.size w w') : w'.ownsRow b0 e S v n xs :=
  (Chg.of_below hb).ownsS h fun k hk => (by have := World.ownsRow.lt h k hk; omega)
theorem own_alloc {w : World} {b0 : Nat} {e : TypeId} {S : Nat} {v : Value} {n : Nat} {xs : List Value} (h : w.ownsRow b0 e S v n xs) (o : Obj) : (w.alloc o).ownsRow b0 e S v n xs := own_below h ((Below.refl _ _).alloc (Nat.le_refl _) o)
theorem cntL_snoc (ps : List PT) (t : PT) : cntL (ps ++ [t]) = cntL ps + cnt t := by
  induction ps with
  | nil => simp [cntL]
  | cons p ps ih => rw [List.cons_append, cntL, ih, cntL]; omega
theorem cntL_take (ps : List PT) (d : Nat) : cntL (ps.take d) ≤ cntL ps := by
  induction ps generalizing d with
  | nil => simp
  | cons t ts ih =>
    cases d with
    | zero => simp [cntL]
    | succ d => rw [List.take_succ_cons, cntL, cntL]; have := ih d; omega
/-- What is known while a choice's parts are laid: l0 the box of the layout's address, bv the begins. -/
structure ChI (B : Nat) (w : World) (lb : Nat) (v : Value) (ps : List PT) (q : Nat) (L : List St) (i : Nat) (W : World) (vk bv : Value) : Prop where
  ls : LS B w W lb v (layAll (ps.take i) q L).1 vk
  bl : CB W 48 w.heap.size [.pointer (some ⟨lb, 0, none⟩)]
  row : W.ownsRow (w.heap.size + 2) 3 1 bv i (intVs (layAll (ps.take i) q L).2)
  dis : ∀ k, bv.ownBlock = some k → vk.ownBlock ≠ some k
  nb : vk.ownBlock ≠ some w.heap.size
  li : LI (layAll (ps.take i) q L).1 q
  sz : w.heap.size + 2 ≤ W.heap.size
/-- What is known between two splits of a choice: b0 the box of the state that comes first so far. -/
structure SpI (B : Nat) (w : World) (lb : Nat) (v : Value) (b0 g : Nat) (M : List Nat) (P : List St) (x0 k : Nat) (W : World) (vk : Value) : Prop where
  ls : LS B w W lb v (splits (M.take k) P x0).1 vk
  bl : CB W 48 w.heap.size [.pointer (some ⟨lb, 0, none⟩)]
  bx : CB W 3 b0 [.int .i64 ((splits (M.take k) P x0).2 : Nat)]
  nb : ∀ i, i = w.heap.size ∨ i = b0 ∨ i = b0 + 1 ∨ i = g → vk.ownBlock ≠ some i
  sz : b0 + 2 ≤ W.heap.size
theorem SpI.others {w W W' : World} {lb : Nat} {v : Value} {b0 g : Nat} {M : List Nat} {P : List St} {x0 k : Nat} {vk : Value} {row : Option Nat} (h : SpI B w lb v b0 g M P x0 k W vk) (hg : W.grownBy W' row) (hr : ∀ r, row = some r → w.heap.size ≤ r ∧ ∃ o : Obj, W.heap[r]? = some o ∧ o.isCells = false) : SpI B w lb v b0 g M P x0 k W' vk :=
  ⟨h.ls.others hg hr, h.bl.others hg fun r e => (hr r e).2, h.bx.others hg fun r e => (hr r e).2, h.nb, Nat.le_trans h.sz hg.size⟩
theorem SpI.below {w W W' : World} {lb : Nat} {v : Value} {b0 g : Nat} {M : List Nat} {P : List St} {x0 k : Nat} {vk : Value} (h : SpI B w lb v b0 g M P x0 k W vk) (hb : Below W.heap.size W W') : SpI B w lb v b0 g M P x0 k W' vk :=
  ⟨h.ls.below hb, h.bl.below hb, h.bx.below hb, h.nb, Nat.le_trans h.sz hb.size⟩
set_option maxHeartbeats 4000000 in
set_option maxRecDepth 100000 in
theorem n_choice (lb : Nat) (w0 : World) (ki : Int) (s : S4) (m n : Int) (a : Option Addr) (c : Nat) (ps : List NT) (hok : ∀ t ∈ ps, LayOK B lb w0 t) (hlaid : ∀ t ∈ ps.map NT.pt, Laid (layT t) (cnt t)) (hw0 : w0.heap.size ≤ B)
    (hrow : RowAt w0 a (ps.flatMap NT.cells)) (hps : ∀ t ∈ ps, t.Lies w0) (last : Nat) (hpl : ps.length = last + 1) (hlast : last ≤ 1048576)
    (L : List St) (q : Nat) (v : Value) (w : World) (h : LC B w lb L v) (hb : Below w0.heap.size w0 w) (hi : LI L q) (hlen : L.length + cntL (ps.map NT.pt) + last ≤ 1048576) :
    Calls Try.prog 42 #[.pointer (some ⟨lb, 0, none⟩), nodeVal ki s m n (.slice a ps.length c), .int .i64 (q : Nat)] w fun e w' => LRet B lb v (choose (layAll (ps.map NT.pt) q L) q).1 (choose (layAll (ps.map NT.pt) q L) q).2 w e w' := by
  refine (callsIn_wide (n := 9)).1 ?_
  obtain ⟨len, hl⟩ : ∃ len, ps.length = len := ⟨_, rfl⟩
  rw [hl]
  have hll : len = last + 1 := hl.symm.trans hpl
  have HLL := Lib.hid hll
  have hlenb : len ≤ 1048577 := by omega
  have HL := Lib.hid hl
  have HROW := Lib.hid hrow
  have HPS := Lib.hid hps
  have HOK := Lib.hid hok
  have HLAID := Lib.hid hlaid
  have HH := Lib.hid h
  have HB := Lib.hid hb
  have HI := Lib.hid hi
  have HLEN := Lib.hid hlen
  have hlt := h.lt
  have hbase := h.base
  have hv1 : v.ownBlock ≠ some w.heap.size := fun e => absurd (World.ownsRow.lt h.row _ e).2 (by omega)
  clear hrow hps hok hlaid h hb hi hlen hl hll hpl
  refine callsIn_of_wp_marks Try.func42 rfl trivial ?_ rfl
  simp only [Try.ntmps42, List.size_toArray, List.length_cons, List.length_nil, Nat.reduceAdd, Nat.reduceSub, Array.replicate_succ, Array.replicate_zero, List.push_toArray, List.append_toArray, List.nil_append, List.cons_append]
  gi_wp2
  gi_loopw [7, 17] (fun bv iv wr => ∃ (i : Nat) (vk : Value), i ≤ len ∧ iv = .int .i64 (i : Nat) ∧ Hid (ChI B w lb v (ps.map NT.pt) q L i wr vk bv)) (fun _ iv _ => len - (intOf iv).toNat)
  case atStart =>
    refine ⟨0, v, by omega, rfl, ?_⟩
    have hls := ((LS.refl HH.out).alloc (.cells #[.pointer (some ⟨lb, 0, none⟩)] 48)).alloc (.cells #[.int .i64 ki, .int .u64 (s.a : Nat), .int .u64 (s.b : Nat), .int .u64 (s.c : Nat), .int .u64 (s.d : Nat), .int .i64 m, .int .i64 n, .slice a len c] 27)
    refine ⟨by rw [List.take_zero, layAll]; exact hls, (CB.new w _ _).alloc _, ?_, (fun k hk => by cases hk), hv1, by rw [List.take_zero, layAll]; exact HI.out, by simp⟩
    rw [List.take_zero, layAll]
    exact World.ownsRow_nil _ _ _ _
  case round =>
    obtain ⟨i, vk, hil, rfl, HC⟩ := hrel
    by_cases hlt2 : i < len
    · have hip : i < ps.length := by rw [HL.out]; exact hlt2
      obtain ⟨b, off, tk, tS, tm, tn, ta, tl, tc, tps, rfl, ht, htm, hra⟩ := lies_elem HROW.out HPS.out hip
      have hsz := HC.out.sz
      have hbw := HC.out.ls.from0 HH.out HB.out hw0
      have hra1 := rangeAt_below hra hbw
      have hpt : (ps.map NT.pt)[i]? = some (NT.mk tk tS tm tn (.slice ta tl tc) tps).pt := by rw [List.getElem?_map, List.getElem?_eq_getElem hip, ht]; rfl
      have htake : (ps.map NT.pt).take (i + 1) = (ps.map NT.pt).take i ++ [(NT.mk tk tS tm tn (.slice ta tl tc) tps).pt] := by rw [List.take_add_one, hpt]; rfl
      have hsnoc := layAll_snoc ((ps.map NT.pt).take i) (NT.mk tk tS tm tn (.slice ta tl tc) tps).pt q L
      rw [← htake] at hsnoc
      have hbd : (layAll ((ps.map NT.pt).take i) q L).1.length + cnt (NT.mk tk tS tm tn (.slice ta tl tc) tps).pt ≤ 1048576 := by
        have h1 := (layAll_laid ((ps.map NT.pt).take i) (fun t ht => HLAID.out t (List.mem_of_mem_take ht)) q L HI.out.1 HI.out.2.1 HI.out.2.2).1
        have h2 := cntL_take (ps.map NT.pt) (i + 1)
        rw [htake, cntL_snoc] at h2
        have := HLEN.out
        omega
      have hlay := HLAID.out _ (List.mem_of_getElem? hpt) q _ HC.out.li.1 HC.out.li.2.1 HC.out.li.2.2
      have hcall := fun W hW hB => HOK.out _ htm (layAll ((ps.map NT.pt).take i) q L).1 q vk W hW hB HC.out.li.1 HC.out.li.2.1 HC.out.li.2.2 hbd
      have hls := HC.out.ls.alloc (.cells #[.int .i64 tk, .int .u64 (tS.a : Nat), .int .u64 (tS.b : Nat), .int .u64 (tS.c : Nat), .int .u64 (tS.d : Nat), .int .i64 tm, .int .i64 tn, .slice ta tl tc] 27)
      have hrw := own_alloc HC.out.row (.cells #[.int .i64 tk, .int .u64 (tS.a : Nat), .int .u64 (tS.b : Nat), .int .u64 (tS.c : Nat), .int .u64 (tS.d : Nat), .int .i64 tm, .int .i64 tn, .slice ta tl tc] 27)
      have hbl := HC.out.bl.alloc (.cells #[.int .i64 tk, .int .u64 (tS.a : Nat), .int .u64 (tS.b : Nat), .int .u64 (tS.c : Nat), .int .u64 (tS.d : Nat), .int .i64 tm, .int .i64 tn, .slice ta tl tc] 27)
      have hdis := HC.out.dis
      have hli := HC.out.li
      have hnb := HC.out.nb
      obtain ⟨P, hP⟩ : ∃ P, layAll ((ps.map NT.pt).take i) q L = P := ⟨_, rfl⟩
      obtain ⟨R, hR⟩ : ∃ R, layT (NT.mk tk tS tm tn (.slice ta tl tc) tps).pt q P.1 = R := ⟨_, rfl⟩
      obtain ⟨x, hx⟩ : ∃ x, R.2 = x := ⟨_, rfl⟩
      rw [hP] at hcall hlay hsnoc hls hrw hli
      rw [hR] at hcall hlay hsnoc
      rw [hx] at hcall hsnoc
      have HRA := Lib.hid hra1
      have HCALL := Lib.hid hcall
      have HLAY := Lib.hid hlay
      have HSN := Lib.hid hsnoc
      have HLS := Lib.hid hls
      have HRW := Lib.hid hrw
      have HBL := Lib.hid hbl
      have HDIS := Lib.hid hdis
      have HLI := Lib.hid hli
      have HBW := Lib.hid (hbw.alloc (by have := hbw.size; omega) (.cells #[.int .i64 tk, .int .u64 (tS.a : Nat), .int .u64 (tS.b : Nat), .int .u64 (tS.c : Nat), .int .u64 (tS.d : Nat), .int .i64 tm, .int .i64 tn, .slice ta tl tc] 27))
      have hc1 : (wr.alloc (.cells #[.int .i64 tk, .int .u64 (tS.a : Nat), .int .u64 (tS.b : Nat), .int .u64 (tS.c : Nat), .int .u64 (tS.d : Nat), .int .i64 tm, .int .i64 tn, .slice ta tl tc] 27)).cell? ⟨w.heap.size, 0, none⟩ = some (.pointer (some ⟨lb, 0, none⟩)) := hbl.cell 0
      have hneW : ∀ k, vk.ownBlock = some k → k < wr.heap.size := fun k e => (World.ownsRow.lt HC.out.ls.at_.row _ e).2
      have hneU : ∀ k, u7.ownBlock = some k → w.heap.size + 2 ≤ k ∧ k < wr.heap.size := fun k e => World.ownsRow.lt HC.out.row _ e
      have HNW := Lib.hid hneW
      have HNU := Lib.hid hneU
      have hl1 : w.heap.size ≠ lb := by omega
      clear hra hra1 hcall hlay hsnoc hx hP hbw hR hbd htake hpt ht htm hip hls hrw hbl hdis hli hneW hneU HC
      gi_wp2_with (first | (refine wplIn_loadN (.tmp 19) rfl rfl (g := b) (off := off + i * 8) (k := tk) (s := tS) (m := tm) (n := tn) (p := .slice ta tl tc) ?_ ?_ ?_; rfl; exact HRA.out) | (refine ⟨trivial, ?_⟩; gi_at_call 21; refine (callsIn_wide.2 (HCALL.out _ HLS.out.at_ HBW.out)).mono ?_; rintro e w2 ⟨rfl, v2, hS2⟩; have HS2 := Lib.hid hS2; have hs2 := hS2.chg.size; rw [World.size_alloc] at hs2; have HR2 := Lib.hid (hS2.chg.ownsS HRW.out fun k hk e => e.elim (fun e => by have := HNU.out k hk; omega) (HDIS.out k hk)); clear hS2) | (refine wplIn_app 64 3 Try.underlying64 infoInt rfl (by decide) rfl (.tmp 21) (.tmp 26) rfl (w.heap.size + 2) _ i (intVs P.2) rfl (own_alloc HR2.out _) w2.heap.size (.int .i64 (x : Nat)) rfl ?_ rfl (by omega) (by simp; omega) ?_; (exact CB.cell (CB.new w2 _ [.int .i64 (x : Nat)]) 0); intro g cap w3 hown3 hg3 hBg hlt3 hor; have HO3 := Lib.hid hown3; have HG3 := Lib.hid hg3; clear hown3 hg3))
      have HS3 := Lib.hid ((HLS.out.trans HS2.out).alloc (.cells #[.int .i64 (x : Nat)] 3))
      have hsz3 : w2.heap.size + 1 ≤ w3.heap.size := by have := HG3.out.size; rwa [World.size_alloc] at this
      have hv2 : ∀ k, v2.ownBlock = some k → vk.ownBlock = some k ∨ wr.heap.size ≤ k := fun k hk => (HS2.out.own k hk).imp id fun e => by rw [World.size_alloc] at e; omega
      have hv2l : ∀ k, v2.ownBlock = some k → k < w2.heap.size := fun k e => (World.ownsRow.lt HS2.out.at_.row _ e).2
      have hsn := HSN.out
      go_roundw
      case rel =>
        refine ⟨i + 1, v2, by omega, by go_num, ?_⟩
        refine ⟨?_, ?_, ?_, ?_, ?_, ?_, ?_⟩
        · rw [hsn]
          exact HS3.out.row HG3.out (fun e => by have := HNU.out _ e; omega) (fun k hk e => (hv2 k e).elim (HDIS.out k hk) fun e2 => by have := HNU.out _ hk; omega) fun k hk => by have := HNU.out _ hk; omega
        · exact CB.chg ((HS2.out.box HBL.out hl1 hnb).alloc _) (Chg.of_grown HG3.out) fun e => by have := HNU.out _ e.symm; omega
        · rw [hsn]
          show w3.ownsRow _ _ _ _ _ (intVs (P.2 ++ [x]))
          rw [intVs, List.map_append]
          exact HO3.out
        · intro k hk e
          have hk2 : g = k := by simpa [Value.ownBlock] using hk
          subst hk2
          rcases hor.out with h9 | h9
          · exact (hv2 _ e).elim (HDIS.out _ h9) fun e2 => by have := HNU.out _ h9; omega
          · have := hv2l _ e
            rw [World.size_alloc] at h9
            omega
        · exact fun e => (hv2 _ e).elim hnb fun e2 => by omega
        · rw [hsn]
          obtain ⟨r1, r2, r3⟩ := HLAY.out
          exact ⟨by have := HLI.out.1; show 0 < R.1.length; omega, by have := HLI.out.2.1; show q < R.1.length; omega, r3⟩
        · omega
      case measure => simp [intOf]; omega
    · obtain rfl : i = len := by omega
      obtain rfl : i = last + 1 := HLL.out
      have htake : (ps.map NT.pt).take (last + 1) = ps.map NT.pt := List.take_of_length_le (by rw [List.length_map, HL.out]; exact Nat.le_refl _)
      have hls := HC.out.ls
      have hrw := HC.out.row
      have hbl := HC.out.bl
      have hdis := HC.out.dis
      have hnb := HC.out.nb
      have hsz := HC.out.sz
      rw [htake] at hls hrw
      have hlen2 := layAll_len (ps.map NT.pt) q L
      rw [List.length_map, HL.out] at hlen2
      have hch := choose_eq (layAll (ps.map NT.pt) q L) q last hlen2
      obtain ⟨P, hP⟩ : ∃ P, layAll (ps.map NT.pt) q L = P := ⟨_, rfl⟩
      rw [hP] at hls hrw hlen2 hch
      have hPlen : P.1.length + last ≤ 1048576 := by
        have h1 := (layAll_laid (ps.map NT.pt) HLAID.out q L HI.out.1 HI.out.2.1 HI.out.2.2).1
        rw [hP] at h1
        have := HLEN.out
        omega
      obtain ⟨g, cap, rfl⟩ := Go.Joins.ownsRow_form hrw (by omega)
      have hcell : ∀ j, j < last + 1 → wr.cell? ⟨g, j, none⟩ = some (.int .i64 ((P.2[j]?.getD 0 : Nat) : Int)) := by
        intro j hj
        rw [World.ownsRow.cellAt hrw j (by omega), List.getElem?_map, List.getElem?_eq_getElem (by omega)]
        rfl
      obtain ⟨x0, hx0⟩ : ∃ x0, P.2[last]?.getD 0 = x0 := ⟨_, rfl⟩
      have hcl := hcell last (by omega)
      rw [hx0] at hcl hch
      have hcap : last + 1 ≤ cap := by
        rcases hrw.2 with ⟨h9, _⟩ | ⟨g', cap', cur, h9, _, _, h8, _⟩
        · cases h9
        · injection h9 with _ _ e3
          rw [e3]
          exact h8
      have hg := World.ownsRow.lt hrw g rfl
      have HLS := Lib.hid hls
      have HBL := Lib.hid hbl
      have HCE := Lib.hid hcell
      have HP2 := Lib.hid hlen2
      have HP := Lib.hid hP
      have HCH := Lib.hid hch
      clear hrw hls hbl hcell hlen2 hP hch htake HC hx0
      gi_wp2_with (refine ⟨trivial, ?_⟩; gi_at_call 46; refine (n_backwardI (F := Fence.wide) (n := 8) trivial rfl _ _ _ _).mono ?_; rintro e w' ⟨rfl, rfl⟩)
      obtain ⟨W2, hW2⟩ : ∃ W2, (wr.alloc (.cells #[.int .i64 (x0 : Nat)] 3)).alloc (.cells #[.slice (some ⟨g, 0, none⟩) last cap] 64) = W2 := ⟨_, rfl⟩
      have hszW : W2.heap.size = wr.heap.size + 2 := by rw [← hW2]; simp
      have hbW : Below wr.heap.size wr W2 := by rw [← hW2]; exact ((Below.refl _ wr).alloc (Nat.le_refl _) _).alloc (by simp) _
      have hne : ∀ i, i = w.heap.size ∨ i = wr.heap.size ∨ i = wr.heap.size + 1 ∨ i = g → vk.ownBlock ≠ some i := by
        rintro i hi e
        have h9 := (World.ownsRow.lt HLS.out.at_.row _ e).2
        rcases hi with rfl | rfl | rfl | rfl
        · exact hnb e
        · omega
        · omega
        · exact hdis _ rfl e
      have hS0 : SpI B w lb v wr.heap.size g (P.2.take last).reverse P.1 x0 0 W2 vk := by
        refine ⟨by rw [List.take_zero, splits]; exact HLS.out.below hbW, HBL.out.below hbW, ?_, hne, by omega⟩
        rw [List.take_zero, splits, ← hW2]
        exact (CB.new wr _ _).alloc _
      have hbl : (P.2.take last).length = last := by rw [List.length_take, HP2.out]; omega
      have hcs : W2.cell? ⟨wr.heap.size + 1, 0, none⟩ = some (.slice (some ⟨g, 0, none⟩) (P.2.take last).length cap) := by rw [hbl, ← hW2]; exact CB.cell (cb2 wr _ _ [.slice (some ⟨g, 0, none⟩) last cap]) 0
      have hcg : ∀ j, j < (P.2.take last).length → W2.cell? ⟨g, j, none⟩ = some (.int .i64 (((P.2.take last)[j]?.getD 0 : Nat) : Int)) := by
        intro j hj
        rw [hbl] at hj
        rw [List.getElem?_take_of_lt hj]
        exact (hbW.cell (p := ⟨g, j, none⟩) hg.2).trans (HCE.out j (by omega))
      have hmx : Try.prog.follows .mixedOrders = true := by kernel_rfl
      rw [hW2]
      refine wpIn_rounds (F := Fence.wide) (n := 9) rfl (by decide) (gf := 52) (lb := #[.pointer (some ⟨wr.heap.size + 1, 0, none⟩)]) rfl trivial (enters_of Try.func52 (by kernel_rfl) rfl)
        (n_backI (F := Fence.wide) (n := 8) trivial rfl (by decide) W2 (wr.heap.size + 1) g (P.2.take last) cap (by omega) (by omega) (by omega) hcs hcg)
        (fun h k => ⟨k.1.trans h.1, k.2.trans h.2⟩) (fun W l o o' hl h h1 h2 => ⟨World.putObj_heap_other (by omega), World.putObj_heap_other (by omega)⟩) (Below.refl _ _) (fun _ => rfl)
        (fun k W => ∃ vk, SpI B w lb v wr.heap.size g (P.2.take last).reverse P.1 x0 k W vk)
        (fun k W W' row ⟨vk, hs⟩ hg hr => ⟨vk, hs.others hg fun r e => ⟨Nat.le_trans (by omega) (hr r e).1, (hr r e).2⟩⟩) ⟨vk, hS0⟩
        (fun k a' W => ∃ vk j x, SpI B w lb v wr.heap.size g (P.2.take last).reverse P.1 x0 k W vk ∧ (P.2.take last).reverse[k]? = some x ∧ a' = { tmps := #[.pointer (some ⟨lb, 0, none⟩), nodeVal ki s m n (.slice a (last + 1) c), .int .i64 (q : Nat), .pointer (some ⟨w.heap.size, 0, none⟩), .pointer (some ⟨w.heap.size + 1, 0, none⟩), undef, .int .i64 0,
          .slice (some ⟨g, 0, none⟩) (last + 1) cap, undef, u9, .int .i64 (last : Nat), .pointer (some ⟨wr.heap.size, 0, none⟩), undef, .int .i64 (x : Nat), .pointer (some ⟨w.heap.size + 1, 7, none⟩), .slice a (last + 1) c, .int .i64 ((last : Int) + 1), .int .i64 ((last : Int) + 1), .bool false, u19, u20, u21, u22, u23, u24, u25, u26, u27, u28, .slice (some ⟨g, 0, none⟩) (last + 1) cap,
          .int .i64 ((last : Int) + 1), .int .i64 (last : Nat), .slice (some ⟨g, 0, none⟩) (last + 1) cap, .int .i64 (last : Nat), .pointer (some ⟨g, last, none⟩), .int .i64 (x0 : Nat), .slice (some ⟨g, 0, none⟩) (last + 1) cap, .int .i64 (last : Nat), .slice (some ⟨g, 0, none⟩) last cap, .func (.func 52) #[] #[.pointer (some ⟨wr.heap.size + 1, 0, none⟩)], .int .i64 (j : Nat), .int .i64 (x : Nat), undef, undef, undef, undef, undef, undef], defers := [] })
        ?hA ?assign ?body ?done
      case hA =>
        rintro a' k W W' row ⟨vk, j, x, hs, he, ea⟩ hg hr
        exact ⟨vk, j, x, hs.others hg fun r e => ⟨Nat.le_trans (by omega) (hr r e).1, (hr r e).2⟩, he, ea⟩
      case assign =>
        rintro l k W hk ⟨vk, hs⟩
        rw [hbl] at hk
        obtain ⟨x, hx⟩ : ∃ x, (P.2.take last)[last - 1 - k]?.getD 0 = x := ⟨_, rfl⟩
        have henc : backI (P.2.take last) k = #[.int .i64 ((last - 1 - k : Nat) : Int), .int .i64 (x : Int)] := by
          unfold backI
          rw [hbl, hx]
        have hrev : (P.2.take last).reverse[k]? = some x := by
          rw [List.getElem?_reverse (by omega), hbl, ← hx, List.getElem?_eq_getElem (by omega)]
          rfl
        rw [henc]
        obtain ⟨j, hj⟩ : ∃ j, last - 1 - k = j := ⟨_, rfl⟩
        rw [hj]
        have HS := Lib.hid hs
        have HREV := Lib.hid hrev
        clear hs hx henc hj hrev
        gi_wp2
        exact ⟨KeepsFrom.refl _ _, ⟨rfl, rfl⟩, vk, j, x, HS.out, HREV.out, rfl⟩
      case body =>
        rintro l k a' W hk ⟨vk, j, x, hs, he, rfl⟩
        rw [hbl] at hk
        have htake : (P.2.take last).reverse.take (k + 1) = (P.2.take last).reverse.take k ++ [x] := by rw [List.take_add_one, he]; rfl
        have hsn := splits_snoc ((P.2.take last).reverse.take k) x P.1 x0
        rw [← htake] at hsn
        have hsl := splits_len ((P.2.take last).reverse.take k) P.1 x0
        rw [List.length_take, List.length_reverse, hbl] at hsl
        obtain ⟨S0, hS0⟩ : ∃ S0, splits ((P.2.take last).reverse.take k) P.1 x0 = S0 := ⟨_, rfl⟩
        obtain ⟨y, hy⟩ : ∃ y, S0.2 = y := ⟨_, rfl⟩
        obtain ⟨N, hN⟩ : ∃ N, S0.1.length = N := ⟨_, rfl⟩
        have hlsW := hs.ls
        have hbxW := hs.bx
        rw [hS0] at hsn hsl hlsW hbxW
        rw [hy] at hsn hbxW
        rw [hN] at hsn hsl
        have hNb : N ≤ 1048576 := by omega
        have HSN := Lib.hid hsn
        have hlsD := hlsW.below ((Below.refl _ W).drew)
        have HLW := Lib.hid hlsW
        have HLD := Lib.hid hlsD
        have HNB := Lib.hid hs.nb
        have hszk := hs.sz
        have HNN := Lib.hid hN
        have hblD : CB W.drew 48 w.heap.size [.pointer (some ⟨lb, 0, none⟩)] := hs.bl.below ((Below.refl _ W).drew)
        have hbxD : CB W.drew 3 wr.heap.size [.int .i64 (y : Nat)] := hbxW.below ((Below.refl _ W).drew)
        have HBLD := Lib.hid hblD
        have HBXD := Lib.hid hbxD
        have hd1 : W.drew.cell? ⟨w.heap.size, 0, none⟩ = some (.pointer (some ⟨lb, 0, none⟩)) := hblD.cell 0
        have hd2 : W.drew.cell? ⟨wr.heap.size, 0, none⟩ = some (.int .i64 (y : Nat)) := hbxD.cell 0
        have he1 : W.cell? ⟨w.heap.size, 0, none⟩ = some (.pointer (some ⟨lb, 0, none⟩)) := hs.bl.cell 0
        have he2 : W.cell? ⟨wr.heap.size, 0, none⟩ = some (.int .i64 (y : Nat)) := hbxW.cell 0
        have hl1 : w.heap.size ≠ lb := by omega
        have hl2 : wr.heap.size ≠ lb := by omega
        clear hs he htake hsn hsl hS0 hy hN hlsW hlsD hbxW hblD hbxD
        gi_wp2
        gi_region_with_o (first | (refine ⟨trivial, ?_⟩; gi_at_call 47; refine (CallsIn.inRound l (callsIn_wide.2 (p_split (x : Nat) (y : Nat) _))).mono ?_; rintro e w1 ⟨rfl, hb1⟩; have hf1 : w1.cell? ⟨w.heap.size, 0, none⟩ = some (.pointer (some ⟨lb, 0, none⟩)) := (HBLD.out.below hb1).cell 0; have HB1 := Lib.hid hb1; clear hb1) | (refine ⟨trivial, ?_⟩; gi_at_call 20; refine (CallsIn.inRound l (callsIn_wide.2 (p_add lb S0.1 vk _ 2 .zero (x : Nat) (y : Nat) (HLD.out.below HB1.out).at_ (by have := HNN.out; omega)))).mono ?_; rintro e w2 ⟨rfl, v2, hS2⟩; have hbt := hS2.box (HBXD.out.below HB1.out) hl2 (HNB.out _ (.inr (.inl rfl))); have hf3 : w2.frozen? ⟨wr.heap.size, 0, none⟩ = false := hbt.free 0; have hd3 := hbt.cell 0; have HS2 := Lib.hid hS2; clear hS2 hbt; rw [HNN.out]))
        all_goals gi_wp2
        all_goals
          have hall := (((LS.refl HLW.out.at_).below ((Below.refl _ W).drew)).below HB1.out).trans HS2.out
          have hnb2 : ∀ i, i = w.heap.size ∨ i = wr.heap.size ∨ i = wr.heap.size + 1 ∨ i = g → v2.ownBlock ≠ some i := fun i hi e => (hall.own i e).elim (HNB.out i hi) fun e2 => by omega
          have hnx : v2.ownBlock ≠ some wr.heap.size := hnb2 _ (.inr (.inl rfl))
          have hk1 : (w2.setCell ⟨wr.heap.size, 0, none⟩ (.int .i64 (N : Nat))).heap[wr.heap.size + 1]? = W.heap[wr.heap.size + 1]? := (Below.heap_setCell w2 _ _ _ (by show wr.heap.size + 1 ≠ wr.heap.size; omega)).trans (hall.chg.block _ (by omega) fun e => e.elim (fun e => by omega) (HNB.out _ (.inr (.inr (.inl rfl)))))
          have hk2 : (w2.setCell ⟨wr.heap.size, 0, none⟩ (.int .i64 (N : Nat))).heap[g]? = W.heap[g]? := (Below.heap_setCell w2 _ _ _ (by show g ≠ wr.heap.size; omega)).trans (hall.chg.block _ (by omega) fun e => e.elim (fun e => by omega) (HNB.out _ (.inr (.inr (.inr rfl)))))
          have hls2 : LS B w (w2.setCell ⟨wr.heap.size, 0, none⟩ (.int .i64 (N : Nat))) lb v (S0.1 ++ [splitS x y]) v2 := (HLW.out.trans hall).set (p := ⟨wr.heap.size, 0, none⟩) (by show wr.heap.size ≠ lb; omega) hnx (by show _ ≤ wr.heap.size; omega) _
          refine ⟨(hall.keeps HLW.out.at_).trans ((KeepsOthers.setCell _ _ _).from _), ⟨hk1, hk2⟩, v2, ?_, ?_, ?_, hnb2, ?_⟩
          · rw [HSN.out]; exact hls2
          · exact CB.other (HS2.out.box (HBLD.out.below HB1.out) hl1 (HNB.out _ (.inl rfl))) _ (by show wr.heap.size ≠ w.heap.size; omega) _
          · rw [HSN.out]; exact CB.set (HS2.out.box (HBXD.out.below HB1.out) hl2 (HNB.out _ (.inr (.inl rfl)))) 0 _
          · have := hall.chg.size
            simp [World.setCell]
            omega
      case done =>
        rintro D W hD ⟨vk, hs⟩ hK
        rw [hbl] at hs
        have hc3 : W.cell? ⟨wr.heap.size, 0, none⟩ = some (.int .i64 ((splits ((P.2.take last).reverse.take last) P.1 x0).2 : Nat)) := hs.bx.cell 0
        have HS := Lib.hid hs
        clear hs
        gi_wp2
        refine ⟨by simp, .inl ⟨_, _, rfl, run_takeDeferred hK, ?_⟩⟩
        refine ⟨_, results_tmp rfl _ _ _, ?_⟩
        rw [HP.out, HCH.out]
        have hall : (P.2.take last).reverse.take last = (P.2.take last).reverse := List.take_of_length_le (by rw [List.length_reverse, hbl]; exact Nat.le_refl _)
        have hls := HS.out.ls
        rw [hall] at hls ⊢
        exact ⟨rfl, vk, hls.others (grownBy_putObj' W D _) fun r e => by cases e; exact ⟨by omega, _, hK, rfl⟩⟩
end Go.Proofs.Ytboebadpohjolaa
