import Derived.Test.YthccccpcjafdcaaDoorWholeJ
namespace Go.Proofs.YthccccpcjafdcaaDoor
open Go.RowKit

set_option maxHeartbeats 1000000 in
theorem bit_three (a : Option Addr) (c : Nat) (i : Int) (w : World) (hr : Rd .u64 w a [3]) (hi : i = 0 ∨ i = 1) :
    Calls Tryd.prog 67 #[.slice a 1 c, .int .i64 i] w fun e w' => e = .returned (.bool true) ∧ w' = w := by
  obtain ⟨b, off, rfl⟩ := hr.isAt (by decide)
  have hc := hr.cell (i := 0) (by decide)
  rw [Nat.add_zero, show at0 [3] 0 = 3 from rfl] at hc
  clear hr
  rcases hi with rfl | rfl
  all_goals
    go_enter Tryd.func67, Tryd.ntmps67
    go_wp2
    go_ret
    exact ⟨rfl, rfl⟩
theorem bits_two {n k : Nat} (h : BitsIs n k) (hn : n = 2 ∨ n = 3) : k = 2 := by
  rcases h with ⟨h, _⟩ | ⟨h0, h1, h2⟩
  · omega
  · have : k < 3 := Nat.lt_of_not_le fun h => by
      have : 2 ^ 2 ≤ 2 ^ (k - 1) := Nat.pow_le_pow_right (by decide) (by omega)
      omega
    have : k ≠ 1 := fun h => by rw [h] at h2; omega
    omega
theorem lim_one {x : Nat} (h : x < 18446744073709551616) : x < LIM := Nat.lt_of_lt_of_le h (by unfold LIM; exact Nat.pow_le_pow_right (n := 18446744073709551616) (i := 1) (by decide) (by decide))
theorem fl_one (x : Nat) : fl [x] ≤ 1 := (fl_spec [x]).1
theorem num_one {x : Nat} (h : x < 18446744073709551616) (h0 : 0 < x) : Num [x] x := ⟨Bd.nil.cons h, fun _ => by show x ≠ 0; omega, val_one x⟩
set_option maxRecDepth 100000 in
theorem wmul_one (n m s : Bool) (a b : Option Addr) (ca cb x y r : Nat) (w : World) (hca : 1 ≤ ca) (hcb : 1 ≤ cb) (hra : Rd .u64 w a [x]) (hrb : Rd .u64 w b [y]) (ht : Tabs w) (hx : x < 18446744073709551616) (hy : y < 18446744073709551616) (hr : x * y = r) (h0 : 0 < r) (hr2 : r < 18446744073709551616) (hs : decide (wv n [x] * wv m [y] < 0) = s) :
    Calls Tryd.prog 35 #[.agg #[.bool n, .slice a 1 ca], .agg #[.bool m, .slice b 1 cb]] w (WTold (fun k p zs => k = 0 ∧ p = s ∧ zs = [r]) w) := by
  have bx : Bd [x] := Bd.nil.cons hx
  have bY : Bd [y] := Bd.nil.cons hy
  refine (wmul_of n m a b 1 ca 1 cb [x] [y] w rfl rfl (by decide) (by decide) hca hcb hra hrb bx bY ht (fun W hb => mul_small a b 1 1 ca cb [x] [y] W rfl rfl (by decide) (by decide) hca hcb (hra.below hb) (hrb.below hb) bx bY (.inl (Nat.lt_of_le_of_lt (fl_one x) (by decide))))).mono ?_
  rintro e w' ⟨hb, p, a', c', k, zs, rfl, ho, hQ⟩
  have hab : (wv n [x] * wv m [y]).natAbs = r := by rw [Int.natAbs_mul, wv_abs, wv_abs, val_one, val_one]; exact hr
  refine ⟨hb, p, a', c', k, zs, rfl, ho, ?_⟩
  rcases hQ with ⟨h, _⟩ | ⟨_, _, rfl, rfl, hN⟩
  · exact absurd ⟨⟨by rw [val_one]; exact lim_one hx, by rw [val_one]; exact lim_one hy⟩, by rw [hab]; exact lim_one hr2⟩ h
  · rw [hab] at hN
    exact ⟨rfl, hs, hN.unique (num_one hr2 h0)⟩
/-- What Pow's loop holds: the two numbers, the result's block, the power and its block. -/
structure PW (n : Bool) (a : Option Addr) (la ca : Nat) (m : Bool) (b : Option Addr) (lb cb g : Nat) (w : World) (p : Bool) (pa : Option Addr) (zs : List Nat) (pc : Nat) (W : World) : Prop where
  bx : Bx w.heap.size n a la ca m b lb cb w W
  blk : W.heap[g]? = some (WO p pa zs.length pc)
  own : own64 W w.heap.size (.slice pa zs.length pc) zs
  gt : w.heap.size + 1 + 1 < g
theorem PW.below {n : Bool} {a : Option Addr} {la ca : Nat} {m : Bool} {b : Option Addr} {lb cb g : Nat} {w : World} {p : Bool} {pa : Option Addr} {zs : List Nat} {pc : Nat} {W W' : World}
    (h : PW n a la ca m b lb cb g w p pa zs pc W) (hb : Below W.heap.size W W') : PW n a la ca m b lb cb g w p pa zs pc W' :=
  ⟨h.bx.below rfl hb, by rw [hb.block g (lt_of_block h.blk)]; exact h.blk, own64.under h.own hb, h.gt⟩
theorem PW.cells {n : Bool} {a : Option Addr} {la ca : Nat} {m : Bool} {b : Option Addr} {lb cb g : Nat} {w : World} {p : Bool} {pa : Option Addr} {zs : List Nat} {pc : Nat} {W : World}
    (h : PW n a la ca m b lb cb g w p pa zs pc W) : W.cell? ⟨g, 0, none⟩ = some (.bool p) ∧ W.cell? ⟨g, 1, none⟩ = some (.slice pa zs.length pc) ∧ W.frozen? ⟨g, 0, none⟩ = false ∧ W.frozen? ⟨g, 1, none⟩ = false := by
  have h2 := h.blk
  unfold WO at h2
  refine ⟨?_, ?_, ?_, ?_⟩ <;> simp [World.cell?, World.frozen?, h2]
theorem Bx.aside {B : Nat} {n : Bool} {a : Option Addr} {la ca : Nat} {m : Bool} {b : Option Addr} {lb cb g : Nat} {w W : World} (h : Bx B n a la ca m b lb cb w W) (hg : B + 1 + 1 < g) (u0 u1 : Value) :
    Bx B n a la ca m b lb cb w ((W.setCell ⟨g, 0, none⟩ u0).setCell ⟨g, 1, none⟩ u1) := by
  have hb : Below g W ((W.setCell ⟨g, 0, none⟩ u0).setCell ⟨g, 1, none⟩ u1) := ((Below.refl _ _).setCell (p := ⟨g, 0, none⟩) (Nat.le_refl g) u0).setCell (p := ⟨g, 1, none⟩) (Nat.le_refl g) u1
  obtain ⟨n', a', l', c', h5⟩ := h.held
  exact ⟨by rw [bcell2 hb _ _ (by omega)]; exact h.a0, by rw [bcell2 hb _ _ (by omega)]; exact h.a1, by rw [bcell2 hb _ _ (by omega)]; exact h.b0, by rw [bcell2 hb _ _ (by omega)]; exact h.b1, ⟨n', a', l', c', by rw [hb.block _ hg]; exact h5⟩, h.bel.trans (hb.mono (by omega))⟩
/-- The power is written anew. -/
theorem PW.step {n : Bool} {a : Option Addr} {la ca : Nat} {m : Bool} {b : Option Addr} {lb cb g : Nat} {w : World} {p : Bool} {pa : Option Addr} {zs : List Nat} {pc : Nat} {W W' : World}
    (h : PW n a la ca m b lb cb g w p pa zs pc W) {Q : Int → Bool → List Nat → Prop} {e : Ending} (hW : WTold Q W e W') :
    ∃ p' pa' zs' pc' k, e = .returned (.tuple #[.agg #[.bool p', .slice pa' zs'.length pc'], .int .i64 k]) ∧ Q k p' zs' ∧ PW n a la ca m b lb cb g w p' pa' zs' pc' ((W'.setCell ⟨g, 0, none⟩ (.bool p')).setCell ⟨g, 1, none⟩ (.slice pa' zs'.length pc')) := by
  obtain ⟨h0, p', pa', pc', k, zs', he, ho, hQ⟩ := hW
  have h1 := h.below h0
  refine ⟨p', pa', zs', pc', k, he, hQ, h1.bx.aside h.gt _ _, ?_, ?_, h.gt⟩
  · have g1 := heap_setCell_same W' g 0 _ _ (.bool p') h1.blk
    exact heap_setCell_same _ g 1 _ _ (.slice pa' zs'.length pc') g1
  · refine (((Chg.refl (fun k => k = g) _).setCell (p := ⟨g, 0, none⟩) rfl _).setCell (p := ⟨g, 1, none⟩) rfl _).owns (owns_base ho h.bx.bel.size) fun k hk he => own64.not_held ho ⟨_, _, _, _, h1.blk⟩ hk he

set_option maxHeartbeats 1000000 in
set_option maxRecDepth 100000 in
theorem pow_works (a b : Option Addr) (ca cb : Nat) (w : World) (hca : 1 ≤ ca) (hcb : 1 ≤ cb) (hra : Rd .u64 w a [2]) (hrb : Rd .u64 w b [3]) (ht : Tabs w) :
    Calls Tryd.prog 34 #[.agg #[.bool true, .slice a 1 ca], .agg #[.bool false, .slice b 1 cb]] w (WTold (fun k m zs => k = 0 ∧ m = true ∧ zs = [8]) w) := by
  have HA := Lib.hid (fun (W : World) (h : Below w.heap.size w W) => hra.below h)
  have HB := Lib.hid (fun (W : World) (h : Below w.heap.size w W) => hrb.below h)
  have HT := Lib.hid (fun (W : World) (h : Below w.heap.size w W) => ht.below h)
  have HBX := Lib.hid (bd_of (xs := [2]) (by decide))
  have HBY := Lib.hid (bd_of (xs := [3]) (by decide))
  have d2 : decide (val [2] < LIM) = true := decide_eq_true (Nat.lt_of_lt_of_le (by decide : val [2] < 18446744073709551616 ^ 1) (by unfold LIM; exact Nat.pow_le_pow_right (by decide) (by decide)))
  have d3 : decide (val [3] < LIM) = true := decide_eq_true (Nat.lt_of_lt_of_le (by decide : val [3] < 18446744073709551616 ^ 1) (by unfold LIM; exact Nat.pow_le_pow_right (by decide) (by decide)))
  have D2 := Lib.hid d2
  have D3 := Lib.hid d3
  clear hra hrb ht d2 d3
  go_enter Tryd.func34, Tryd.ntmps34
  go_wp2_with fail
  refine (wfits_any true a 1 ca [2] _ rfl (by decide) hca (HA.out _ ((((Below.refl _ _).alloc (Nat.le_refl _) _).alloc (by simp) _).alloc (by simp; omega) _)) HBX.out).mono ?_
  rintro e w1 ⟨rfl, rfl⟩
  rw [D2.out]
  go_wp2_with fail
  refine (wfits_any false b 1 cb [3] _ rfl (by decide) hcb (HB.out _ (((((Below.refl _ _).alloc (Nat.le_refl _) _).alloc (by simp) _).alloc (by simp; omega) _).alloc (by simp; omega) _)) HBY.out).mono ?_
  rintro e w1 ⟨rfl, rfl⟩
  rw [D3.out]
  have HX0 := Lib.hid (bx0 true a 1 ca false b 1 cb w)
  go_wp2_with fail
  refine (wsign_any false b 1 cb [3] _ rfl (by decide) hcb (HB.out _ HX0.out.bel) HBY.out).mono ?_
  rintro e w1 ⟨rfl, rfl⟩
  rw [show sg (wv false [3]) = 1 from rfl]
  have HX1 := Lib.hid (HX0.out.below rfl ((Below.refl _ _).alloc (Nat.le_refl _) (WO false b 1 cb)))
  obtain ⟨a0, a1, b0, b1, _, _⟩ := HX1.out
  go_wp2_with fail
  refine (bits_any a 1 ca [2] _ rfl (by decide) hca (HA.out _ HX1.out.bel) HBX.out).mono ?_
  rintro e w1 ⟨⟨k, rfl, hk, _⟩, rfl⟩
  obtain rfl := bits_two hk (.inl rfl)
  clear a0 a1 b0 b1
  go_wp2_with fail
  refine (int_any 1 _ (by decide) (by decide)).mono ?_
  rintro e w2 ⟨hb2, pa, pc, zs, rfl, ho, hN⟩
  obtain rfl : zs = [1] := Num.unique hN (num_of (by decide) (by decide) (by decide))
  rw [show decide ((1 : Int) < 0) = false from rfl]
  have hx2 := HX1.out.below rfl hb2
  have hP : PW true a 1 ca false b 1 cb w2.heap.size w false pa [1] pc (w2.alloc (.cells #[.bool false, .slice pa 1 pc] 44)) :=
    ⟨hx2.below rfl ((Below.refl _ _).alloc (Nat.le_refl _) _), heap_new _ _, own64.under (owns_base ho HX1.out.bel.size) ((Below.refl _ _).alloc (Nat.le_refl _) _), by have h1 := hb2.size; have h2 := HX1.out.bel.size; simp at h1; omega⟩
  have HP := Lib.hid hP
  clear hP hx2 ho hN hb2 hk HX0 HX1
  obtain ⟨_, _, b0, b1, _, _⟩ := HP.out.bx
  go_wp2_with fail
  refine (bits_any b 1 cb [3] _ rfl (by decide) hcb (HB.out _ HP.out.bx.bel) HBY.out).mono ?_
  rintro e w1 ⟨⟨k, rfl, hk, _⟩, rfl⟩
  obtain rfl := bits_two hk (.inr rfl)
  clear hk b0 b1
  go_wp2_with fail
  refine wp_loop_rounds 3 ?_
  rw [rounds_succ]
  generalize w2.alloc (.cells #[.bool false, .slice pa 1 pc] 44) = W0 at *
  generalize w2.heap.size = g at *
-- LOOP
  have HPC := Lib.hid (show 1 ≤ pc from (own64.room HP.out.own).1)
  have HRP := Lib.hid (own64.rd HP.out.own).2
  obtain ⟨c0, c1, f0, f1⟩ := HP.out.cells
  obtain ⟨a0, a1, b0, b1, h5, h6⟩ := HP.out.bx
  clear h5 h6
  go_wp2_with fail
  refine (wmul_one false false false pa pa pc pc 1 1 1 _ HPC.out HPC.out HRP.out HRP.out (HT.out _ HP.out.bx.bel) (by decide) (by decide) rfl (by decide) (by decide) (by decide)).mono ?_
  intro e w3 hW
  have HP3 := Lib.hid (HP.out.below hW.1)
  obtain ⟨p', pa', zs', pc', k', rfl, ⟨rfl, rfl, rfl⟩, hP'⟩ := HP.out.step hW
  have hP' : PW true a 1 ca false b 1 cb g w false pa' [1] pc' ((w3.setCell ⟨g, 0, none⟩ (.bool false)).setCell ⟨g, 1, none⟩ (.slice pa' 1 pc')) := hP'
  have HP' := Lib.hid hP'
  clear hW hP' HP HPC HRP c0 c1 f0 f1 a0 a1 b0 b1
  obtain ⟨c0, c1, f0, f1⟩ := HP3.out.cells
  obtain ⟨a0, a1, b0, b1, h5, h6⟩ := HP'.out.bx
  clear h5 h6
  go_wp2_with fail
  refine (bit_three b cb 1 _ (HB.out _ HP'.out.bx.bel) (.inr rfl)).mono ?_
  rintro e w1 ⟨rfl, rfl⟩
  clear c0 c1 f0 f1 a0 a1 b0 b1 HP3
  generalize (w3.setCell ⟨g, 0, none⟩ (.bool false)).setCell ⟨g, 1, none⟩ (.slice pa' 1 pc') = W at *
  have HP : Hid (PW true a 1 ca false b 1 cb g w false pa' [1] pc' W) := HP'
  clear HP'
  generalize pa' = pa at *
  generalize pc' = pc at *
  have HPC := Lib.hid (show 1 ≤ pc from (own64.room HP.out.own).1)
  have HRP := Lib.hid (own64.rd HP.out.own).2
  obtain ⟨c0, c1, f0, f1⟩ := HP.out.cells
  obtain ⟨a0, a1, b0, b1, h5, h6⟩ := HP.out.bx
  clear h5 h6
  go_wp2_with fail
  refine (wmul_one false true true pa a pc ca 1 2 2 _ HPC.out hca HRP.out (HA.out _ HP.out.bx.bel) (HT.out _ HP.out.bx.bel) (by decide) (by decide) rfl (by decide) (by decide) (by decide)).mono ?_
  intro e w3 hW
  have HP3 := Lib.hid (HP.out.below hW.1)
  obtain ⟨p', pa', zs', pc', k', rfl, ⟨rfl, rfl, rfl⟩, hP'⟩ := HP.out.step hW
  have hP' : PW true a 1 ca false b 1 cb g w true pa' [2] pc' ((w3.setCell ⟨g, 0, none⟩ (.bool true)).setCell ⟨g, 1, none⟩ (.slice pa' 1 pc')) := hP'
  have HP' := Lib.hid hP'
  clear hW hP' HP HPC HRP c0 c1 f0 f1 a0 a1 b0 b1
  obtain ⟨c0, c1, f0, f1⟩ := HP3.out.cells
  obtain ⟨a0, a1, b0, b1, h5, h6⟩ := HP'.out.bx
  clear h5 h6
  go_wp2_with fail
  rw [rounds_succ]
  clear c0 c1 f0 f1 a0 a1 b0 b1 HP3
  generalize (w3.setCell ⟨g, 0, none⟩ (.bool true)).setCell ⟨g, 1, none⟩ (.slice pa' 1 pc') = W at *
  have HP : Hid (PW true a 1 ca false b 1 cb g w true pa' [2] pc' W) := HP'
  clear HP'
  generalize pa' = pa at *
  generalize pc' = pc at *
  have HPC := Lib.hid (show 1 ≤ pc from (own64.room HP.out.own).1)
  have HRP := Lib.hid (own64.rd HP.out.own).2
  obtain ⟨c0, c1, f0, f1⟩ := HP.out.cells
  obtain ⟨a0, a1, b0, b1, h5, h6⟩ := HP.out.bx
  clear h5 h6
  go_wp2_with fail
  refine (wmul_one true true false pa pa pc pc 2 2 4 _ HPC.out HPC.out HRP.out HRP.out (HT.out _ HP.out.bx.bel) (by decide) (by decide) rfl (by decide) (by decide) (by decide)).mono ?_
  intro e w3 hW
  have HP3 := Lib.hid (HP.out.below hW.1)
  obtain ⟨p', pa', zs', pc', k', rfl, ⟨rfl, rfl, rfl⟩, hP'⟩ := HP.out.step hW
  have hP' : PW true a 1 ca false b 1 cb g w false pa' [4] pc' ((w3.setCell ⟨g, 0, none⟩ (.bool false)).setCell ⟨g, 1, none⟩ (.slice pa' 1 pc')) := hP'
  have HP' := Lib.hid hP'
  clear hW hP' HP HPC HRP c0 c1 f0 f1 a0 a1 b0 b1
  obtain ⟨c0, c1, f0, f1⟩ := HP3.out.cells
  obtain ⟨a0, a1, b0, b1, h5, h6⟩ := HP'.out.bx
  clear h5 h6
  go_wp2_with fail
  refine (bit_three b cb 0 _ (HB.out _ HP'.out.bx.bel) (.inl rfl)).mono ?_
  rintro e w1 ⟨rfl, rfl⟩
  clear c0 c1 f0 f1 a0 a1 b0 b1 HP3
  generalize (w3.setCell ⟨g, 0, none⟩ (.bool false)).setCell ⟨g, 1, none⟩ (.slice pa' 1 pc') = W at *
  have HP : Hid (PW true a 1 ca false b 1 cb g w false pa' [4] pc' W) := HP'
  clear HP'
  generalize pa' = pa at *
  generalize pc' = pc at *
  have HPC := Lib.hid (show 1 ≤ pc from (own64.room HP.out.own).1)
  have HRP := Lib.hid (own64.rd HP.out.own).2
  obtain ⟨c0, c1, f0, f1⟩ := HP.out.cells
  obtain ⟨a0, a1, b0, b1, h5, h6⟩ := HP.out.bx
  clear h5 h6
  go_wp2_with fail
  refine (wmul_one false true true pa a pc ca 4 2 8 _ HPC.out hca HRP.out (HA.out _ HP.out.bx.bel) (HT.out _ HP.out.bx.bel) (by decide) (by decide) rfl (by decide) (by decide) (by decide)).mono ?_
  intro e w3 hW
  have HP3 := Lib.hid (HP.out.below hW.1)
  obtain ⟨p', pa', zs', pc', k', rfl, ⟨rfl, rfl, rfl⟩, hP'⟩ := HP.out.step hW
  have hP' : PW true a 1 ca false b 1 cb g w true pa' [8] pc' ((w3.setCell ⟨g, 0, none⟩ (.bool true)).setCell ⟨g, 1, none⟩ (.slice pa' 1 pc')) := hP'
  have HP' := Lib.hid hP'
  clear hW hP' HP HPC HRP c0 c1 f0 f1 a0 a1 b0 b1
  obtain ⟨c0, c1, f0, f1⟩ := HP3.out.cells
  obtain ⟨a0, a1, b0, b1, h5, h6⟩ := HP'.out.bx
  clear h5 h6
  go_wp2_with fail
  rw [rounds_succ]
  clear c0 c1 f0 f1 a0 a1 b0 b1 HP3
  generalize (w3.setCell ⟨g, 0, none⟩ (.bool true)).setCell ⟨g, 1, none⟩ (.slice pa' 1 pc') = W at *
  have HP : Hid (PW true a 1 ca false b 1 cb g w true pa' [8] pc' W) := HP'
  clear HP'
  generalize pa' = pa at *
  generalize pc' = pc at *
  obtain ⟨c0, c1, f0, f1⟩ := HP.out.cells
  have HHE := Lib.hid HP.out.bx.held
  obtain ⟨_, _, _, _, d0, d1, e0, e1⟩ := HHE.out.cells
  have HO := Lib.hid HP.out.own
  have HBEL := Lib.hid HP.out.bx.bel
  clear HP
  go_wp2
  refine bodyPost_ret (results_held rfl rfl rfl HHE.out) rfl ?_
  exact WTold.seth (Q := fun k m zs => k = 0 ∧ m = true ∧ zs = [8]) ⟨HBEL.out, true, pa, pc, 0, [8], rfl, HO.out, rfl, rfl, rfl⟩ HHE.out (by omega) _ _
end Go.Proofs.YthccccpcjafdcaaDoor
