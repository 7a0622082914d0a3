import Derived.Test.YtclbjmanmkoikaaGreatDoorRr
namespace Go.Proofs.YtclbjmanmkoikaaGreatDoor
open Go.RowKit

/-! RsaChecks. -/
theorem tf_belowB {w0 w w' : World} (h0 : Trig w0 ∧ Five w0) (h : Trig w ∧ Five w) (hb : Below w0.heap.size w w') : Trig w' ∧ Five w' := by
  have g1 : ∀ i, i < 6 → (5 : Nat) < w0.heap.size ∧ (6 : Nat) < w0.heap.size := fun i hi => ⟨World.block_lt_of_cell? w0 _ (h0.1 i hi).1, World.block_lt_of_cell? w0 _ (h0.1 i hi).2⟩
  have g2 : ∀ i, i < 5 → (0 : Nat) < w0.heap.size := fun i hi => World.block_lt_of_cell? w0 _ (h0.2 i hi)
  exact ⟨fun i hi => ⟨(hb.cell (g1 i hi).1).trans (h.1 i hi).1, (hb.cell (g1 i hi).2).trans (h.1 i hi).2⟩, fun i hi => (hb.cell (g2 i hi)).trans (h.2 i hi)⟩
def chkI (N E : Nat) : Int := if KeyOk N E then 0 else 80
theorem p_checkI {w : World} {vN vE : Value} {N E : Nat} (gN : Raw w vN N) (gE : Raw w vE E) (c : Int) (hc : c = chkI N E) :
    Calls Tryz.prog 10 #[.agg #[vN, vE]] w fun e w' => Below w.heap.size w w' ∧ e = .returned (.int .i64 c) := by
  subst hc
  refine (p_check gN gE).mono ?_
  rintro e w' ⟨hb, ⟨h, rfl⟩ | ⟨h, rfl⟩⟩
  · exact ⟨hb, by rw [chkI, if_pos h]⟩
  · exact ⟨hb, by rw [chkI, if_neg h]⟩
theorem r8checkI {w : World} {vN vE : Value} {N E : Nat} (gN : Raw w vN N) (gE : Raw w vE E) (c : Int) (hc : c = chkI N E) :
    Calls Tryz.prog 11 #[.agg #[vN, vE]] w fun e w' => Below w.heap.size w w' ∧ e = .returned (.int .i64 c) := by
  subst hc
  refine (r8check gN gE).mono ?_
  rintro e w' ⟨hb, ⟨h, rfl⟩ | ⟨h, rfl⟩⟩
  · exact ⟨hb, by rw [chkI, if_pos h]⟩
  · exact ⟨hb, by rw [chkI, if_neg h]⟩
theorem p_sizeI {w : World} {vN vE : Value} {N : Nat} (gN : Raw w vN N) (hE : ∃ a l c, vE = .slice a l c) (z : Nat) (hz : z = szN N) :
    Calls Tryz.prog 12 #[.agg #[vN, vE]] w fun e w' => Below w.heap.size w w' ∧ e = .returned (.int .i64 (z : Nat)) := by
  subst hz; exact p_size gN hE
theorem r8sizeI {w : World} {vN vE : Value} {N : Nat} (gN : Raw w vN N) (hE : ∃ a l c, vE = .slice a l c) (z : Nat) (hz : z = szN N) :
    Calls Tryz.prog 13 #[.agg #[vN, vE]] w fun e w' => Below w.heap.size w w' ∧ e = .returned (.int .i64 (z : Nat)) := by
  subst hz; exact r8size gN hE
theorem p_samebT {w : World} {v1 v2 : Value} {l : List Nat} (h1 : Raw8 w v1 l) (h2 : Raw8 w v2 l) (hb : l.length ≤ 1099511627776) :
    Calls Tryz.prog 14 #[v1, v2] w fun e w' => Below w.heap.size w w' ∧ e = .returned (.bool true) := by
  refine (p_sameb h1 h2 hb).mono ?_
  rintro e w' ⟨hb, ⟨_, rfl⟩ | ⟨h, _⟩⟩
  · exact ⟨hb, rfl⟩
  · exact absurd rfl h
theorem LRow.raw {w : World} {B g n d : Nat} {xs : List Nat} (h : LRow w B g n d xs) (hn : xs.length = n) (hb : Bd xs) (hl : n ≤ 1000) : Raw w (.slice (some ⟨g, 0, none⟩) n d) (val xs) :=
  ⟨some ⟨g, 0, none⟩, d, xs, by rw [hn], by rw [hn]; exact h.cap, (fun h => by cases h), h.rd hn, hb, rfl, by omega⟩
/-- What is known while a law over a key that was lent runs. -/
structure LSt (w : World) (Bs g g1 d1 g2 d2 B0 : Nat) (aN : Option Addr) (lN cN : Nat) (Ns : List Nat) (aE : Option Addr) (lE cE : Nat) (Es : List Nat) (R : List Rw) (W : World) : Prop where
  kx : KeyAt W g (.slice (some ⟨g1, 0, none⟩) lN d1) (.slice (some ⟨g2, 0, none⟩) lE d2) (val Ns) (val Es)
  kk : KeyAt W w.heap.size (.slice aN lN cN) (.slice aE lE cE) (val Ns) (val Es)
  sp : Sep W Bs R
  bs : Bs ≤ W.heap.size
  r1 : LRow W B0 g1 lN d1 Ns
  r2 : LRow W B0 g2 lE d2 Es
  rN : Rd .u64 W aN Ns
  rE : Rd .u64 W aE Es
  bl : Below w.heap.size w W
theorem LSt.below {w W W' : World} {Bs g g1 d1 g2 d2 B0 : Nat} {aN : Option Addr} {lN cN : Nat} {Ns : List Nat} {aE : Option Addr} {lE cE : Nat} {Es : List Nat} {R : List Rw} (h : LSt w Bs g g1 d1 g2 d2 B0 aN lN cN Ns aE lE cE Es R W) (hb : Below W.heap.size W W') : LSt w Bs g g1 d1 g2 d2 B0 aN lN cN Ns aE lE cE Es R W' :=
  ⟨h.kx.below hb, h.kk.below hb, h.sp.belowS hb, Nat.le_trans h.bs hb.size, h.r1.below hb, h.r2.below hb, h.rN.below hb, h.rE.below hb, h.bl.trans (hb.mono h.bl.size)⟩
theorem LSt.new {w W W' : World} {Bs g g1 d1 g2 d2 B0 : Nat} {aN : Option Addr} {lN cN : Nat} {Ns : List Nat} {aE : Option Addr} {lE cE : Nat} {Es : List Nat} {R : List Rw} (h : LSt w Bs g g1 d1 g2 d2 B0 aN lN cN Ns aE lE cE Es R W) (hb : Below W.heap.size W W') {v : Value} {b : List Nat} (ho : own8 W' W.heap.size v b) : LSt w Bs g g1 d1 g2 d2 B0 aN lN cN Ns aE lE cE Es (rwb v b :: R) W' :=
  ⟨h.kx.below hb, h.kk.below hb, h.sp.new h.bs hb ho, Nat.le_trans h.bs hb.size, h.r1.below hb, h.r2.below hb, h.rN.below hb, h.rE.below hb, h.bl.trans (hb.mono h.bl.size)⟩
theorem LSt.cells {w W : World} {Bs g g1 d1 g2 d2 B0 : Nat} {aN : Option Addr} {lN cN : Nat} {Ns : List Nat} {aE : Option Addr} {lE cE : Nat} {Es : List Nat} {R : List Rw} (h : LSt w Bs g g1 d1 g2 d2 B0 aN lN cN Ns aE lE cE Es R W) :
    W.cell? ⟨g, 0, none⟩ = some (.slice (some ⟨g1, 0, none⟩) lN d1) ∧ W.cell? ⟨g, 1, none⟩ = some (.slice (some ⟨g2, 0, none⟩) lE d2) ∧ W.cell? ⟨w.heap.size, 0, none⟩ = some (.slice aN lN cN) ∧ W.cell? ⟨w.heap.size, 1, none⟩ = some (.slice aE lE cE) :=
  ⟨h.kx.c0, h.kx.c1, h.kk.c0, h.kk.c1⟩
set_option maxHeartbeats 800000 in
set_option maxRecDepth 100000 in
theorem rsaChecks_any {aN : Option Addr} {lN cN : Nat} {Ns : List Nat} {aE : Option Addr} {lE cE : Nat} {Es : List Nat} (ds : List Nat) (z : Int) (w : World) (hT : Trig w) (hF : Five w)
    (hlN : Ns.length = lN) (hbN : lN ≤ 9223372036854775807) (hcN : lN ≤ cN) (hnN : aN = none → cN = 0) (hrN : Rd .u64 w aN Ns) (bxN : Bd Ns)
    (hlE : Es.length = lE) (hbE : lE ≤ 9223372036854775807) (hcE : lE ≤ cE) (hnE : aE = none → cE = 0) (hrE : Rd .u64 w aE Es) (bxE : Bd Es) (hd : ds.length = 20) (hd8 : B8 ds) (hz1 : -9223372036854775808 ≤ z) (hz2 : z ≤ 9223372036854775807) :
    Calls Tryz.prog 3 #[.agg #[.slice aN lN cN, .slice aE lE cE], .agg (u8s ds).toArray, .int .i64 z] w fun e w' => e = .returned (.bool true) ∧ Below w.heap.size w w' := by
  have HT0 := Lib.hid (And.intro hT hF)
  have HRN : Hid (lN ≤ 150 → Raw w (.slice aN lN cN) (val Ns)) := fun h => ⟨aN, cN, Ns, by rw [hlN], by omega, hnN, hrN, bxN, rfl, by omega⟩
  have HRE : Hid (lE ≤ 150 → Raw w (.slice aE lE cE) (val Es)) := fun h => ⟨aE, cE, Es, by rw [hlE], by omega, hnE, hrE, bxE, rfl, by omega⟩
  have HRD := Lib.hid (And.intro hrN hrE)
  have HLL := Lib.hid (And.intro hlN hlE)
  have HBX := Lib.hid (And.intro bxN bxE)
  have HD := Lib.hid (And.intro hd hd8)
  have HZ := Lib.hid (And.intro hz1 hz2)
  obtain ⟨W0, hW0⟩ : ∃ W0, W0 = (w.alloc (KB (.slice aN lN cN) (.slice aE lE cE))).alloc (.cells (u8s ds).toArray 25) := ⟨_, rfl⟩
  have hB : Below w.heap.size w W0 := by rw [hW0]; exact bl2 w _ _
  have hcd : CB W0 25 (w.heap.size + 1) (u8s ds) := by rw [hW0]; exact cb2 w _ _ _
  have hk1 : Below (w.alloc (KB (.slice aN lN cN) (.slice aE lE cE))).heap.size (w.alloc (KB (.slice aN lN cN) (.slice aE lE cE))) W0 := by rw [hW0]; exact (Below.refl _ _).alloc (Nat.le_refl _) _
  have hc0 : W0.cell? ⟨w.heap.size, 0, none⟩ = some (.slice aN lN cN) := below_cell hk1 _ _ (World.cell?_alloc_at _ _ _ _ rfl)
  have hc1 : W0.cell? ⟨w.heap.size, 1, none⟩ = some (.slice aE lE cE) := below_cell hk1 _ _ (World.cell?_alloc_at _ _ _ _ rfl)
  have HC := Lib.hid (And.intro hc0 hc1)
  have HCD := Lib.hid hcd
  have HB := Lib.hid hB
  have HW := Lib.hid hW0
  have hc0' := hc0
  have hc1' := hc1
  rw [hW0] at hc0' hc1'
  clear hB hT hF hlN hcN hnN hrN bxN hlE hcE hnE hrE bxE hd hd8 hz1 hz2 hW0 hk1 hcd hc0 hc1
  by_cases h1 : lN ≤ 150
  · by_cases h2 : lE ≤ 150
    · have q1 : decide ((150 : Int) < (lN : Int)) = false := decide_eq_false (by omega)
      have q2 : decide ((150 : Int) < (lE : Int)) = false := decide_eq_false (by omega)
      have HH := Lib.hid (And.intro h1 h2)
      have hbN2 : lN ≤ 1048576 := by omega
      have hbE2 : lE ≤ 1048576 := by omega
      clear h1 h2
      go_enter Tryz.func3, Tryz.ntmps3
      go_wp2_with fail
      rw [← HW.out]
      clear hc0' hc1' HW
      refine (lentKey_any aN lN cN Ns aE lE cE Es _ HLL.out.1 hbN2 (HRD.out.1.below HB.out) HLL.out.2 hbE2 (HRD.out.2.below HB.out)).mono ?_
      rintro e w1 ⟨g1, d1, g2, d2, rfl, hL1, hL2, hb⟩
      have hB1 := HB.out.trans (hb.mono HB.out.size)
      have hkx := KeyAt.new (hL1.raw HLL.out.1 HBX.out.1 (by have := HH.out; omega)) (hL2.raw HLL.out.2 HBX.out.2 (by have := HH.out; omega))
      have hkk : KeyAt w1 w.heap.size (.slice aN lN cN) (.slice aE lE cE) (val Ns) (val Es) := ⟨below_cell hb _ _ HC.out.1, below_cell hb _ _ HC.out.2, (HRN.out HH.out.1).below hB1, (HRE.out HH.out.2).below hB1⟩
      have hcd := HCD.out.below hb
      obtain ⟨g, hg⟩ : ∃ g, g = w1.heap.size := ⟨_, rfl⟩
      rw [← hg] at hkx
      have hal : Below w1.heap.size w1 (w1.alloc (KB (.slice (some ⟨g1, 0, none⟩) lN d1) (.slice (some ⟨g2, 0, none⟩) lE d2))) := (Below.refl _ _).alloc (Nat.le_refl _) _
      have HST : Hid (LSt w w.heap.size g g1 d1 g2 d2 W0.heap.size aN lN cN Ns aE lE cE Es [] (w1.alloc (KB (.slice (some ⟨g1, 0, none⟩) lN d1) (.slice (some ⟨g2, 0, none⟩) lE d2)))) :=
        ⟨hkx, hkk.below hal, Sep.nil _ _, Nat.le_trans hB1.size hal.size, hL1.below hal, hL2.below hal, (HRD.out.1.below hB1).below hal, (HRD.out.2.below hB1).below hal, hB1.trans (hal.mono hB1.size)⟩
      have HCD := Lib.hid (hcd.below hal)
      clear hkx hkk hcd hL1 hL2 hB1 HB HC HRN HRE hal hb
      go_wp2_with (refine wpl_load20 rfl (.tmp 4) rfl (w.heap.size + 1) rfl ds HCD.out HD.out.1 ?_)
      rw [← hg]
      generalize w1.alloc (KB (.slice (some ⟨g1, 0, none⟩) lN d1) (.slice (some ⟨g2, 0, none⟩) lE d2)) = w2 at *
      clear hg
      refine (p_encoded ds z _ HD.out.1 HD.out.2 HZ.out.1 HZ.out.2).mono ?_
      rintro e w3 ⟨hb, v3, k3, b3, rfl, hE3, ho3⟩
      have HST := Lib.hid (HST.out.new hb ho3)
      have HCD := Lib.hid (HCD.out.below hb)
      have HE3 := Lib.hid hE3
      obtain ⟨a3, c3, rfl, -⟩ := own8_form ho3
      clear hb ho3 hE3
      go_wp2_with (refine wpl_load20 rfl (.tmp 4) rfl (w.heap.size + 1) rfl ds HCD.out HD.out.1 ?_)
      refine (p_encoded ds z _ HD.out.1 HD.out.2 HZ.out.1 HZ.out.2).mono ?_
      rintro e w4 ⟨hb, v4, k4, b4, rfl, hE4, ho4⟩
      obtain ⟨rfl, rfl⟩ := hE4.one HE3.out
      have HST := Lib.hid (HST.out.new hb ho4)
      have HCD := Lib.hid (HCD.out.below hb)
      obtain ⟨a4, c4, rfl, -⟩ := own8_form ho4
      clear hb ho4 hE4
      go_wp2_with (refine wpl_load20 rfl (.tmp 4) rfl (w.heap.size + 1) rfl ds HCD.out HD.out.1 ?_)
      refine (r8encoded ds z _ HD.out.1 HD.out.2 HZ.out.1 HZ.out.2).mono ?_
      rintro e w5 ⟨hb, v5, k5, b5, rfl, hE5, ho5⟩
      obtain ⟨rfl, rfl⟩ := hE5.one HE3.out
      have HST := Lib.hid (HST.out.new hb ho5)
      obtain ⟨a5, c5, rfl, -⟩ := own8_form ho5
      have h8 : B8 b5 := HE3.out.b8 HD.out.2
      have hl5 := HE3.out.len HD.out.1
      have HR3 : Hid (∀ W, LSt w w.heap.size g g1 d1 g2 d2 W0.heap.size aN lN cN Ns aE lE cE Es [rwb (.slice a5 b5.length c5) b5, rwb (.slice a4 b5.length c4) b5, rwb (.slice a3 b5.length c3) b5] W → Raw8 W (.slice a3 b5.length c3) b5 ∧ Raw8 W (.slice a4 b5.length c4) b5 ∧ Raw8 W (.slice a5 b5.length c5) b5) := fun W h =>
        ⟨own8_raw (h.sp.1 (rwb (.slice a3 b5.length c3) b5) (by simp)) h8, own8_raw (h.sp.1 (rwb (.slice a4 b5.length c4) b5) (by simp)) h8, own8_raw (h.sp.1 (rwb (.slice a5 b5.length c5) b5) (by simp)) h8⟩
      have HLB : Hid (b5.length ≤ 1099511627776) := Nat.le_trans hl5 (by decide)
      clear hb ho5 hE5 HE3 h8 HCD
      obtain ⟨c, hc⟩ : ∃ c, c = chkI (val Ns) (val Es) := ⟨_, rfl⟩
      obtain ⟨sz, hsz⟩ : ∃ sz, sz = szN (val Ns) := ⟨_, rfl⟩
      have HCK := Lib.hid (And.intro hc hsz)
      have kk : (k5 != k5) = false := by simp
      have kc : (c != c) = false := by simp
      have ks : ((sz : Int) != (sz : Int)) = false := by simp
      clear hc hsz q1 q2
      go_upto_region 7 with fail
      have HST := Lib.hid (HST.out.below (Below.refl _ _).drew)
      go_region_held3 (fun W => W.cell? ⟨g, 0, none⟩ = some (.slice (some ⟨g1, 0, none⟩) lN d1) ∧ W.cell? ⟨g, 1, none⟩ = some (.slice (some ⟨g2, 0, none⟩) lE d2) ∧ W.cell? ⟨w.heap.size, 0, none⟩ = some (.slice aN lN cN) ∧ W.cell? ⟨w.heap.size, 1, none⟩ = some (.slice aE lE cE))
        (first | exact HST.out.cells)
        (first
          | (go_at_call 10; (with_reducible refine (p_checkI HST.out.kx.rN HST.out.kx.rE c HCK.out.1).mono ?_)
             rintro e w6 ⟨hb, rfl⟩
             have HST := Lib.hid (HST.out.below hb)
             clear hb)
          | (go_at_call 11; (with_reducible refine (r8checkI HST.out.kk.rN HST.out.kk.rE c HCK.out.1).mono ?_)
             rintro e w7 ⟨hb, rfl⟩
             have HST := Lib.hid (HST.out.below hb)
             clear hb)
          | (go_at_call 12; (with_reducible refine (p_sizeI HST.out.kx.rN ⟨_, _, _, rfl⟩ sz HCK.out.2).mono ?_)
             rintro e w8 ⟨hb, rfl⟩
             have HST := Lib.hid (HST.out.below hb)
             clear hb)
          | (go_at_call 13; (with_reducible refine (r8sizeI HST.out.kk.rN ⟨_, _, _, rfl⟩ sz HCK.out.2).mono ?_)
             rintro e w9 ⟨hb, rfl⟩
             have HST := Lib.hid (HST.out.below hb)
             clear hb)
          | (go_at_call 14; (with_reducible refine (p_samebT (HR3.out _ HST.out).1 (HR3.out _ HST.out).2.2 HLB.out).mono ?_)
             rintro e w10 ⟨hb, rfl⟩
             have HST := Lib.hid (HST.out.below hb)
             clear hb)
          | (go_at_call 14; (with_reducible refine (p_samebT (HR3.out _ HST.out).2.1 (HR3.out _ HST.out).2.2 HLB.out).mono ?_)
             rintro e w11 ⟨hb, rfl⟩
             have HST := Lib.hid (HST.out.below hb)
             clear hb)
          | (go_at_call 15; (with_reducible refine (keptKey_any W0.heap.size g1 d1 g2 d2 aN lN cN Ns aE lE cE Es _ HLL.out.1 hbN2 HST.out.rN HLL.out.2 hbE2 HST.out.rE HST.out.r1 HST.out.r2).mono ?_)
             rintro e w12 ⟨rfl, hb⟩
             have HST := Lib.hid (HST.out.below hb)
             clear hb))
      obtain ⟨W1, hW1⟩ : ∃ W1 : World, W1 = w12 := ⟨_, rfl⟩
      have hsep : Sep w12 w.heap.size (rwNo :: rwNo8 :: ([] ++ [rwb (.slice a3 b5.length c3) b5, rwb (.slice a4 b5.length c4) b5])) :=
        ((Sep.perm HST.out.sp.tail (List.reverse_perm _).symm).nilRow _).nilRow _
      have hbok := Bok.start (T := 38) hsep HST.out.bl.size rfl
      have HK := Lib.hid hbok
      have HBK := Lib.hid ((Below.refl w12.heap.size w12).alloc (Nat.le_refl _) (.cells #[.slice none 0 0, .slice none 0 0] 38))
      have HBL := Lib.hid HST.out.bl
      have HTF := Lib.hid (And.intro (HT0.out.1.below HST.out.bl) (HT0.out.2.below HST.out.bl))
      have hsz10 := HST.out.bl.size
      clear hbok hsep hW1 HST HR3 HCK kk kc ks hbN2 hbE2
      go_wp2_with fail
      refine (HK.out.bytes a3 b5.length c3 (by simp)).mono ?_
      rintro e w13 ⟨rfl, ⟨vb0, hbok⟩, hb7⟩
      have HK := Lib.hid hbok
      have HBK := Lib.hid (HBK.out.trans hb7)
      clear hbok hb7
      go_wp2_with fail
      refine (HK.out.bytes a4 b5.length c4 (by simp)).mono ?_
      rintro e w14 ⟨rfl, ⟨vb1, hbok⟩, hb7⟩
      have HK := Lib.hid hbok
      have HBK := Lib.hid (HBK.out.trans hb7)
      clear hbok hb7
      have HTF := Lib.hid (And.intro (HTF.out.1.below HBK.out) (HTF.out.2.below HBK.out))
      have HBL := Lib.hid (HBL.out.trans (HBK.out.mono HBL.out.size))
      go_wp2_with fail
      refine (Bok.apart (WL := []) (BL := [rwb (.slice a3 b5.length c3) b5, rwb (.slice a4 b5.length c4) b5]) HK.out (fun s hs => by cases hs) (fun s hs => ?_) (by decide) (by simp)).mono ?_
      · simp only [List.mem_cons, List.mem_nil_iff, or_false] at hs
        rcases hs with rfl | rfl <;> exact ⟨rfl, by simp only [rwb]; omega⟩
      rintro e w16 ⟨rfl, hb16⟩
      have HTF := Lib.hid (tf_belowB HT0.out HTF.out hb16)
      have HBL := Lib.hid (HBL.out.trans hb16)
      clear hb16 HK
      go_wp2_with fail
      refine (works8_any _ HTF.out.1 HTF.out.2).mono ?_
      rintro e w17 ⟨rfl, hb17⟩
      have HBL := Lib.hid (HBL.out.trans (hb17.mono HBL.out.size))
      clear hb17
      go_wp2
      go_ret
      exact ⟨rfl, HBL.out⟩
    · have q1 : decide ((150 : Int) < (lN : Int)) = false := decide_eq_false (by omega)
      have q2 : decide ((150 : Int) < (lE : Int)) = true := decide_eq_true (by omega)
      clear h1 h2
      go_enter Tryz.func3, Tryz.ntmps3
      go_wp2
      go_ret
      exact ⟨rfl, bl2 w _ _⟩
  · have q1 : decide ((150 : Int) < (lN : Int)) = true := decide_eq_true (by omega)
    clear h1
    go_enter Tryz.func3, Tryz.ntmps3
    go_wp2
    go_ret
    exact ⟨rfl, bl2 w _ _⟩
end Go.Proofs.YtclbjmanmkoikaaGreatDoor
