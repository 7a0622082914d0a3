import Derived.Test.YtaookoejdnkkoaaGreatDoorKRr
namespace Go.Proofs.YtaookoejdnkkoaaGreatDoor
open Go.RowKit

/-! RsaChecks. -/
theorem tf_belowB {w0 w w' : World} (h0 : Trig w0 ∧ Five w0) (h : Trig w ∧ Five w) (hb : Below w0.heap.size w w') : Trig w' ∧ Five w' := by
  have g1 : ∀ i, i < 6 → (9 : Nat) < w0.heap.size ∧ (10 : Nat) < w0.heap.size := fun i hi => ⟨World.block_lt_of_cell? w0 _ (h0.1 i hi).1, World.block_lt_of_cell? w0 _ (h0.1 i hi).2⟩
  have g2 : ∀ i, i < 5 → (0 : Nat) < w0.heap.size := fun i hi => World.block_lt_of_cell? w0 _ (h0.2 i hi)
  exact ⟨fun i hi => ⟨(hb.cell (g1 i hi).1).trans (h.1 i hi).1, (hb.cell (g1 i hi).2).trans (h.1 i hi).2⟩, fun i hi => (hb.cell (g2 i hi)).trans (h.2 i hi)⟩
def chkI (N E : Nat) : Int := if KeyOk N E then 0 else 80
theorem p_checkI {w : World} {vN vE : Value} {N E : Nat} (gN : Raw w vN N) (gE : Raw w vE E) (c : Int) (hc : c = chkI N E) :
    Calls Tryz.prog 58 #[.agg #[vN, vE]] w fun e w' => Below w.heap.size w w' ∧ e = .returned (.int .i64 c) := by
  subst hc
  refine (p_check gN gE).mono ?_
  rintro e w' ⟨hb, ⟨h, rfl⟩ | ⟨h, rfl⟩⟩
  · exact ⟨hb, by rw [chkI, if_pos h]⟩
  · exact ⟨hb, by rw [chkI, if_neg h]⟩
theorem r8checkI {w : World} {vN vE : Value} {N E : Nat} (gN : Raw w vN N) (gE : Raw w vE E) (c : Int) (hc : c = chkI N E) :
    Calls Tryz.prog 43 #[.agg #[vN, vE]] w fun e w' => Below w.heap.size w w' ∧ e = .returned (.int .i64 c) := by
  subst hc
  refine (r8check gN gE).mono ?_
  rintro e w' ⟨hb, ⟨h, rfl⟩ | ⟨h, rfl⟩⟩
  · exact ⟨hb, by rw [chkI, if_pos h]⟩
  · exact ⟨hb, by rw [chkI, if_neg h]⟩
theorem p_sizeI {w : World} {vN vE : Value} {N : Nat} (gN : Raw w vN N) (hE : ∃ a l c, vE = .slice a l c) (z : Nat) (hz : z = szN N) :
    Calls Tryz.prog 59 #[.agg #[vN, vE]] w fun e w' => Below w.heap.size w w' ∧ e = .returned (.int .i64 (z : Nat)) := by
  subst hz; exact p_size gN hE
theorem r8sizeI {w : World} {vN vE : Value} {N : Nat} (gN : Raw w vN N) (hE : ∃ a l c, vE = .slice a l c) (z : Nat) (hz : z = szN N) :
    Calls Tryz.prog 60 #[.agg #[vN, vE]] w fun e w' => Below w.heap.size w w' ∧ e = .returned (.int .i64 (z : Nat)) := by
  subst hz; exact r8size gN hE
theorem p_samebT {w : World} {v1 v2 : Value} {l : List Nat} (h1 : Raw8 w v1 l) (h2 : Raw8 w v2 l) (hb : l.length ≤ 1099511627776) :
    Calls Tryz.prog 22 #[v1, v2] w fun e w' => Below w.heap.size w w' ∧ e = .returned (.bool true) := by
  refine (p_sameb h1 h2 hb).mono ?_
  rintro e w' ⟨hb, ⟨_, rfl⟩ | ⟨h, _⟩⟩
  · exact ⟨hb, rfl⟩
  · exact absurd rfl h
theorem LRow.raw {w : World} {B g n d : Nat} {xs : List Nat} (h : LRow w B g n d xs) (hn : xs.length = n) (hb : Bd xs) (hl : n ≤ 1000) : Raw w (.slice (some ⟨g, 0, none⟩) n d) (val xs) :=
  ⟨some ⟨g, 0, none⟩, d, xs, by rw [hn], by rw [hn]; exact h.cap, (fun h => by cases h), h.rd hn, hb, rfl, by omega⟩
/-- What is known while a law over a key that was lent runs. -/
structure LSt (w : World) (Bs g g1 d1 g2 d2 B0 : Nat) (aN : Option Addr) (lN cN : Nat) (Ns : List Nat) (aE : Option Addr) (lE cE : Nat) (Es : List Nat) (R : List Rw) (W : World) : Prop where
  kx : KeyAt W g (.slice (some ⟨g1, 0, none⟩) lN d1) (.slice (some ⟨g2, 0, none⟩) lE d2) (val Ns) (val Es)
  kk : KeyAt W w.heap.size (.slice aN lN cN) (.slice aE lE cE) (val Ns) (val Es)
  sp : Sep W Bs R
  bs : Bs ≤ W.heap.size
  r1 : LRow W B0 g1 lN d1 Ns
  r2 : LRow W B0 g2 lE d2 Es
  rN : Rd .u64 W aN Ns
  rE : Rd .u64 W aE Es
  bl : Below w.heap.size w W
theorem LSt.below {w W W' : World} {Bs g g1 d1 g2 d2 B0 : Nat} {aN : Option Addr} {lN cN : Nat} {Ns : List Nat} {aE : Option Addr} {lE cE : Nat} {Es : List Nat} {R : List Rw} (h : LSt w Bs g g1 d1 g2 d2 B0 aN lN cN Ns aE lE cE Es R W) (hb : Below W.heap.size W W') : LSt w Bs g g1 d1 g2 d2 B0 aN lN cN Ns aE lE cE Es R W' :=
  ⟨h.kx.below hb, h.kk.below hb, h.sp.belowS hb, Nat.le_trans h.bs hb.size, h.r1.below hb, h.r2.below hb, h.rN.below hb, h.rE.below hb, h.bl.trans (hb.mono h.bl.size)⟩
theorem LSt.new {w W W' : World} {Bs g g1 d1 g2 d2 B0 : Nat} {aN : Option Addr} {lN cN : Nat} {Ns : List Nat} {aE : Option Addr} {lE cE : Nat} {Es : List Nat} {R : List Rw} (h : LSt w Bs g g1 d1 g2 d2 B0 aN lN cN Ns aE lE cE Es R W) (hb : Below W.heap.size W W') {v : Value} {b : List Nat} (ho : own8 W' W.heap.size v b) : LSt w Bs g g1 d1 g2 d2 B0 aN lN cN Ns aE lE cE Es (rwb v b :: R) W' :=
  ⟨h.kx.below hb, h.kk.below hb, h.sp.new h.bs hb ho, Nat.le_trans h.bs hb.size, h.r1.below hb, h.r2.below hb, h.rN.below hb, h.rE.below hb, h.bl.trans (hb.mono h.bl.size)⟩
theorem LSt.cells {w W : World} {Bs g g1 d1 g2 d2 B0 : Nat} {aN : Option Addr} {lN cN : Nat} {Ns : List Nat} {aE : Option Addr} {lE cE : Nat} {Es : List Nat} {R : List Rw} (h : LSt w Bs g g1 d1 g2 d2 B0 aN lN cN Ns aE lE cE Es R W) :
    W.cell? ⟨g, 0, none⟩ = some (.slice (some ⟨g1, 0, none⟩) lN d1) ∧ W.cell? ⟨g, 1, none⟩ = some (.slice (some ⟨g2, 0, none⟩) lE d2) ∧ W.cell? ⟨w.heap.size, 0, none⟩ = some (.slice aN lN cN) ∧ W.cell? ⟨w.heap.size, 1, none⟩ = some (.slice aE lE cE) :=
  ⟨h.kx.c0, h.kx.c1, h.kk.c0, h.kk.c1⟩
set_option maxHeartbeats 800000 in
set_option maxRecDepth 100000 in
theorem rsaChecks_any {aN : Option Addr} {lN cN : Nat} {Ns : List Nat} {aE : Option Addr} {lE cE : Nat} {Es : List Nat} (ds : List Nat) (z : Int) (w : World) (hT : Trig w) (hF : Five w)
    (hlN : Ns.length = lN) (hbN : lN ≤ 9223372036854775807) (hcN : lN ≤ cN) (hnN : aN = none → cN = 0) (hrN : Rd .u64 w aN Ns) (bxN : Bd Ns)
    (hlE : Es.length = lE) (hbE : lE ≤ 9223372036854775807) (hcE : lE ≤ cE) (hnE : aE = none → cE = 0) (hrE : Rd .u64 w aE Es) (bxE : Bd Es) (hd : ds.length = 20) (hd8 : B8 ds) (hz1 : -9223372036854775808 ≤ z) (hz2 : z ≤ 9223372036854775807) :
    Calls Tryz.prog 27 #[.agg #[.slice aN lN cN, .slice aE lE cE], .agg (u8s ds).toArray, .int .i64 z] w fun e w' => e = .returned (.bool true) ∧ Below w.heap.size w w' := by
  have HT0 := Lib.hid (And.intro hT hF)
  have HRN : Hid (lN ≤ 150 → Raw w (.slice aN lN cN) (val Ns)) := fun h => ⟨aN, cN, Ns, by rw [hlN], by omega, hnN, hrN, bxN, rfl, by omega⟩
  have HRE : Hid (lE ≤ 150 → Raw w (.slice aE lE cE) (val Es)) := fun h => ⟨aE, cE, Es, by rw [hlE], by omega, hnE, hrE, bxE, rfl, by omega⟩
  have HRD := Lib.hid (And.intro hrN hrE)
  have HLL := Lib.hid (And.intro hlN hlE)
  have HBX := Lib.hid (And.intro bxN bxE)
  have HD := Lib.hid (And.intro hd hd8)
  have HZ := Lib.hid (And.intro hz1 hz2)
  obtain ⟨W0, hW0⟩ : ∃ W0, W0 = (w.alloc (KB (.slice aN lN cN) (.slice aE lE cE))).alloc (.cells (u8s ds).toArray 50) := ⟨_, rfl⟩
  have hB : Below w.heap.size w W0 := by rw [hW0]; exact bl2 w _ _
  have hcd : CB W0 50 (w.heap.size + 1) (u8s ds) := by rw [hW0]; exact cb2 w _ _ _
  have hk1 : Below (w.alloc (KB (.slice aN lN cN) (.slice aE lE cE))).heap.size (w.alloc (KB (.slice aN lN cN) (.slice aE lE cE))) W0 := by rw [hW0]; exact (Below.refl _ _).alloc (Nat.le_refl _) _
  have hc0 : W0.cell? ⟨w.heap.size, 0, none⟩ = some (.slice aN lN cN) := below_cell hk1 _ _ (World.cell?_alloc_at _ _ _ _ rfl)
  have hc1 : W0.cell? ⟨w.heap.size, 1, none⟩ = some (.slice aE lE cE) := below_cell hk1 _ _ (World.cell?_alloc_at _ _ _ _ rfl)
  have HC := Lib.hid (And.intro hc0 hc1)
  have HCD := Lib.hid hcd
  have HB := Lib.hid hB
  have HW := Lib.hid hW0
  have hc0' := hc0
  have hc1' := hc1
  rw [hW0] at hc0' hc1'
  clear hB hT hF hlN hcN hnN hrN bxN hlE hcE hnE hrE bxE hd hd8 hz1 hz2 hW0 hk1 hcd hc0 hc1
  by_cases h1 : lN ≤ 150
  · by_cases h2 : lE ≤ 150
    · have q1 : decide ((150 : Int) < (lN : Int)) = false := decide_eq_false (by omega)
      have q2 : decide ((150 : Int) < (lE : Int)) = false := decide_eq_false (by omega)
      have HH := Lib.hid (And.intro h1 h2)
      have hbN2 : lN ≤ 1048576 := by omega
      have hbE2 : lE ≤ 1048576 := by omega
      clear h1 h2
      go_enter Tryz.func27, Tryz.ntmps27
      go_wp2_with fail
      rw [← HW.out]
      clear hc0' hc1' HW
      refine (lentKey_any aN lN cN Ns aE lE cE Es _ HLL.out.1 hbN2 (HRD.out.1.below HB.out) HLL.out.2 hbE2 (HRD.out.2.below HB.out)).mono ?_
      rintro e w1 ⟨g1, d1, g2, d2, rfl, hL1, hL2, hb⟩
      have hB1 := HB.out.trans (hb.mono HB.out.size)
      have hkx := KeyAt.new (hL1.raw HLL.out.1 HBX.out.1 (by have := HH.out; omega)) (hL2.raw HLL.out.2 HBX.out.2 (by have := HH.out; omega))
      have hkk : KeyAt w1 w.heap.size (.slice aN lN cN) (.slice aE lE cE) (val Ns) (val Es) := ⟨below_cell hb _ _ HC.out.1, below_cell hb _ _ HC.out.2, (HRN.out HH.out.1).below hB1, (HRE.out HH.out.2).below hB1⟩
      have hcd := HCD.out.below hb
      obtain ⟨g, hg⟩ : ∃ g, g = w1.heap.size := ⟨_, rfl⟩
      rw [← hg] at hkx
      have hal : Below w1.heap.size w1 (w1.alloc (KB (.slice (some ⟨g1, 0, none⟩) lN d1) (.slice (some ⟨g2, 0, none⟩) lE d2))) := (Below.refl _ _).alloc (Nat.le_refl _) _
      have HST : Hid (LSt w w.heap.size g g1 d1 g2 d2 W0.heap.size aN lN cN Ns aE lE cE Es [] (w1.alloc (KB (.slice (some ⟨g1, 0, none⟩) lN d1) (.slice (some ⟨g2, 0, none⟩) lE d2)))) :=
        ⟨hkx, hkk.below hal, Sep.nil _ _, Nat.le_trans hB1.size hal.size, hL1.below hal, hL2.below hal, (HRD.out.1.below hB1).below hal, (HRD.out.2.below hB1).below hal, hB1.trans (hal.mono hB1.size)⟩
      have HCD := Lib.hid (hcd.below hal)
      clear hkx hkk hcd hL1 hL2 hB1 HB HC HRN HRE hal hb
      go_wp2_with (refine wpl_load20 rfl (.tmp 4) rfl (w.heap.size + 1) rfl ds HCD.out HD.out.1 ?_)
      rw [← hg]
      generalize w1.alloc (KB (.slice (some ⟨g1, 0, none⟩) lN d1) (.slice (some ⟨g2, 0, none⟩) lE d2)) = w2 at *
      clear hg
      refine (p_encoded ds z _ HD.out.1 HD.out.2 HZ.out.1 HZ.out.2).mono ?_
      rintro e w3 ⟨hb, v3, k3, b3, rfl, hE3, ho3⟩
      have HST := Lib.hid (HST.out.new hb ho3)
      have HCD := Lib.hid (HCD.out.below hb)
      have HE3 := Lib.hid hE3
      obtain ⟨a3, c3, rfl, -⟩ := own8_form ho3
      clear hb ho3 hE3
      go_wp2_with (refine wpl_load20 rfl (.tmp 4) rfl (w.heap.size + 1) rfl ds HCD.out HD.out.1 ?_)
      refine (p_encoded ds z _ HD.out.1 HD.out.2 HZ.out.1 HZ.out.2).mono ?_
      rintro e w4 ⟨hb, v4, k4, b4, rfl, hE4, ho4⟩
      obtain ⟨rfl, rfl⟩ := hE4.one HE3.out
      have HST := Lib.hid (HST.out.new hb ho4)
      have HCD := Lib.hid (HCD.out.below hb)
      obtain ⟨a4, c4, rfl, -⟩ := own8_form ho4
      clear hb ho4 hE4
      go_wp2_with (refine wpl_load20 rfl (.tmp 4) rfl (w.heap.size + 1) rfl ds HCD.out HD.out.1 ?_)
      refine (r8encoded ds z _ HD.out.1 HD.out.2 HZ.out.1 HZ.out.2).mono ?_
      rintro e w5 ⟨hb, v5, k5, b5, rfl, hE5, ho5⟩
      obtain ⟨rfl, rfl⟩ := hE5.one HE3.out
      have HST := Lib.hid (HST.out.new hb ho5)
      obtain ⟨a5, c5, rfl, -⟩ := own8_form ho5
      have h8 : B8 b5 := HE3.out.b8 HD.out.2
      have hl5 := HE3.out.len HD.out.1
      have HR3 : Hid (∀ W, LSt w w.heap.size g g1 d1 g2 d2 W0.heap.size aN lN cN Ns aE lE cE Es [rwb (.slice a5 b5.length c5) b5, rwb (.slice a4 b5.length c4) b5, rwb (.slice a3 b5.length c3) b5] W → Raw8 W (.slice a3 b5.length c3) b5 ∧ Raw8 W (.slice a4 b5.length c4) b5 ∧ Raw8 W (.slice a5 b5.length c5) b5) := fun W h =>
        ⟨own8_raw (h.sp.1 (rwb (.slice a3 b5.length c3) b5) (by simp)) h8, own8_raw (h.sp.1 (rwb (.slice a4 b5.length c4) b5) (by simp)) h8, own8_raw (h.sp.1 (rwb (.slice a5 b5.length c5) b5) (by simp)) h8⟩
      have HLB : Hid (b5.length ≤ 1099511627776) := Nat.le_trans hl5 (by decide)
      clear hb ho5 hE5 HE3 h8 HCD
      obtain ⟨c, hc⟩ : ∃ c, c = chkI (val Ns) (val Es) := ⟨_, rfl⟩
      obtain ⟨sz, hsz⟩ : ∃ sz, sz = szN (val Ns) := ⟨_, rfl⟩
      have HCK := Lib.hid (And.intro hc hsz)
      have kk : (k5 != k5) = false := by simp
      have kc : (c != c) = false := by simp
      have ks : ((sz : Int) != (sz : Int)) = false := by simp
      clear hc hsz q1 q2
      go_upto_region 7 with fail
      have HST := Lib.hid (HST.out.below (Below.refl _ _).drew)
      go_region_held3 (fun W => W.cell? ⟨g, 0, none⟩ = some (.slice (some ⟨g1, 0, none⟩) lN d1) ∧ W.cell? ⟨g, 1, none⟩ = some (.slice (some ⟨g2, 0, none⟩) lE d2) ∧ W.cell? ⟨w.heap.size, 0, none⟩ = some (.slice aN lN cN) ∧ W.cell? ⟨w.heap.size, 1, none⟩ = some (.slice aE lE cE))
        (first | exact HST.out.cells)
        (first
          | (go_at_call 58; (with_reducible refine (p_checkI HST.out.kx.rN HST.out.kx.rE c HCK.out.1).mono ?_)
             rintro e w6 ⟨hb, rfl⟩
             have HST := Lib.hid (HST.out.below hb)
             clear hb)
          | (go_at_call 43; (with_reducible refine (r8checkI HST.out.kk.rN HST.out.kk.rE c HCK.out.1).mono ?_)
             rintro e w7 ⟨hb, rfl⟩
             have HST := Lib.hid (HST.out.below hb)
             clear hb)
          | (go_at_call 59; (with_reducible refine (p_sizeI HST.out.kx.rN ⟨_, _, _, rfl⟩ sz HCK.out.2).mono ?_)
             rintro e w8 ⟨hb, rfl⟩
             have HST := Lib.hid (HST.out.below hb)
             clear hb)
          | (go_at_call 60; (with_reducible refine (r8sizeI HST.out.kk.rN ⟨_, _, _, rfl⟩ sz HCK.out.2).mono ?_)
             rintro e w9 ⟨hb, rfl⟩
             have HST := Lib.hid (HST.out.below hb)
             clear hb)
          | (go_at_call 22; (with_reducible refine (p_samebT (HR3.out _ HST.out).1 (HR3.out _ HST.out).2.2 HLB.out).mono ?_)
             rintro e w10 ⟨hb, rfl⟩
             have HST := Lib.hid (HST.out.below hb)
             clear hb)
          | (go_at_call 22; (with_reducible refine (p_samebT (HR3.out _ HST.out).2.1 (HR3.out _ HST.out).2.2 HLB.out).mono ?_)
             rintro e w11 ⟨hb, rfl⟩
             have HST := Lib.hid (HST.out.below hb)
             clear hb)
          | (go_at_call 61; (with_reducible refine (keptKey_any W0.heap.size g1 d1 g2 d2 aN lN cN Ns aE lE cE Es _ HLL.out.1 hbN2 HST.out.rN HLL.out.2 hbE2 HST.out.rE HST.out.r1 HST.out.r2).mono ?_)
             rintro e w12 ⟨rfl, hb⟩
             have HST := Lib.hid (HST.out.below hb)
             clear hb))
      obtain ⟨W1, hW1⟩ : ∃ W1 : World, W1 = w12 := ⟨_, rfl⟩
      have hsep : Sep w12 w.heap.size (rwNo :: rwNo8 :: ([] ++ [rwb (.slice a3 b5.length c3) b5, rwb (.slice a4 b5.length c4) b5])) :=
        ((Sep.perm HST.out.sp.tail (List.reverse_perm _).symm).nilRow _).nilRow _
      have hbok := Bok.start (T := 38) hsep HST.out.bl.size rfl
      have HK := Lib.hid hbok
      have HBK := Lib.hid ((Below.refl w12.heap.size w12).alloc (Nat.le_refl _) (.cells #[.slice none 0 0, .slice none 0 0] 38))
      have HBL := Lib.hid HST.out.bl
      have HTF := Lib.hid (And.intro (HT0.out.1.below HST.out.bl) (HT0.out.2.below HST.out.bl))
      have hsz10 := HST.out.bl.size
      clear hbok hsep hW1 HST HR3 HCK kk kc ks hbN2 hbE2
      go_wp2_with fail
      refine (HK.out.bytes a3 b5.length c3 (by simp)).mono ?_
      rintro e w13 ⟨rfl, ⟨vb0, hbok⟩, hb7⟩
      have HK := Lib.hid hbok
      have HBK := Lib.hid (HBK.out.trans hb7)
      clear hbok hb7
      go_wp2_with fail
      refine (HK.out.bytes a4 b5.length c4 (by simp)).mono ?_
      rintro e w14 ⟨rfl, ⟨vb1, hbok⟩, hb7⟩
      have HK := Lib.hid hbok
      have HBK := Lib.hid (HBK.out.trans hb7)
      clear hbok hb7
      have HTF := Lib.hid (And.intro (HTF.out.1.below HBK.out) (HTF.out.2.below HBK.out))
      have HBL := Lib.hid (HBL.out.trans (HBK.out.mono HBL.out.size))
      go_wp2_with fail
      refine (Bok.apart (WL := []) (BL := [rwb (.slice a3 b5.length c3) b5, rwb (.slice a4 b5.length c4) b5]) HK.out (fun s hs => by cases hs) (fun s hs => ?_) (by decide) (by simp)).mono ?_
      · simp only [List.mem_cons, List.mem_nil_iff, or_false] at hs
        rcases hs with rfl | rfl <;> exact ⟨rfl, by simp only [rwb]; omega⟩
      rintro e w16 ⟨rfl, hb16⟩
      have HTF := Lib.hid (tf_belowB HT0.out HTF.out hb16)
      have HBL := Lib.hid (HBL.out.trans hb16)
      clear hb16 HK
      go_wp2_with fail
      refine (works8_any _ HTF.out.1 HTF.out.2).mono ?_
      rintro e w17 ⟨rfl, hb17⟩
      have HBL := Lib.hid (HBL.out.trans (hb17.mono HBL.out.size))
      clear hb17
      go_wp2
      go_ret
      exact ⟨rfl, HBL.out⟩
    · have q1 : decide ((150 : Int) < (lN : Int)) = false := decide_eq_false (by omega)
      have q2 : decide ((150 : Int) < (lE : Int)) = true := decide_eq_true (by omega)
      clear h1 h2
      go_enter Tryz.func27, Tryz.ntmps27
      go_wp2
      go_ret
      exact ⟨rfl, bl2 w _ _⟩
  · have q1 : decide ((150 : Int) < (lN : Int)) = true := decide_eq_true (by omega)
    clear h1
    go_enter Tryz.func27, Tryz.ntmps27
    go_wp2
    go_ret
    exact ⟨rfl, bl2 w _ _⟩

/-! RsaRaises. -/
abbrev MRow (W : World) (B g n d : Nat) (l : List Nat) : Prop := W.ownsRow B 5 1 (.slice (some ⟨g, 0, none⟩) (n + 16) d) (n + 16) (u8s l ++ mks8 16)
theorem mrow_below {W W' : World} {B g n d : Nat} {l : List Nat} (h : MRow W B g n d l) (hb : Below W.heap.size W W') : MRow W' B g n d l :=
  (Chg.of_below hb).owns h (fun k hk => by have := (World.ownsRow.lt h k hk).2; omega)
theorem mrow_raw {W : World} {B g n d : Nat} {l : List Nat} (h : MRow W B g n d l) (hn : n = l.length) (h8 : B8 l) : Raw8 W (.slice (some ⟨g, 0, none⟩) n d) l := by
  subst hn
  refine ⟨_, d, rfl, ?_, (fun h => by cases h), fun _ _ => ⟨g, 0, rfl, fun i hi => ?_⟩, h8⟩
  · rcases h.2 with ⟨h, _⟩ | ⟨g', c', cur, h, _, _, hn, _⟩
    · cases h
    · cases h; omega
  · rw [Nat.zero_add, World.ownsRow.cellAt h i (by omega), List.getElem?_append_left (by rw [u8s_len]; exact hi), u8s, List.getElem?_map, List.getElem?_eq_getElem hi, List.getD_eq_getElem?_getD, List.getElem?_eq_getElem hi]; rfl
/-- What is known while RsaRaises runs. -/
structure RSt (w : World) (g g1 d1 g2 d2 B0 gm dm Bm gs ds Bs : Nat) (aN : Option Addr) (lN cN : Nat) (Ns : List Nat) (aE : Option Addr) (lE cE : Nat) (Es : List Nat) (aM : Option Addr) (lm cM : Nat) (m : List Nat) (aS : Option Addr) (ls cS : Nat) (s : List Nat) (W : World) : Prop where
  kx : KeyAt W g (.slice (some ⟨g1, 0, none⟩) lN d1) (.slice (some ⟨g2, 0, none⟩) lE d2) (val Ns) (val Es)
  kk : KeyAt W w.heap.size (.slice aN lN cN) (.slice aE lE cE) (val Ns) (val Es)
  r1 : LRow W B0 g1 lN d1 Ns
  r2 : LRow W B0 g2 lE d2 Es
  rN : Rd .u64 W aN Ns
  rE : Rd .u64 W aE Es
  mr : MRow W Bm gm lm dm m
  sr : MRow W Bs gs ls ds s
  xm : Raw8 W (.slice (some ⟨gm, 0, none⟩) lm dm) m
  xs : Raw8 W (.slice (some ⟨gs, 0, none⟩) ls ds) s
  om : Raw8 W (.slice aM lm cM) m
  os : Raw8 W (.slice aS ls cS) s
  tf : Trig W ∧ Five W
  bl : Below w.heap.size w W
theorem RSt.below {w W W' : World} {g g1 d1 g2 d2 B0 gm dm Bm gs ds Bs : Nat} {aN : Option Addr} {lN cN : Nat} {Ns : List Nat} {aE : Option Addr} {lE cE : Nat} {Es : List Nat} {aM : Option Addr} {lm cM : Nat} {m : List Nat} {aS : Option Addr} {ls cS : Nat} {s : List Nat}
    (h : RSt w g g1 d1 g2 d2 B0 gm dm Bm gs ds Bs aN lN cN Ns aE lE cE Es aM lm cM m aS ls cS s W) (hb : Below W.heap.size W W') : RSt w g g1 d1 g2 d2 B0 gm dm Bm gs ds Bs aN lN cN Ns aE lE cE Es aM lm cM m aS ls cS s W' :=
  ⟨h.kx.below hb, h.kk.below hb, h.r1.below hb, h.r2.below hb, h.rN.below hb, h.rE.below hb, mrow_below h.mr hb, mrow_below h.sr hb, h.xm.below hb, h.xs.below hb, h.om.below hb, h.os.below hb, ⟨h.tf.1.below hb, h.tf.2.below hb⟩, h.bl.trans (hb.mono h.bl.size)⟩
theorem r8verify_one {N E : Nat} {m s : List Nat} {v v' : Int} (h : VerTells N E m s v) (h' : VerTells N E m s v') : v' = v := h'.one h
set_option maxHeartbeats 800000 in
set_option maxRecDepth 100000 in
theorem rsaRaises_any {w : World} {aN : Option Addr} {lN cN : Nat} {Ns : List Nat} {aE : Option Addr} {lE cE : Nat} {Es : List Nat} {vm vs : Value} {m s : List Nat} (hT : Trig w) (hF : Five w)
    (hlN : Ns.length = lN) (hbN : lN ≤ 9223372036854775807) (hcN : lN ≤ cN) (hnN : aN = none → cN = 0) (hrN : Rd .u64 w aN Ns) (bxN : Bd Ns)
    (hlE : Es.length = lE) (hbE : lE ≤ 9223372036854775807) (hcE : lE ≤ cE) (hnE : aE = none → cE = 0) (hrE : Rd .u64 w aE Es) (bxE : Bd Es) (gm : Raw8 w vm m) (gs : Raw8 w vs s) (hbm : m.length ≤ 9223372036854775807) (hbs : s.length ≤ 9223372036854775807) :
    Calls Tryz.prog 32 #[.agg #[.slice aN lN cN, .slice aE lE cE], vm, vs] w fun e w' => e = .returned (.bool true) ∧ Below w.heap.size w w' := by
  have HTF := Lib.hid (And.intro hT hF)
  have HRN : Hid (lN ≤ 150 → Raw w (.slice aN lN cN) (val Ns)) := fun h => ⟨aN, cN, Ns, by rw [hlN], by omega, hnN, hrN, bxN, rfl, by omega⟩
  have HRE : Hid (lE ≤ 150 → Raw w (.slice aE lE cE) (val Es)) := fun h => ⟨aE, cE, Es, by rw [hlE], by omega, hnE, hrE, bxE, rfl, by omega⟩
  have HRD := Lib.hid (And.intro hrN hrE)
  have HLL := Lib.hid (And.intro hlN hlE)
  have HBX := Lib.hid (And.intro bxN bxE)
  have HMS := Lib.hid (And.intro gm gs)
  obtain ⟨aM, cM, rfl, -, -, hrM, h8M⟩ := gm
  obtain ⟨aS, cS, rfl, -, -, hrS, h8S⟩ := gs
  have HRM := Lib.hid (And.intro hrM hrS)
  have H8 := Lib.hid (And.intro h8M h8S)
  obtain ⟨lm, hlm⟩ : ∃ lm, lm = m.length := ⟨_, rfl⟩
  obtain ⟨ls, hls⟩ : ∃ ls, ls = s.length := ⟨_, rfl⟩
  rw [← hlm, ← hls] at HMS
  rw [← hlm, ← hls]
  rw [← hlm] at hbm
  rw [← hls] at hbs
  have HLM := Lib.hid (And.intro hlm hls)
  obtain ⟨W0, hW0⟩ : ∃ W0, W0 = w.alloc (KB (.slice aN lN cN) (.slice aE lE cE)) := ⟨_, rfl⟩
  have hB : Below w.heap.size w W0 := by rw [hW0]; exact (Below.refl _ _).alloc (Nat.le_refl _) _
  have hc0 : W0.cell? ⟨w.heap.size, 0, none⟩ = some (.slice aN lN cN) := by rw [hW0]; exact World.cell?_alloc_at _ _ _ _ rfl
  have hc1 : W0.cell? ⟨w.heap.size, 1, none⟩ = some (.slice aE lE cE) := by rw [hW0]; exact World.cell?_alloc_at _ _ _ _ rfl
  have HC := Lib.hid (And.intro hc0 hc1)
  have HB := Lib.hid hB
  have HW := Lib.hid hW0
  clear hB hT hF hlN hcN hnN hrN bxN hlE hcE hnE hrE bxE hlm hls hW0 hrM hrS h8M h8S
  go_enter Tryz.func32, Tryz.ntmps32
  go_wp2_with fail
  rw [← HW.out]
  clear HW
  refine (short8_any aN lN cN aE lE cE _).mono ?_
  rintro e w1 ⟨hb, bb, rfl, hsh⟩
  have HC := Lib.hid (And.intro (below_cell hb _ _ HC.out.1) (below_cell hb _ _ HC.out.2))
  have HB := Lib.hid (HB.out.trans (hb.mono HB.out.size))
  clear hb hc0 hc1
  cases bb with
  | false =>
    clear hsh
    go_wp2
    go_ret
    exact ⟨rfl, HB.out⟩
  | true =>
    obtain ⟨h150N, h150E⟩ := hsh rfl
    clear hsh
    by_cases hm4 : lm ≤ 4096
    · by_cases hs4 : ls ≤ 4096
      · have q1 : decide ((4096 : Int) < (lm : Int)) = false := decide_eq_false (by omega)
        have q2 : decide ((4096 : Int) < (ls : Int)) = false := decide_eq_false (by omega)
        have HNB := Lib.hid (And.intro h150N h150E)
        have HB4 := Lib.hid (And.intro hm4 hs4)
        have hc0 := HC.out.1
        have hc1 := HC.out.2
        have HKK : Hid (KeyAt w1 w.heap.size (.slice aN lN cN) (.slice aE lE cE) (val Ns) (val Es)) := ⟨HC.out.1, HC.out.2, (HRN.out h150N).below HB.out, (HRE.out h150E).below HB.out⟩
        clear h150N h150E hm4 hs4 HRN HRE HC
        go_wp2_with fail
        refine (lentKey_any aN lN cN Ns aE lE cE Es _ HLL.out.1 (Nat.le_trans HNB.out.1 (by decide)) (HRD.out.1.below HB.out) HLL.out.2 (Nat.le_trans HNB.out.2 (by decide)) (HRD.out.2.below HB.out)).mono ?_
        rintro e w2 ⟨g1, d1, g2, d2, rfl, hL1, hL2, hb⟩
        have HKK := Lib.hid (HKK.out.below hb)
        have HL1 := Lib.hid hL1
        have HL2 := Lib.hid hL2
        have HB := Lib.hid (HB.out.trans (hb.mono HB.out.size))
        clear hb hL1 hL2 hc0 hc1
        go_wp2_with fail
        refine (lentBytes_any aM lm cM m _ HLM.out.1.symm (by have := HB4.out; omega) (HRM.out.1.below HB.out)).mono ?_
        rintro e w3 ⟨gm, dm, rfl, hM, -, hb⟩
        have HM := Lib.hid (show MRow w3 w2.heap.size gm lm dm m from hM)
        have HKK := Lib.hid (HKK.out.below hb)
        have HL1 := Lib.hid (HL1.out.below hb)
        have HL2 := Lib.hid (HL2.out.below hb)
        have HB := Lib.hid (HB.out.trans (hb.mono HB.out.size))
        clear hb hM
        go_wp2_with fail
        refine (lentBytes_any aS ls cS s _ HLM.out.2.symm (by have := HB4.out; omega) (HRM.out.2.below HB.out)).mono ?_
        rintro e w4 ⟨gs, ds, rfl, hS, -, hb⟩
        have HSR := Lib.hid (show MRow w4 w3.heap.size gs ls ds s from hS)
        have HM := Lib.hid (mrow_below HM.out hb)
        have HKK := Lib.hid (HKK.out.below hb)
        have HL1 := Lib.hid (HL1.out.below hb)
        have HL2 := Lib.hid (HL2.out.below hb)
        have HB := Lib.hid (HB.out.trans (hb.mono HB.out.size))
        clear hb hS
        have hal : Below w4.heap.size w4 (w4.alloc (KB (.slice (some ⟨g1, 0, none⟩) lN d1) (.slice (some ⟨g2, 0, none⟩) lE d2))) := (Below.refl _ _).alloc (Nat.le_refl _) _
        have hkx := KeyAt.new (HL1.out.raw HLL.out.1 HBX.out.1 (Nat.le_trans HNB.out.1 (by decide))) (HL2.out.raw HLL.out.2 HBX.out.2 (Nat.le_trans HNB.out.2 (by decide)))
        obtain ⟨g, hg⟩ : ∃ g, g = w4.heap.size := ⟨_, rfl⟩
        rw [← hg] at hkx
        have hBb := HB.out.trans (hal.mono HB.out.size)
        have hst : RSt w g g1 d1 g2 d2 w1.heap.size gm dm w2.heap.size gs ds w3.heap.size aN lN cN Ns aE lE cE Es aM lm cM m aS ls cS s (w4.alloc (KB (.slice (some ⟨g1, 0, none⟩) lN d1) (.slice (some ⟨g2, 0, none⟩) lE d2))) :=
          ⟨hkx, HKK.out.below hal, HL1.out.below hal, HL2.out.below hal, HRD.out.1.below hBb, HRD.out.2.below hBb, mrow_below HM.out hal, mrow_below HSR.out hal, mrow_raw (mrow_below HM.out hal) HLM.out.1 H8.out.1, mrow_raw (mrow_below HSR.out hal) HLM.out.2 H8.out.2, HMS.out.1.below hBb, HMS.out.2.below hBb, ⟨HTF.out.1.below hBb, HTF.out.2.below hBb⟩, hBb⟩
        have hc0 := hst.kx.c0
        have hc1 := hst.kx.c1
        have hst2 := hst
        have HG := Lib.hid hg
        clear hkx hBb hal HKK HL1 HL2 HM HSR HB hg
        go_upto_region 4 with fail
        rw [← HG.out]
        obtain ⟨Wb, hWb⟩ : ∃ Wb, Wb = w4.alloc (KB (.slice (some ⟨g1, 0, none⟩) lN d1) (.slice (some ⟨g2, 0, none⟩) lE d2)) := ⟨_, rfl⟩
        rw [← hWb] at hst hst2 hc0 hc1
        rw [← hWb]
        have HST := Lib.hid (fun (W : World) (h : Below Wb.heap.size Wb W) => hst.below h)
        have HBW := Lib.hid (Below.refl Wb.heap.size Wb)
        have HSP := Lib.hid (Sep.nil Wb Wb.heap.size)
        clear hst hst2 hWb HG
        clear hc0 hc1
        have HL5 : Hid (s.length ≤ 1099511627776 ∧ m.length ≤ 549755813888) := ⟨by rw [← HLM.out.2]; have := HB4.out; omega, by rw [← HLM.out.1]; have := HB4.out; omega⟩
        have hc0 := (HST.out _ HBW.out).kx.c0
        have hc1 := (HST.out _ HBW.out).kx.c1
        have hk0 := (HST.out _ HBW.out).kk.c0
        have hk1 := (HST.out _ HBW.out).kk.c1
        go_wp2_with fail
        refine (p_raise (HST.out _ HBW.out).tf.1 (HST.out _ HBW.out).kx.rN (HST.out _ HBW.out).kx.rE (HST.out _ HBW.out).xs HL5.out.1).mono ?_
        rintro e w5 ⟨hb, v5, k5, b5, rfl, ho5, hQ5⟩
        have HQ := Lib.hid hQ5
        have HSP := Lib.hid (HSP.out.new HBW.out.size hb ho5)
        obtain ⟨a5, c5, rfl, -⟩ := own8_form ho5
        have HBW := Lib.hid (HBW.out.trans (hb.mono HBW.out.size))
        clear hb ho5 hQ5 hc0 hc1 hk0 hk1
        have hc0 := (HST.out _ HBW.out).kx.c0
        have hc1 := (HST.out _ HBW.out).kx.c1
        have hk0 := (HST.out _ HBW.out).kk.c0
        have hk1 := (HST.out _ HBW.out).kk.c1
        go_wp2_with fail
        refine (p_raise (HST.out _ HBW.out).tf.1 (HST.out _ HBW.out).kx.rN (HST.out _ HBW.out).kx.rE (HST.out _ HBW.out).xs HL5.out.1).mono ?_
        rintro e w6 ⟨hb, v6, k6, b6, rfl, ho6, hQ6⟩
        obtain ⟨rfl, rfl⟩ := hQ6.one HQ.out
        have HSP := Lib.hid (HSP.out.new HBW.out.size hb ho6)
        obtain ⟨a6, c6, rfl, -⟩ := own8_form ho6
        have HBW := Lib.hid (HBW.out.trans (hb.mono HBW.out.size))
        clear hb ho6 hQ6 hc0 hc1 hk0 hk1
        have hc0 := (HST.out _ HBW.out).kx.c0
        have hc1 := (HST.out _ HBW.out).kx.c1
        have hk0 := (HST.out _ HBW.out).kk.c0
        have hk1 := (HST.out _ HBW.out).kk.c1
        go_wp2_with fail
        refine (p_verify (HST.out _ HBW.out).tf.1 (HST.out _ HBW.out).tf.2 (HST.out _ HBW.out).kx.rN (HST.out _ HBW.out).kx.rE (HST.out _ HBW.out).xm (HST.out _ HBW.out).xs HL5.out.2 HL5.out.1).mono ?_
        rintro e w7 ⟨hb, v, rfl, hV⟩
        have HV := Lib.hid hV
        have HSP := Lib.hid (HSP.out.belowS hb)
        have HBW := Lib.hid (HBW.out.trans (hb.mono HBW.out.size))
        clear hb hV hc0 hc1 hk0 hk1
        have hc0 := (HST.out _ HBW.out).kx.c0
        have hc1 := (HST.out _ HBW.out).kx.c1
        have hk0 := (HST.out _ HBW.out).kk.c0
        have hk1 := (HST.out _ HBW.out).kk.c1
        go_wp2_with fail
        refine (r8raise (HST.out _ HBW.out).kk.rN (HST.out _ HBW.out).kk.rE (HST.out _ HBW.out).os HL5.out.1).mono ?_
        rintro e w8 ⟨hb, v8, k8, b8, rfl, ho8, hQ8⟩
        obtain ⟨rfl, rfl⟩ := hQ8.one HQ.out
        have HSP := Lib.hid (HSP.out.new HBW.out.size hb ho8)
        obtain ⟨a8, c8, rfl, -⟩ := own8_form ho8
        have HBW := Lib.hid (HBW.out.trans (hb.mono HBW.out.size))
        clear hb ho8 hQ8 hc0 hc1 hk0 hk1
        have hc0 := (HST.out _ HBW.out).kx.c0
        have hc1 := (HST.out _ HBW.out).kx.c1
        have hk0 := (HST.out _ HBW.out).kk.c0
        have hk1 := (HST.out _ HBW.out).kk.c1
        have h8 : B8 b8 := HQ.out.b8
        have HLB : Hid (b8.length ≤ 1099511627776) := Nat.le_trans HQ.out.len (by decide)
        have HR : Hid (∀ W, Sep W Wb.heap.size [rwb (.slice a8 b8.length c8) b8, rwb (.slice a6 b8.length c6) b8, rwb (.slice a5 b8.length c5) b8] → Raw8 W (.slice a5 b8.length c5) b8 ∧ Raw8 W (.slice a6 b8.length c6) b8 ∧ Raw8 W (.slice a8 b8.length c8) b8) := fun W h =>
          ⟨own8_raw (h.1 (rwb (.slice a5 b8.length c5) b8) (by simp)) h8, own8_raw (h.1 (rwb (.slice a6 b8.length c6) b8) (by simp)) h8, own8_raw (h.1 (rwb (.slice a8 b8.length c8) b8) (by simp)) h8⟩
        have kk8 : (k8 != k8) = false := by simp
        have kv : (v != v) = false := by simp
        clear h8
        go_wp2_with fail
        refine (p_samebT (HR.out _ HSP.out).1 (HR.out _ HSP.out).2.2 HLB.out).mono ?_
        rintro e w9 ⟨hb, rfl⟩
        have HSP := Lib.hid (HSP.out.belowS hb)
        have HBW := Lib.hid (HBW.out.trans (hb.mono HBW.out.size))
        clear hb hc0 hc1 hk0 hk1
        go_wp2_with fail
        refine (p_samebT (HR.out _ HSP.out).2.1 (HR.out _ HSP.out).2.2 HLB.out).mono ?_
        rintro e w10 ⟨hb, rfl⟩
        have HSP := Lib.hid (HSP.out.belowS hb)
        have HBW := Lib.hid (HBW.out.trans (hb.mono HBW.out.size))
        clear hb
        have hc0 := (HST.out _ HBW.out).kx.c0
        have hc1 := (HST.out _ HBW.out).kx.c1
        have hk0 := (HST.out _ HBW.out).kk.c0
        have hk1 := (HST.out _ HBW.out).kk.c1
        go_wp2_with fail
        refine (r8verify (HST.out _ HBW.out).kk.rN (HST.out _ HBW.out).kk.rE (HST.out _ HBW.out).om (HST.out _ HBW.out).os HL5.out.2 HL5.out.1).mono ?_
        rintro e w11 ⟨hb, v', rfl, hV⟩
        obtain rfl := r8verify_one HV.out hV
        have HSP := Lib.hid (HSP.out.belowS hb)
        have HBW := Lib.hid (HBW.out.trans (hb.mono HBW.out.size))
        clear hb hV hc0 hc1 hk0 hk1
        have hsep : Sep w11 Wb.heap.size (rwNo :: rwNo8 :: ([] ++ [rwb (.slice a5 b8.length c5) b8, rwb (.slice a6 b8.length c6) b8])) :=
          ((Sep.perm HSP.out.tail (List.reverse_perm _).symm).nilRow _).nilRow _
        have hbok := Bok.start (T := 38) hsep HBW.out.size rfl
        have HK := Lib.hid hbok
        have HBK := Lib.hid ((Below.refl w11.heap.size w11).alloc (Nat.le_refl _) (.cells #[.slice none 0 0, .slice none 0 0] 38))
        have hsz10 := HBW.out.size
        clear hbok hsep HR HSP kk8 kv
        go_wp2_with fail
        refine (HK.out.bytes a5 b8.length c5 (by simp)).mono ?_
        rintro e w13 ⟨rfl, ⟨vb0, hbok⟩, hb7⟩
        have HK := Lib.hid hbok
        have HBK := Lib.hid (HBK.out.trans hb7)
        clear hbok hb7
        go_wp2_with fail
        refine (HK.out.bytes a6 b8.length c6 (by simp)).mono ?_
        rintro e w14 ⟨rfl, ⟨vb1, hbok⟩, hb7⟩
        have HK := Lib.hid hbok
        have HBK := Lib.hid (HBK.out.trans hb7)
        clear hbok hb7
        have HBW := Lib.hid (HBW.out.trans (HBK.out.mono HBW.out.size))
        go_wp2_with fail
        refine (Bok.apart (WL := []) (BL := [rwb (.slice a5 b8.length c5) b8, rwb (.slice a6 b8.length c6) b8]) HK.out (fun s hs => by cases hs) (fun s hs => ?_) (by decide) (by simp)).mono ?_
        · simp only [List.mem_cons, List.mem_nil_iff, or_false] at hs
          have := HLB.out
          rcases hs with rfl | rfl <;> exact ⟨rfl, by simp only [rwb]; omega⟩
        rintro e w16 ⟨rfl, hb16⟩
        have HBW := Lib.hid (HBW.out.trans hb16)
        clear hb16 HK HBK hsz10
        have hc0 := (HST.out _ HBW.out).kx.c0
        have hc1 := (HST.out _ HBW.out).kx.c1
        have hk0 := (HST.out _ HBW.out).kk.c0
        have hk1 := (HST.out _ HBW.out).kk.c1
        go_wp2_with fail
        refine (keptKey_any w1.heap.size g1 d1 g2 d2 aN lN cN Ns aE lE cE Es _ HLL.out.1 (Nat.le_trans HNB.out.1 (by decide)) (HST.out _ HBW.out).rN HLL.out.2 (Nat.le_trans HNB.out.2 (by decide)) (HST.out _ HBW.out).rE (HST.out _ HBW.out).r1 (HST.out _ HBW.out).r2).mono ?_
        rintro e w17 ⟨rfl, hb⟩
        have HBW := Lib.hid (HBW.out.trans (hb.mono HBW.out.size))
        clear hb hc0 hc1 hk0 hk1
        go_wp2_with fail
        refine (keptBytes_any aM w2.heap.size gm lm cM dm m _ HLM.out.1.symm (by have := HB4.out; omega) ((HRM.out.1.below (HST.out _ HBW.out).bl)) (HST.out _ HBW.out).mr).mono ?_
        rintro e w18 ⟨rfl, rfl⟩
        go_wp2_with fail
        refine (keptBytes_any aS w3.heap.size gs ls cS ds s _ HLM.out.2.symm (by have := HB4.out; omega) ((HRM.out.2.below (HST.out _ HBW.out).bl)) (HST.out _ HBW.out).sr).mono ?_
        rintro e w19 ⟨rfl, rfl⟩
        go_wp2_with fail
        refine (works8_any _ (HST.out _ HBW.out).tf.1 (HST.out _ HBW.out).tf.2).mono ?_
        rintro e w20 ⟨rfl, hb⟩
        have HBL := Lib.hid ((HST.out _ HBW.out).bl.trans (hb.mono (HST.out _ HBW.out).bl.size))
        clear hb
        go_wp2
        go_ret
        exact ⟨rfl, HBL.out⟩
      · have q1 : decide ((4096 : Int) < (lm : Int)) = false := decide_eq_false (by omega)
        have q2 : decide ((4096 : Int) < (ls : Int)) = true := decide_eq_true (by omega)
        clear hm4 hs4
        go_wp2
        go_ret
        exact ⟨rfl, HB.out⟩
    · have q1 : decide ((4096 : Int) < (lm : Int)) = true := decide_eq_true (by omega)
      clear hm4
      go_wp2
      go_ret
      exact ⟨rfl, HB.out⟩
end Go.Proofs.YtaookoejdnkkoaaGreatDoor
