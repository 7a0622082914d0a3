import Derived.Test.YtfjhmnbbjknflaaGreatDoorQi
namespace Go.Proofs.YtfjhmnbbjknflaaGreatDoor
open Go.RowKit

theorem cmpI_refl (A : Nat) : cmpI A A = 0 := by unfold cmpI; rw [if_neg (Nat.lt_irrefl _), if_pos rfl]
set_option exponentiation.threshold 100000 in
theorem lim_300 {xs : List Nat} (hb : Bd xs) (h : xs.length ≤ 300) : val xs < 18446744073709551616 ^ 400 := Nat.lt_of_lt_of_le (val_lt hb) (Nat.pow_le_pow_right (by decide) (by omega))
theorem q_len {w : World} {va : Value} {A : Nat} (h1 : Raw w va A) :
    Calls Tryz.prog 61 #[va] w fun e w' => ∃ k : Nat, e = .returned (.int .i64 (k : Nat)) ∧ BitsIs A k ∧ Below w.heap.size w w' := by
  refine (q_length (B := w.heap.size) (L := []) ⟨Nat.le_refl _, fun _ h => by cases h⟩ h1).mono ?_
  rintro e w' ⟨k, rfl, hk, -, -, hb⟩
  exact ⟨k, rfl, hk, hb⟩
set_option maxHeartbeats 4000000 in
set_option maxRecDepth 100000 in
set_option exponentiation.threshold 100000 in
theorem nreckons_any (a1 : Option Addr) (l1 c1 : Nat) (xs1 : List Nat) (a2 : Option Addr) (l2 c2 : Nat) (xs2 : List Nat) (w : World) (hl1 : xs1.length = l1) (hc1 : l1 ≤ c1) (hn1 : a1 = none → c1 = 0) (hb1 : l1 ≤ 9223372036854775807) (hr1 : Rd .u64 w a1 xs1) (bx1 : Bd xs1) (hl2 : xs2.length = l2) (hc2 : l2 ≤ c2) (hn2 : a2 = none → c2 = 0) (hb2 : l2 ≤ 9223372036854775807) (hr2 : Rd .u64 w a2 xs2) (bx2 : Bd xs2) (hT : Trig w) (hZ : Tz w) :
    Calls Tryz.prog 6 #[.slice a1 l1 c1, .slice a2 l2 c2] w fun e w' => e = .returned (.bool true) ∧ Below w.heap.size w w' := by
  have HT := Lib.hid (fun (W : World) (h : Below w.heap.size w W) => And.intro (hT.below h) (hZ.below h))
  have HR1 := Lib.hid (fun (W : World) (h : Below w.heap.size w W) => hr1.below h)
  have HX1 := Lib.hid bx1
  have HL1 := Lib.hid hl1
  have HC1 := Lib.hid (And.intro hc1 hn1)
  have HR2 := Lib.hid (fun (W : World) (h : Below w.heap.size w W) => hr2.below h)
  have HX2 := Lib.hid bx2
  have HL2 := Lib.hid hl2
  have HC2 := Lib.hid (And.intro hc2 hn2)
  clear hT hZ hr1 bx1 hl1 hc1 hn1 hr2 bx2 hl2 hc2 hn2
  go_enter Tryz.func6, Tryz.ntmps6
  by_cases h1 : 300 < l1
  · have hq1 : decide ((300 : Int) < (l1 : Int)) = true := by rw [decide_eq_true_iff]; omega
    clear h1
    go_wp2
    go_ret
    exact ⟨rfl, Below.refl _ _⟩
  have hq1 : decide ((300 : Int) < (l1 : Int)) = false := by rw [decide_eq_false_iff_not]; omega
  have HM1 : Hid (l1 ≤ 300) := Nat.le_of_not_lt h1
  clear h1
  by_cases h2 : 300 < l2
  · have hq2 : decide ((300 : Int) < (l2 : Int)) = true := by rw [decide_eq_true_iff]; omega
    clear h2
    go_wp2
    go_ret
    exact ⟨rfl, Below.refl _ _⟩
  have hq2 : decide ((300 : Int) < (l2 : Int)) = false := by rw [decide_eq_false_iff_not]; omega
  have HM2 : Hid (l2 ≤ 300) := Nat.le_of_not_lt h2
  clear h2
  go_wp2_with fail
  refine (lentWords_any a1 l1 c1 xs1 _ HL1.out (by have := HM1.out; omega) (HR1.out _ (Below.refl _ _))).mono ?_
  rintro e w1 ⟨g1, k1, rfl, ho1, -, hb⟩
  have HB1 := Lib.hid (hb)
  have HO1 := Lib.hid ho1
  clear hb ho1
  go_wp2_with fail
  refine (lentWords_any a2 l2 c2 xs2 _ HL2.out (by have := HM2.out; omega) (HR2.out _ HB1.out)).mono ?_
  rintro e w2 ⟨g2, k2, rfl, ho2, -, hb⟩
  have HB2 := Lib.hid ((HB1.out).trans (hb.mono (HB1.out).size))
  have HO2 := Lib.hid ho2
  have HO1 := Lib.hid (owns_below HO1.out hb)
  clear hb ho2
  have HXX : Hid (∀ W, Below w2.heap.size w2 W → Raw W (.slice (some ⟨g1, 0, none⟩) l1 k1) (Go.Proofs.YtfjhmnbbjknflaaGreatDoor.val xs1) ∧ Raw W (.slice (some ⟨g2, 0, none⟩) l2 k2) (Go.Proofs.YtfjhmnbbjknflaaGreatDoor.val xs2) ∧ Raw W (.slice a1 l1 c1) (Go.Proofs.YtfjhmnbbjknflaaGreatDoor.val xs1) ∧ Raw W (.slice a2 l2 c2) (Go.Proofs.YtfjhmnbbjknflaaGreatDoor.val xs2) ∧ Trig W ∧ Tz W) := fun W h => by
    have h2 := HB2.out.trans (h.mono HB2.out.size)
    have p1 := own_room HO1.out
    have p2 := own_room HO2.out
    have q1 := HM1.out
    have q2 := HM2.out
    have e1 := HL1.out
    have e2 := HL2.out
    refine ⟨⟨some ⟨g1, 0, none⟩, k1, xs1, by rw [e1], by omega, (fun h => by cases h), (rdw_of HO1.out (List.take_left' (u64s_len xs1)) (by omega)).below h, HX1.out, rfl, by omega⟩, ⟨some ⟨g2, 0, none⟩, k2, xs2, by rw [e2], by omega, (fun h => by cases h), (rdw_of HO2.out (List.take_left' (u64s_len xs2)) (by omega)).below h, HX2.out, rfl, by omega⟩,
      ⟨a1, c1, xs1, by rw [e1], by rw [e1]; exact HC1.out.1, HC1.out.2, HR1.out _ h2, HX1.out, rfl, by omega⟩, ⟨a2, c2, xs2, by rw [e2], by rw [e2]; exact HC2.out.1, HC2.out.2, HR2.out _ h2, HX2.out, rfl, by omega⟩, HT.out _ h2⟩
  have HLM : Hid ((Go.Proofs.YtfjhmnbbjknflaaGreatDoor.val xs1) < 18446744073709551616 ^ 400 ∧ (Go.Proofs.YtfjhmnbbjknflaaGreatDoor.val xs2) < 18446744073709551616 ^ 400) := ⟨lim_300 HX1.out (by rw [HL1.out]; exact HM1.out), lim_300 HX2.out (by rw [HL2.out]; exact HM2.out)⟩
  have hbk0 := Bok.start (T := 33) (((Sep.nil w2 w2.heap.size).nilRow 65).nilRow 22) (Nat.le_refl _) rfl
  have HK0 : Hid (Bok (w2.alloc (.cells #[.slice none 0 0, .slice none 0 0] 33)) w2.heap.size w2.heap.size 33 [] [] (rwNo :: rwNo8 :: ([] ++ [])) (.slice none 0 0) (.slice none 0 0) ∧ Below w2.heap.size w2 (w2.alloc (.cells #[.slice none 0 0, .slice none 0 0] 33))) := ⟨hbk0, (Below.refl _ _).alloc (Nat.le_refl _) _⟩
  clear hbk0
  go_wp2
  go_loopw [8] (fun v8 wr => ∃ (k : Nat) (L : List Rw) (vw : Value), k ≤ 2 ∧ v8 = .int .i64 (k : Nat) ∧ Hid (L.length = 7 * k ∧ ∀ s ∈ L, s.E = 61 ∧ s.n ≤ 1099511627776) ∧ Hid (Bok wr w2.heap.size w2.heap.size 33 (L.map (·.v)) [] (rwNo :: rwNo8 :: (L ++ [])) vw (.slice none 0 0) ∧ Below w2.heap.size w2 wr)) (fun i _ => 2 - (intOf i).toNat)
  case atStart => exact ⟨0, [], _, by decide, rfl, ⟨rfl, fun s hs => by cases hs⟩, HK0.out⟩
  case round =>
    clear HK0
    obtain ⟨k, L, vw, hk, rfl, HLL, HK⟩ := hrel
    by_cases hlt : k < 2
    · have hqk : decide ((k : Int) < 2) = true := by rw [decide_eq_true_iff]; omega
      have hqn : decide (k < 2) = true := decide_eq_true hlt
      have HE : Hid (Wl wr [] [] wr) := ⟨fun _ h => (by cases h), Sep.nil _ _, Below.refl _ _⟩
      go_wp2_with fail
      refine ((p_norm (HXX.out _ (HK.out.2.trans (HE.out.bel.mono HK.out.2.size))).1).mono fun e W' hp => HE.out.told1 hp).mono ?_
      rintro e w3 ⟨aN, lN, cN, kN, zN, rfl, hl, hq, hS⟩
      have HE := Lib.hid hS
      have HLN := Lib.hid hl
      have HQN := Lib.hid hq
      clear hS hl hq
      go_wp2_with fail
      refine ((p_add (HXX.out _ (HK.out.2.trans (HE.out.bel.mono HK.out.2.size))).1 (HXX.out _ (HK.out.2.trans (HE.out.bel.mono HK.out.2.size))).2.1).mono fun e W' hp => HE.out.told1 hp).mono ?_
      rintro e w4 ⟨aS, lS, cS, kS, zS, rfl, hl, hq, hS⟩
      have HE := Lib.hid hS
      have HLS := Lib.hid hl
      have HQS := Lib.hid hq
      clear hS hl hq
      go_wp2_with fail
      refine ((p_sub (HXX.out _ (HK.out.2.trans (HE.out.bel.mono HK.out.2.size))).1 (HXX.out _ (HK.out.2.trans (HE.out.bel.mono HK.out.2.size))).2.1).mono fun e W' hp => HE.out.told1 hp).mono ?_
      rintro e w5 ⟨aD, lD, cD, kD, zD, rfl, hl, hq, hS⟩
      have HE := Lib.hid hS
      have HLD := Lib.hid hl
      have HQD := Lib.hid hq
      clear hS hl hq
      go_wp2_with fail
      refine ((p_mul (HXX.out _ (HK.out.2.trans (HE.out.bel.mono HK.out.2.size))).1 (HXX.out _ (HK.out.2.trans (HE.out.bel.mono HK.out.2.size))).2.1 (HXX.out _ (HK.out.2.trans (HE.out.bel.mono HK.out.2.size))).2.2.2.2.1).mono fun e W' hp => HE.out.told1 hp).mono ?_
      rintro e w6 ⟨aP, lP, cP, kP, zP, rfl, hl, hq, hS⟩
      have HE := Lib.hid hS
      have HLP := Lib.hid hl
      have HQP := Lib.hid hq
      clear hS hl hq
      go_wp2_with fail
      refine ((p_div (HXX.out _ (HK.out.2.trans (HE.out.bel.mono HK.out.2.size))).1 (HXX.out _ (HK.out.2.trans (HE.out.bel.mono HK.out.2.size))).2.1).mono fun e W' hp => HE.out.toldD1 hp).mono ?_
      rintro e w7 ⟨aQ, lQ, cQ, aR, lR, cR, kQ, zQ, zR, rfl, hl, hq, hS⟩
      have HE := Lib.hid hS
      have HLQ := Lib.hid hl.1
      have HLR := Lib.hid hl.2
      have HQQ := Lib.hid hq
      clear hS hl hq
      go_wp2_with fail
      refine ((p_gcd (HXX.out _ (HK.out.2.trans (HE.out.bel.mono HK.out.2.size))).1 (HXX.out _ (HK.out.2.trans (HE.out.bel.mono HK.out.2.size))).2.1 (HXX.out _ (HK.out.2.trans (HE.out.bel.mono HK.out.2.size))).2.2.2.2.2).mono fun e W' hp => HE.out.told1 hp).mono ?_
      rintro e w8 ⟨aG, lG, cG, kG, zG, rfl, hl, hq, hS⟩
      have HE := Lib.hid hS
      have HLG := Lib.hid hl
      have HQG := Lib.hid hq
      clear hS hl hq
      go_wp2_with fail
      refine (keptWords_any a1 w.heap.size g1 l1 c1 k1 xs1 _ HL1.out (by have := HM1.out; omega) (HR1.out _ (HB2.out.trans ((HK.out.2.trans (HE.out.bel.mono HK.out.2.size)).mono HB2.out.size))) (owns_below HO1.out (HK.out.2.trans (HE.out.bel.mono HK.out.2.size)))).mono ?_
      rintro e w9 ⟨rfl, rfl⟩
      go_wp2_with fail
      refine (keptWords_any a2 w1.heap.size g2 l2 c2 k2 xs2 _ HL2.out (by have := HM2.out; omega) (HR2.out _ (HB2.out.trans ((HK.out.2.trans (HE.out.bel.mono HK.out.2.size)).mono HB2.out.size))) (owns_below HO2.out (HK.out.2.trans (HE.out.bel.mono HK.out.2.size)))).mono ?_
      rintro e w10 ⟨rfl, rfl⟩
      go_wp2_with fail
      refine ((z_norm (HXX.out _ (HK.out.2.trans (HE.out.bel.mono HK.out.2.size))).2.2.1 (lims_z HLM.out.1 HLM.out.1).1).mono fun e W' hp => HE.out.told2 hp).mono ?_
      rintro e w11 ⟨aNr, lNr, cNr, kNr, zNr, rfl, hl, hq, hS⟩
      obtain ⟨rfl, rfl⟩ := HQN.out.one hq
      obtain rfl : lN = lNr := by rw [← HLN.out]; exact hl
      have HE := Lib.hid hS
      have HZN : Hid (lN ≤ 128) := by
        show _ ≤ _
        rw [← HLN.out]
        exact HQN.out.len 
      clear hS hl hq HQN
      go_wp2_with fail
      refine ((z_add (HXX.out _ (HK.out.2.trans (HE.out.bel.mono HK.out.2.size))).2.2.1 (HXX.out _ (HK.out.2.trans (HE.out.bel.mono HK.out.2.size))).2.2.2.1 HLM.out.1 HLM.out.2).mono fun e W' hp => HE.out.told2 hp).mono ?_
      rintro e w12 ⟨aSr, lSr, cSr, kSr, zSr, rfl, hl, hq, hS⟩
      obtain ⟨rfl, rfl⟩ := HQS.out.one hq
      obtain rfl : lS = lSr := by rw [← HLS.out]; exact hl
      have HE := Lib.hid hS
      have HZS : Hid (lS ≤ 128) := by
        show _ ≤ _
        rw [← HLS.out]
        exact HQS.out.len 
      clear hS hl hq HQS
      go_wp2_with fail
      refine ((z_sub (HXX.out _ (HK.out.2.trans (HE.out.bel.mono HK.out.2.size))).2.2.1 (HXX.out _ (HK.out.2.trans (HE.out.bel.mono HK.out.2.size))).2.2.2.1 HLM.out.1 HLM.out.2).mono fun e W' hp => HE.out.told2 hp).mono ?_
      rintro e w13 ⟨aDr, lDr, cDr, kDr, zDr, rfl, hl, hq, hS⟩
      obtain ⟨rfl, rfl⟩ := HQD.out.one hq
      obtain rfl : lD = lDr := by rw [← HLD.out]; exact hl
      have HE := Lib.hid hS
      have HZD : Hid (lD ≤ 128) := by
        show _ ≤ _
        rw [← HLD.out]
        exact HQD.out.len (fun h => h.1)
      clear hS hl hq HQD
      go_wp2_with fail
      refine ((z_mul (HXX.out _ (HK.out.2.trans (HE.out.bel.mono HK.out.2.size))).2.2.1 (HXX.out _ (HK.out.2.trans (HE.out.bel.mono HK.out.2.size))).2.2.2.1 HLM.out.1 HLM.out.2).mono fun e W' hp => HE.out.told2 hp).mono ?_
      rintro e w14 ⟨aPr, lPr, cPr, kPr, zPr, rfl, hl, hq, hS⟩
      obtain ⟨rfl, rfl⟩ := HQP.out.one hq
      obtain rfl : lP = lPr := by rw [← HLP.out]; exact hl
      have HE := Lib.hid hS
      have HZP : Hid (lP ≤ 128) := by
        show _ ≤ _
        rw [← HLP.out]
        exact HQP.out.len 
      clear hS hl hq HQP
      go_wp2_with fail
      refine ((z_div (HXX.out _ (HK.out.2.trans (HE.out.bel.mono HK.out.2.size))).2.2.1 (HXX.out _ (HK.out.2.trans (HE.out.bel.mono HK.out.2.size))).2.2.2.1 HLM.out.1 HLM.out.2).mono fun e W' hp => HE.out.toldD2 hp).mono ?_
      rintro e w15 ⟨aQr, lQr, cQr, aRr, lRr, cRr, kQr, zQr, zRr, rfl, hl, hq, hS⟩
      obtain ⟨rfl, rfl, rfl⟩ := HQQ.out.one hq
      obtain rfl : lQ = lQr := by rw [← HLQ.out]; exact hl.1
      obtain rfl : lR = lRr := by rw [← HLR.out]; exact hl.2
      have HE := Lib.hid hS
      have HZQ : Hid (lQ ≤ 128) := by
        show _ ≤ _
        rw [← HLQ.out]
        exact (HQQ.out.len (fun h => h.1)).1
      have HZR : Hid (lR ≤ 128) := by
        show _ ≤ _
        rw [← HLR.out]
        exact (HQQ.out.len (fun h => h.1)).2
      clear hS hl hq HQQ
      go_wp2_with fail
      refine ((z_gcd (HXX.out _ (HK.out.2.trans (HE.out.bel.mono HK.out.2.size))).2.2.1 (HXX.out _ (HK.out.2.trans (HE.out.bel.mono HK.out.2.size))).2.2.2.1 HLM.out.1 HLM.out.2).mono fun e W' hp => HE.out.told2 hp).mono ?_
      rintro e w16 ⟨aGr, lGr, cGr, kGr, zGr, rfl, hl, hq, hS⟩
      obtain ⟨rfl, rfl⟩ := HQG.out.one hq
      obtain rfl : lG = lGr := by rw [← HLG.out]; exact hl
      have HE := Lib.hid hS
      have HZG : Hid (lG ≤ 128) := by
        show _ ≤ _
        rw [← HLG.out]
        exact HQG.out.len (fun h => gcd_lim h.1 h.2)
      clear hS hl hq HQG
      go_wp2_with fail
      refine (l1same_any aN aNr lN cN cNr kN zN _ HLN.out (by have := HZN.out; omega) (HE.out.rd (l := lN) (c := cN) (by repeat first | exact List.mem_cons_self | apply List.mem_cons_of_mem)) (HE.out.rd (l := lN) (c := cNr) (by repeat first | exact List.mem_cons_self | apply List.mem_cons_of_mem))).mono ?_
      rintro e w17 ⟨rfl, hb⟩
      have HE := Lib.hid (HE.out.below hb)
      clear hb
      go_wp2_with fail
      refine (l1same_any aS aSr lS cS cSr kS zS _ HLS.out (by have := HZS.out; omega) (HE.out.rd (l := lS) (c := cS) (by repeat first | exact List.mem_cons_self | apply List.mem_cons_of_mem)) (HE.out.rd (l := lS) (c := cSr) (by repeat first | exact List.mem_cons_self | apply List.mem_cons_of_mem))).mono ?_
      rintro e w18 ⟨rfl, hb⟩
      have HE := Lib.hid (HE.out.below hb)
      clear hb
      go_wp2_with fail
      refine (l1same_any aD aDr lD cD cDr kD zD _ HLD.out (by have := HZD.out; omega) (HE.out.rd (l := lD) (c := cD) (by repeat first | exact List.mem_cons_self | apply List.mem_cons_of_mem)) (HE.out.rd (l := lD) (c := cDr) (by repeat first | exact List.mem_cons_self | apply List.mem_cons_of_mem))).mono ?_
      rintro e w19 ⟨rfl, hb⟩
      have HE := Lib.hid (HE.out.below hb)
      clear hb
      go_wp2_with fail
      refine (l1same_any aP aPr lP cP cPr kP zP _ HLP.out (by have := HZP.out; omega) (HE.out.rd (l := lP) (c := cP) (by repeat first | exact List.mem_cons_self | apply List.mem_cons_of_mem)) (HE.out.rd (l := lP) (c := cPr) (by repeat first | exact List.mem_cons_self | apply List.mem_cons_of_mem))).mono ?_
      rintro e w20 ⟨rfl, hb⟩
      have HE := Lib.hid (HE.out.below hb)
      clear hb
      go_wp2_with fail
      refine (l1same_any aQ aQr lQ cQ cQr kQ zQ _ HLQ.out (by have := HZQ.out; omega) (HE.out.rd (l := lQ) (c := cQ) (by repeat first | exact List.mem_cons_self | apply List.mem_cons_of_mem)) (HE.out.rd (l := lQ) (c := cQr) (by repeat first | exact List.mem_cons_self | apply List.mem_cons_of_mem))).mono ?_
      rintro e w21 ⟨rfl, hb⟩
      have HE := Lib.hid (HE.out.below hb)
      clear hb
      go_wp2_with fail
      refine (l1same_any aR aRr lR cR cRr kQ zR _ HLR.out (by have := HZR.out; omega) (HE.out.rd (l := lR) (c := cR) (by repeat first | exact List.mem_cons_self | apply List.mem_cons_of_mem)) (HE.out.rd (l := lR) (c := cRr) (by repeat first | exact List.mem_cons_self | apply List.mem_cons_of_mem))).mono ?_
      rintro e w22 ⟨rfl, hb⟩
      have HE := Lib.hid (HE.out.below hb)
      clear hb
      go_wp2_with fail
      refine (l1same_any aG aGr lG cG cGr kG zG _ HLG.out (by have := HZG.out; omega) (HE.out.rd (l := lG) (c := cG) (by repeat first | exact List.mem_cons_self | apply List.mem_cons_of_mem)) (HE.out.rd (l := lG) (c := cGr) (by repeat first | exact List.mem_cons_self | apply List.mem_cons_of_mem))).mono ?_
      rintro e w23 ⟨rfl, hb⟩
      have HE := Lib.hid (HE.out.below hb)
      clear hb
      have hbok := (HK.out.1.grow HE.out.bel HE.out.sep).perm (perm_grow [rw64 (.slice aN lN cN) zN, rw64 (.slice aS lS cS) zS, rw64 (.slice aD lD cD) zD, rw64 (.slice aP lP cP) zP, rw64 (.slice aQ lQ cQ) zQ, rw64 (.slice aR lR cR) zR, rw64 (.slice aG lG cG) zG] L)
      have HKB := Lib.hid (HK.out.2.trans (HE.out.bel.mono HK.out.2.size))
      have HWL : Hid ((L.map (·.v)).length ≤ 14) := by
        show _ ≤ _
        rw [List.length_map, HLL.out.1]
        omega
      have HF : Hid ((L.map (·.v)) ++ [.slice aN lN cN] ++ [.slice aS lS cS] ++ [.slice aD lD cD] ++ [.slice aP lP cP] ++ [.slice aQ lQ cQ] ++ [.slice aR lR cR] ++ [.slice aG lG cG] = (L ++ [rw64 (.slice aN lN cN) zN, rw64 (.slice aS lS cS) zS, rw64 (.slice aD lD cD) zD, rw64 (.slice aP lP cP) zP, rw64 (.slice aQ lQ cQ) zQ, rw64 (.slice aR lR cR) zR, rw64 (.slice aG lG cG) zG]).map (·.v)) := by
        show _ = _
        simp [rw64]
      obtain ⟨M, hM⟩ : ∃ M, M = L.map (·.v) := ⟨_, rfl⟩
      rw [← hM] at hbok HWL HF
      clear hM
      go_wp2_with fail
      refine (hbok.words aN lN cN (by have := HWL.out; first | omega | (simp only [List.length_append, List.length_cons, List.length_nil]; omega))).mono ?_
      rintro e w24 ⟨rfl, ⟨vw0, hbok2⟩, hb⟩
      have HKB := Lib.hid (HKB.out.trans hb)
      clear hbok hb
      have hbok := hbok2
      clear hbok2
      go_wp2_with fail
      refine (hbok.words aS lS cS (by have := HWL.out; first | omega | (simp only [List.length_append, List.length_cons, List.length_nil]; omega))).mono ?_
      rintro e w25 ⟨rfl, ⟨vw1, hbok2⟩, hb⟩
      have HKB := Lib.hid (HKB.out.trans hb)
      clear hbok hb
      have hbok := hbok2
      clear hbok2
      go_wp2_with fail
      refine (hbok.words aD lD cD (by have := HWL.out; first | omega | (simp only [List.length_append, List.length_cons, List.length_nil]; omega))).mono ?_
      rintro e w26 ⟨rfl, ⟨vw2, hbok2⟩, hb⟩
      have HKB := Lib.hid (HKB.out.trans hb)
      clear hbok hb
      have hbok := hbok2
      clear hbok2
      go_wp2_with fail
      refine (hbok.words aP lP cP (by have := HWL.out; first | omega | (simp only [List.length_append, List.length_cons, List.length_nil]; omega))).mono ?_
      rintro e w27 ⟨rfl, ⟨vw3, hbok2⟩, hb⟩
      have HKB := Lib.hid (HKB.out.trans hb)
      clear hbok hb
      have hbok := hbok2
      clear hbok2
      go_wp2_with fail
      refine (hbok.words aQ lQ cQ (by have := HWL.out; first | omega | (simp only [List.length_append, List.length_cons, List.length_nil]; omega))).mono ?_
      rintro e w28 ⟨rfl, ⟨vw4, hbok2⟩, hb⟩
      have HKB := Lib.hid (HKB.out.trans hb)
      clear hbok hb
      have hbok := hbok2
      clear hbok2
      go_wp2_with fail
      refine (hbok.words aR lR cR (by have := HWL.out; first | omega | (simp only [List.length_append, List.length_cons, List.length_nil]; omega))).mono ?_
      rintro e w29 ⟨rfl, ⟨vw5, hbok2⟩, hb⟩
      have HKB := Lib.hid (HKB.out.trans hb)
      clear hbok hb
      have hbok := hbok2
      clear hbok2
      go_wp2_with fail
      refine (hbok.words aG lG cG (by have := HWL.out; first | omega | (simp only [List.length_append, List.length_cons, List.length_nil]; omega))).mono ?_
      rintro e w30 ⟨rfl, ⟨vw6, hbok2⟩, hb⟩
      have HKB := Lib.hid (HKB.out.trans hb)
      clear hbok hb
      have hbok := hbok2
      clear hbok2
      have HBK := Lib.hid hbok
      clear hbok
      go_wp2
      go_roundw
      case rel =>
        refine ⟨k + 1, L ++ [rw64 (.slice aN lN cN) zN, rw64 (.slice aS lS cS) zS, rw64 (.slice aD lD cD) zD, rw64 (.slice aP lP cP) zP, rw64 (.slice aQ lQ cQ) zQ, rw64 (.slice aR lR cR) zR, rw64 (.slice aG lG cG) zG], vw6, by omega, by go_num, ⟨by rw [List.length_append, HLL.out.1]; show 7 * k + 7 = _; omega, fun s hs => ?_⟩, ?_, HKB.out⟩
        · rcases List.mem_append.1 hs with hs | hs
          · exact HLL.out.2 s hs
          · simp only [List.mem_cons, List.mem_nil_iff, or_false] at hs
            rcases hs with rfl | rfl | rfl | rfl | rfl | rfl | rfl
            · exact ⟨rfl, by show zN.length ≤ _; have h1 := HLN.out; have h2 := HZN.out; omega⟩
            · exact ⟨rfl, by show zS.length ≤ _; have h1 := HLS.out; have h2 := HZS.out; omega⟩
            · exact ⟨rfl, by show zD.length ≤ _; have h1 := HLD.out; have h2 := HZD.out; omega⟩
            · exact ⟨rfl, by show zP.length ≤ _; have h1 := HLP.out; have h2 := HZP.out; omega⟩
            · exact ⟨rfl, by show zQ.length ≤ _; have h1 := HLQ.out; have h2 := HZQ.out; omega⟩
            · exact ⟨rfl, by show zR.length ≤ _; have h1 := HLR.out; have h2 := HZR.out; omega⟩
            · exact ⟨rfl, by show zG.length ≤ _; have h1 := HLG.out; have h2 := HZG.out; omega⟩
        · rw [← HF.out]
          exact HBK.out
      case measure => first | (simp [intOf]; done) | (simp [intOf]; omega)
    · have hqk : decide ((k : Int) < 2) = false := by rw [decide_eq_false_iff_not]; omega
      have hqn : decide (k < 2) = false := decide_eq_false hlt
      have HKB := Lib.hid HK.out.2
      have HE := Lib.hid HK.out.1
      clear HK
      obtain ⟨rc, hrc⟩ : ∃ rc, rc = cmpI (Go.Proofs.YtfjhmnbbjknflaaGreatDoor.val xs1) (Go.Proofs.YtfjhmnbbjknflaaGreatDoor.val xs2) := ⟨_, rfl⟩
      have HRC := Lib.hid hrc
      have hqc : (rc != rc) = false := by simp
      clear hrc
      go_wp2_with fail
      refine (p_cmp (HXX.out _ HKB.out).1 (HXX.out _ HKB.out).2.1).mono ?_
      rintro e y1 ⟨rfl, hb⟩
      have HE := Lib.hid (HE.out.below hb)
      have HKB := Lib.hid (HKB.out.trans (hb.mono HKB.out.size))
      clear hb
      rw [← HRC.out]
      go_wp2_with fail
      refine (z_cmp (HXX.out _ HKB.out).2.2.1 (HXX.out _ HKB.out).2.2.2.1).mono ?_
      rintro e y2 ⟨rfl, hb⟩
      have HE := Lib.hid (HE.out.below hb)
      have HKB := Lib.hid (HKB.out.trans (hb.mono HKB.out.size))
      clear hb
      rw [← HRC.out]
      go_wp2_with fail
      refine (p_bits (HXX.out _ HKB.out).1).mono ?_
      rintro e y3 ⟨kb, rfl, hkb, hb⟩
      have HE := Lib.hid (HE.out.below hb)
      have HKB := Lib.hid (HKB.out.trans (hb.mono HKB.out.size))
      clear hb
      have HKK := Lib.hid hkb
      clear hkb
      go_wp2_with fail
      refine (q_len (HXX.out _ HKB.out).2.2.1).mono ?_
      rintro e y4 ⟨jb, rfl, hjb, hb⟩
      have HE := Lib.hid (HE.out.below hb)
      have HKB := Lib.hid (HKB.out.trans (hb.mono HKB.out.size))
      clear hb
      obtain rfl := bits_uniq HKK.out hjb
      clear hjb HKK
      have hqb : ((kb : Int) != (kb : Int)) = false := by simp
      go_wp2_with fail
      refine (p_cmp (HXX.out _ HKB.out).1 (HXX.out _ HKB.out).1).mono ?_
      rintro e y5 ⟨rfl, hb⟩
      have HE := Lib.hid (HE.out.below hb)
      have HKB := Lib.hid (HKB.out.trans (hb.mono HKB.out.size))
      clear hb
      rw [cmpI_refl]
      go_wp2_with fail
      refine (Bok.apart (WL := L) (BL := []) HE.out HLL.out.2 (fun s hs => by cases hs) (by rw [HLL.out.1]; omega) (by simp)).mono ?_
      rintro e y6 ⟨rfl, hb⟩
      have HKB := Lib.hid (HKB.out.trans hb)
      clear hb HE
      go_wp2_with fail
      refine (keptWords_any a1 w.heap.size g1 l1 c1 k1 xs1 _ HL1.out (by have := HM1.out; omega) (HR1.out _ (HB2.out.trans (HKB.out.mono HB2.out.size))) (owns_below HO1.out HKB.out)).mono ?_
      rintro e w31 ⟨rfl, rfl⟩
      go_wp2_with fail
      refine (keptWords_any a2 w1.heap.size g2 l2 c2 k2 xs2 _ HL2.out (by have := HM2.out; omega) (HR2.out _ (HB2.out.trans (HKB.out.mono HB2.out.size))) (owns_below HO2.out HKB.out)).mono ?_
      rintro e w32 ⟨rfl, rfl⟩
      go_wp2_with fail
      refine (works_any _).mono ?_
      rintro e wz ⟨rfl, hb⟩
      have HZZ := Lib.hid ((HB2.out.trans (HKB.out.mono HB2.out.size)).trans (hb.mono (HB2.out.trans (HKB.out.mono HB2.out.size)).size))
      clear hb
      go_wp2
      go_ret
      exact ⟨rfl, HZZ.out⟩
end Go.Proofs.YtfjhmnbbjknflaaGreatDoor
