import Derived.Test.YticncpeeeiobfaaDoorModL
namespace Go.Proofs.YticncpeeeiobfaaDoor
open Go.RowKit

set_option maxHeartbeats 16000000 in
set_option maxRecDepth 100000 in
theorem mreckons_any (a1 : Option Addr) (l1 c1 : Nat) (xs1 : List Nat) (a2 : Option Addr) (l2 c2 : Nat) (xs2 : List Nat) (a3 : Option Addr) (l3 c3 : Nat) (xs3 : List Nat) (w : World) (hl1 : xs1.length = l1) (hc1 : l1 ≤ c1) (hn1 : a1 = none → c1 = 0) (hb1 : l1 ≤ 9223372036854775807) (hr1 : Rd .u64 w a1 xs1) (bx1 : Bd xs1) (hl2 : xs2.length = l2) (hc2 : l2 ≤ c2) (hn2 : a2 = none → c2 = 0) (hb2 : l2 ≤ 9223372036854775807) (hr2 : Rd .u64 w a2 xs2) (bx2 : Bd xs2) (hl3 : xs3.length = l3) (hc3 : l3 ≤ c3) (hn3 : a3 = none → c3 = 0) (hb3 : l3 ≤ 9223372036854775807) (hr3 : Rd .u64 w a3 xs3) (bx3 : Bd xs3) (hT : Trig w) :
    Calls Tryd.prog 6 #[.slice a1 l1 c1, .slice a2 l2 c2, .slice a3 l3 c3] w fun e w' => e = .returned (.bool true) ∧ Below w.heap.size w w' := by
  have HT := Lib.hid (fun (W : World) (h : Below w.heap.size w W) => hT.below h)
  have HR1 := Lib.hid (fun (W : World) (h : Below w.heap.size w W) => hr1.below h)
  have HX1 := Lib.hid bx1
  have HL1 := Lib.hid hl1
  have HC1 := Lib.hid (And.intro hc1 hn1)
  have HR2 := Lib.hid (fun (W : World) (h : Below w.heap.size w W) => hr2.below h)
  have HX2 := Lib.hid bx2
  have HL2 := Lib.hid hl2
  have HC2 := Lib.hid (And.intro hc2 hn2)
  have HR3 := Lib.hid (fun (W : World) (h : Below w.heap.size w W) => hr3.below h)
  have HX3 := Lib.hid bx3
  have HL3 := Lib.hid hl3
  have HC3 := Lib.hid (And.intro hc3 hn3)
  clear hT hr1 bx1 hl1 hc1 hn1 hr2 bx2 hl2 hc2 hn2 hr3 bx3 hl3 hc3 hn3
  go_enter Tryd.func6, Tryd.ntmps6
  by_cases h1 : 200 < l1
  · have hq1 : decide ((200 : Int) < (l1 : Int)) = true := by rw [decide_eq_true_iff]; omega
    clear h1
    go_wp2
    go_ret
    exact ⟨rfl, Below.refl _ _⟩
  have hq1 : decide ((200 : Int) < (l1 : Int)) = false := by rw [decide_eq_false_iff_not]; omega
  have HM1 : Hid (l1 ≤ 200) := Nat.le_of_not_lt h1
  clear h1
  by_cases h2 : 200 < l2
  · have hq2 : decide ((200 : Int) < (l2 : Int)) = true := by rw [decide_eq_true_iff]; omega
    clear h2
    go_wp2
    go_ret
    exact ⟨rfl, Below.refl _ _⟩
  have hq2 : decide ((200 : Int) < (l2 : Int)) = false := by rw [decide_eq_false_iff_not]; omega
  have HM2 : Hid (l2 ≤ 200) := Nat.le_of_not_lt h2
  clear h2
  by_cases h3 : 200 < l3
  · have hq3 : decide ((200 : Int) < (l3 : Int)) = true := by rw [decide_eq_true_iff]; omega
    clear h3
    go_wp2
    go_ret
    exact ⟨rfl, Below.refl _ _⟩
  have hq3 : decide ((200 : Int) < (l3 : Int)) = false := by rw [decide_eq_false_iff_not]; omega
  have HM3 : Hid (l3 ≤ 200) := Nat.le_of_not_lt h3
  clear h3
  go_wp2_with fail
  refine (lentWords_any a1 l1 c1 xs1 _ HL1.out (by have := HM1.out; omega) (HR1.out _ (Below.refl _ _))).mono ?_
  rintro e w1 ⟨g1, k1, rfl, ho1, -, hb⟩
  have HB1 := Lib.hid (hb)
  have HO1 := Lib.hid ho1
  clear hb ho1
  go_wp2_with fail
  refine (lentWords_any a2 l2 c2 xs2 _ HL2.out (by have := HM2.out; omega) (HR2.out _ HB1.out)).mono ?_
  rintro e w2 ⟨g2, k2, rfl, ho2, -, hb⟩
  have HB2 := Lib.hid ((HB1.out).trans (hb.mono (HB1.out).size))
  have HO2 := Lib.hid ho2
  have HO1 := Lib.hid (owns_below HO1.out hb)
  clear hb ho2
  go_wp2_with fail
  refine (lentWords_any a3 l3 c3 xs3 _ HL3.out (by have := HM3.out; omega) (HR3.out _ HB2.out)).mono ?_
  rintro e w3 ⟨g3, k3, rfl, ho3, -, hb⟩
  have HB3 := Lib.hid ((HB2.out).trans (hb.mono (HB2.out).size))
  have HO3 := Lib.hid ho3
  have HO1 := Lib.hid (owns_below HO1.out hb)
  have HO2 := Lib.hid (owns_below HO2.out hb)
  clear hb ho3
  have HXX : Hid (∀ W, Below w3.heap.size w3 W → Raw W (.slice (some ⟨g1, 0, none⟩) l1 k1) (Go.Proofs.YticncpeeeiobfaaDoor.val xs1) ∧ Raw W (.slice (some ⟨g2, 0, none⟩) l2 k2) (Go.Proofs.YticncpeeeiobfaaDoor.val xs2) ∧ Raw W (.slice (some ⟨g3, 0, none⟩) l3 k3) (Go.Proofs.YticncpeeeiobfaaDoor.val xs3) ∧ Raw W (.slice a1 l1 c1) (Go.Proofs.YticncpeeeiobfaaDoor.val xs1) ∧ Raw W (.slice a2 l2 c2) (Go.Proofs.YticncpeeeiobfaaDoor.val xs2) ∧ Raw W (.slice a3 l3 c3) (Go.Proofs.YticncpeeeiobfaaDoor.val xs3) ∧ Trig W) := fun W h => by
    have h2 := HB3.out.trans (h.mono HB3.out.size)
    have p1 := own_room HO1.out
    have p2 := own_room HO2.out
    have p3 := own_room HO3.out
    have q1 := HM1.out
    have q2 := HM2.out
    have q3 := HM3.out
    have e1 := HL1.out
    have e2 := HL2.out
    have e3 := HL3.out
    refine ⟨⟨some ⟨g1, 0, none⟩, k1, xs1, by rw [e1], by omega, (fun h => by cases h), (rdw_of HO1.out (List.take_left' (u64s_len xs1)) (by omega)).below h, HX1.out, rfl, by omega⟩, ⟨some ⟨g2, 0, none⟩, k2, xs2, by rw [e2], by omega, (fun h => by cases h), (rdw_of HO2.out (List.take_left' (u64s_len xs2)) (by omega)).below h, HX2.out, rfl, by omega⟩, ⟨some ⟨g3, 0, none⟩, k3, xs3, by rw [e3], by omega, (fun h => by cases h), (rdw_of HO3.out (List.take_left' (u64s_len xs3)) (by omega)).below h, HX3.out, rfl, by omega⟩,
      ⟨a1, c1, xs1, by rw [e1], by rw [e1]; exact HC1.out.1, HC1.out.2, HR1.out _ h2, HX1.out, rfl, by omega⟩, ⟨a2, c2, xs2, by rw [e2], by rw [e2]; exact HC2.out.1, HC2.out.2, HR2.out _ h2, HX2.out, rfl, by omega⟩, ⟨a3, c3, xs3, by rw [e3], by rw [e3]; exact HC3.out.1, HC3.out.2, HR3.out _ h2, HX3.out, rfl, by omega⟩, HT.out _ h2⟩
  have HE : Hid (Wl w3 [] [] w3) := ⟨fun _ h => (by cases h), Sep.nil _ _, Below.refl _ _⟩
  go_wp2_with fail
  refine ((g_of (HXX.out _ HE.out.bel).2.2.1 (HXX.out _ HE.out.bel).1).mono fun e W' hp => HE.out.told1 hp).mono ?_
  rintro e w4 ⟨aO, lO, cO, kO, zO, rfl, hl, hq, hS⟩
  have HE := Lib.hid hS
  have HLO := Lib.hid hl
  have HQO := Lib.hid hq
  clear hS hl hq
  go_wp2_with fail
  refine ((g_add (HXX.out _ HE.out.bel).2.2.1 (HXX.out _ HE.out.bel).1 (HXX.out _ HE.out.bel).2.1).mono fun e W' hp => HE.out.told1 hp).mono ?_
  rintro e w5 ⟨aS, lS, cS, kS, zS, rfl, hl, hq, hS⟩
  have HE := Lib.hid hS
  have HLS := Lib.hid hl
  have HQS := Lib.hid hq
  clear hS hl hq
  go_wp2_with fail
  refine ((g_sub (HXX.out _ HE.out.bel).2.2.1 (HXX.out _ HE.out.bel).1 (HXX.out _ HE.out.bel).2.1).mono fun e W' hp => HE.out.told1 hp).mono ?_
  rintro e w6 ⟨aD, lD, cD, kD, zD, rfl, hl, hq, hS⟩
  have HE := Lib.hid hS
  have HLD := Lib.hid hl
  have HQD := Lib.hid hq
  clear hS hl hq
  go_wp2_with fail
  refine ((g_mul (HXX.out _ HE.out.bel).2.2.2.2.2.2 (HXX.out _ HE.out.bel).2.2.1 (HXX.out _ HE.out.bel).1 (HXX.out _ HE.out.bel).2.1).mono fun e W' hp => HE.out.told1 hp).mono ?_
  rintro e w7 ⟨aP, lP, cP, kP, zP, rfl, hl, hq, hS⟩
  have HE := Lib.hid hS
  have HLP := Lib.hid hl
  have HQP := Lib.hid hq
  clear hS hl hq
  go_wp2_with fail
  refine ((g_inv (HXX.out _ HE.out.bel).2.2.2.2.2.2 (HXX.out _ HE.out.bel).2.2.1 (HXX.out _ HE.out.bel).1).mono fun e W' hp => HE.out.told1 hp).mono ?_
  rintro e w8 ⟨aI, lI, cI, kI, zI, rfl, hl, hq, hS⟩
  have HE := Lib.hid hS
  have HLI := Lib.hid hl
  have HQI := Lib.hid hq
  clear hS hl hq
  go_wp2_with fail
  refine ((r4of_any (HXX.out _ HE.out.bel).2.2.2.2.2.1 (HXX.out _ HE.out.bel).2.2.2.1).mono fun e W' hp => HE.out.told2 hp).mono ?_
  rintro e w9 ⟨aOr, lOr, cOr, kOr, zOr, rfl, hl, hq, hS⟩
  obtain ⟨rfl, rfl⟩ := HQO.out.one hq
  obtain rfl : lO = lOr := by rw [← HLO.out]; exact hl
  have HE := Lib.hid hS
  have HZO : Hid (lO ≤ 128) := by
    show _ ≤ _
    rw [← HLO.out]
    exact HQO.out.len (fun hp h0 => lim64_128 hp.2 (Nat.mod_lt _ h0))
  clear hS hl hq HQO
  go_wp2_with fail
  refine ((r4add_any (HXX.out _ HE.out.bel).2.2.2.2.2.1 (HXX.out _ HE.out.bel).2.2.2.1 (HXX.out _ HE.out.bel).2.2.2.2.1).mono fun e W' hp => HE.out.told2 hp).mono ?_
  rintro e w10 ⟨aSr, lSr, cSr, kSr, zSr, rfl, hl, hq, hS⟩
  obtain ⟨rfl, rfl⟩ := HQS.out.one hq
  obtain rfl : lS = lSr := by rw [← HLS.out]; exact hl
  have HE := Lib.hid hS
  have HZS : Hid (lS ≤ 128) := by
    show _ ≤ _
    rw [← HLS.out]
    exact HQS.out.len (fun hp h0 => lim64_128 hp.2 (Nat.mod_lt _ h0))
  clear hS hl hq HQS
  go_wp2_with fail
  refine ((r4sub_any (HXX.out _ HE.out.bel).2.2.2.2.2.1 (HXX.out _ HE.out.bel).2.2.2.1 (HXX.out _ HE.out.bel).2.2.2.2.1).mono fun e W' hp => HE.out.told2 hp).mono ?_
  rintro e w11 ⟨aDr, lDr, cDr, kDr, zDr, rfl, hl, hq, hS⟩
  obtain ⟨rfl, rfl⟩ := HQD.out.one hq
  obtain rfl : lD = lDr := by rw [← HLD.out]; exact hl
  have HE := Lib.hid hS
  have HZD : Hid (lD ≤ 128) := by
    show _ ≤ _
    rw [← HLD.out]
    exact HQD.out.len (fun hp h0 => lim64_128 hp.2 (mdiff_lt (Nat.mod_lt _ h0) (Nat.mod_lt _ h0)))
  clear hS hl hq HQD
  go_wp2_with fail
  refine ((r4mul_any (HXX.out _ HE.out.bel).2.2.2.2.2.1 (HXX.out _ HE.out.bel).2.2.2.1 (HXX.out _ HE.out.bel).2.2.2.2.1).mono fun e W' hp => HE.out.told2 hp).mono ?_
  rintro e w12 ⟨aPr, lPr, cPr, kPr, zPr, rfl, hl, hq, hS⟩
  obtain ⟨rfl, rfl⟩ := HQP.out.one hq
  obtain rfl : lP = lPr := by rw [← HLP.out]; exact hl
  have HE := Lib.hid hS
  have HZP : Hid (lP ≤ 128) := by
    show _ ≤ _
    rw [← HLP.out]
    exact HQP.out.len (fun hp h0 => lim64_128 hp.2 (Nat.mod_lt _ h0))
  clear hS hl hq HQP
  go_wp2_with fail
  refine ((r4inv_any (HXX.out _ HE.out.bel).2.2.2.2.2.1 (HXX.out _ HE.out.bel).2.2.2.1).mono fun e W' hp => HE.out.told2 hp).mono ?_
  rintro e w13 ⟨aIr, lIr, cIr, kIr, zIr, rfl, hl, hq, hS⟩
  obtain ⟨rfl, rfl⟩ := HQI.out.one hq
  obtain rfl : lI = lIr := by rw [← HLI.out]; exact hl
  have HE := Lib.hid hS
  have HZI : Hid (lI ≤ 128) := by
    show _ ≤ _
    rw [← HLI.out]
    exact HQI.out.len (fun hp => Nat.lt_of_lt_of_le hp.2 lim_le128)
  clear hS hl hq HQI
  go_wp2_with fail
  refine (m4same_any aO aOr lO cO cOr kO zO _ HLO.out (by have := HZO.out; omega) (HE.out.rd (l := lO) (c := cO) (by repeat first | exact List.mem_cons_self | apply List.mem_cons_of_mem)) (HE.out.rd (l := lO) (c := cOr) (by repeat first | exact List.mem_cons_self | apply List.mem_cons_of_mem))).mono ?_
  rintro e w14 ⟨rfl, hb⟩
  have HE := Lib.hid (HE.out.below hb)
  clear hb
  go_wp2_with fail
  refine (m4same_any aS aSr lS cS cSr kS zS _ HLS.out (by have := HZS.out; omega) (HE.out.rd (l := lS) (c := cS) (by repeat first | exact List.mem_cons_self | apply List.mem_cons_of_mem)) (HE.out.rd (l := lS) (c := cSr) (by repeat first | exact List.mem_cons_self | apply List.mem_cons_of_mem))).mono ?_
  rintro e w15 ⟨rfl, hb⟩
  have HE := Lib.hid (HE.out.below hb)
  clear hb
  go_wp2_with fail
  refine (m4same_any aD aDr lD cD cDr kD zD _ HLD.out (by have := HZD.out; omega) (HE.out.rd (l := lD) (c := cD) (by repeat first | exact List.mem_cons_self | apply List.mem_cons_of_mem)) (HE.out.rd (l := lD) (c := cDr) (by repeat first | exact List.mem_cons_self | apply List.mem_cons_of_mem))).mono ?_
  rintro e w16 ⟨rfl, hb⟩
  have HE := Lib.hid (HE.out.below hb)
  clear hb
  go_wp2_with fail
  refine (m4same_any aP aPr lP cP cPr kP zP _ HLP.out (by have := HZP.out; omega) (HE.out.rd (l := lP) (c := cP) (by repeat first | exact List.mem_cons_self | apply List.mem_cons_of_mem)) (HE.out.rd (l := lP) (c := cPr) (by repeat first | exact List.mem_cons_self | apply List.mem_cons_of_mem))).mono ?_
  rintro e w17 ⟨rfl, hb⟩
  have HE := Lib.hid (HE.out.below hb)
  clear hb
  go_wp2_with fail
  refine (m4same_any aI aIr lI cI cIr kI zI _ HLI.out (by have := HZI.out; omega) (HE.out.rd (l := lI) (c := cI) (by repeat first | exact List.mem_cons_self | apply List.mem_cons_of_mem)) (HE.out.rd (l := lI) (c := cIr) (by repeat first | exact List.mem_cons_self | apply List.mem_cons_of_mem))).mono ?_
  rintro e w18 ⟨rfl, hb⟩
  have HE := Lib.hid (HE.out.below hb)
  clear hb
  have hsep : Sep w18 w3.heap.size (rwNo :: rwNo8 :: ([rw64 (.slice aO lO cO) zO, rw64 (.slice aS lS cS) zS, rw64 (.slice aD lD cD) zD, rw64 (.slice aP lP cP) zP, rw64 (.slice aI lI cI) zI] ++ [])) := by
    refine (Sep.nilRow ?_ _).nilRow _
    exact HE.out.sep.perm (show List.Perm [rw64 (.slice aI lI cI) zI, rw64 (.slice aP lP cP) zP, rw64 (.slice aD lD cD) zD, rw64 (.slice aS lS cS) zS, rw64 (.slice aO lO cO) zO] ([rw64 (.slice aO lO cO) zO, rw64 (.slice aS lS cS) zS, rw64 (.slice aD lD cD) zD, rw64 (.slice aP lP cP) zP, rw64 (.slice aI lI cI) zI] ++ []) from List.reverse_perm [rw64 (.slice aO lO cO) zO, rw64 (.slice aS lS cS) zS, rw64 (.slice aD lD cD) zD, rw64 (.slice aP lP cP) zP, rw64 (.slice aI lI cI) zI])
  have hbok := Bok.start (T := 36) hsep HE.out.bel.size rfl
  have HKB : Hid (Below w3.heap.size w3 (w18.alloc (.cells #[.slice none 0 0, .slice none 0 0] 36))) := HE.out.bel.alloc HE.out.bel.size _
  go_wp2_with fail
  refine (hbok.words aO lO cO (by simp)).mono ?_
  rintro e w19 ⟨rfl, ⟨vw0, hbok2⟩, hb⟩
  have HKB := Lib.hid (HKB.out.trans (hb.mono HE.out.bel.size))
  clear hbok hb
  have hbok := hbok2
  clear hbok2
  go_wp2_with fail
  refine (hbok.words aS lS cS (by simp)).mono ?_
  rintro e w20 ⟨rfl, ⟨vw1, hbok2⟩, hb⟩
  have HKB := Lib.hid (HKB.out.trans (hb.mono HE.out.bel.size))
  clear hbok hb
  have hbok := hbok2
  clear hbok2
  go_wp2_with fail
  refine (hbok.words aD lD cD (by simp)).mono ?_
  rintro e w21 ⟨rfl, ⟨vw2, hbok2⟩, hb⟩
  have HKB := Lib.hid (HKB.out.trans (hb.mono HE.out.bel.size))
  clear hbok hb
  have hbok := hbok2
  clear hbok2
  go_wp2_with fail
  refine (hbok.words aP lP cP (by simp)).mono ?_
  rintro e w22 ⟨rfl, ⟨vw3, hbok2⟩, hb⟩
  have HKB := Lib.hid (HKB.out.trans (hb.mono HE.out.bel.size))
  clear hbok hb
  have hbok := hbok2
  clear hbok2
  go_wp2_with fail
  refine (hbok.words aI lI cI (by simp)).mono ?_
  rintro e w23 ⟨rfl, ⟨vw4, hbok2⟩, hb⟩
  have HKB := Lib.hid (HKB.out.trans (hb.mono HE.out.bel.size))
  clear hbok hb
  have hbok := hbok2
  clear hbok2
  have HBK := Lib.hid hbok
  clear hbok hsep
  go_wp2_with fail
  refine (Bok.apart (WL := [rw64 (.slice aO lO cO) zO, rw64 (.slice aS lS cS) zS, rw64 (.slice aD lD cD) zD, rw64 (.slice aP lP cP) zP, rw64 (.slice aI lI cI) zI]) (BL := []) HBK.out ?_ (fun s hs => by cases hs) (by simp) (by simp)).mono ?_
  · intro s hs
    simp only [List.mem_cons, List.mem_nil_iff, or_false] at hs
    rcases hs with rfl | rfl | rfl | rfl | rfl
    · exact ⟨rfl, by show zO.length ≤ _; have h1 := HLO.out; have h2 := HZO.out; omega⟩
    · exact ⟨rfl, by show zS.length ≤ _; have h1 := HLS.out; have h2 := HZS.out; omega⟩
    · exact ⟨rfl, by show zD.length ≤ _; have h1 := HLD.out; have h2 := HZD.out; omega⟩
    · exact ⟨rfl, by show zP.length ≤ _; have h1 := HLP.out; have h2 := HZP.out; omega⟩
    · exact ⟨rfl, by show zI.length ≤ _; have h1 := HLI.out; have h2 := HZI.out; omega⟩
  rintro e w24 ⟨rfl, hb⟩
  have HKB := Lib.hid (HKB.out.trans hb)
  clear hb HBK
  go_wp2_with fail
  refine (keptWords_any a1 w.heap.size g1 l1 c1 k1 xs1 _ HL1.out (by have := HM1.out; omega) (HR1.out _ (HB3.out.trans (HKB.out.mono HB3.out.size))) (owns_below HO1.out HKB.out)).mono ?_
  rintro e w25 ⟨rfl, rfl⟩
  go_wp2_with fail
  refine (keptWords_any a2 w1.heap.size g2 l2 c2 k2 xs2 _ HL2.out (by have := HM2.out; omega) (HR2.out _ (HB3.out.trans (HKB.out.mono HB3.out.size))) (owns_below HO2.out HKB.out)).mono ?_
  rintro e w26 ⟨rfl, rfl⟩
  go_wp2_with fail
  refine (keptWords_any a3 w2.heap.size g3 l3 c3 k3 xs3 _ HL3.out (by have := HM3.out; omega) (HR3.out _ (HB3.out.trans (HKB.out.mono HB3.out.size))) (owns_below HO3.out HKB.out)).mono ?_
  rintro e w27 ⟨rfl, rfl⟩
  go_wp2_with fail
  refine (mworks_any _ (HT.out _ (HB3.out.trans (HKB.out.mono HB3.out.size)))).mono ?_
  rintro e wz ⟨rfl, hb⟩
  have HZZ := Lib.hid ((HB3.out.trans (HKB.out.mono HB3.out.size)).trans (hb.mono (HB3.out.trans (HKB.out.mono HB3.out.size)).size))
  clear hb
  go_wp2
  go_ret
  exact ⟨rfl, HZZ.out⟩
end Go.Proofs.YticncpeeeiobfaaDoor
