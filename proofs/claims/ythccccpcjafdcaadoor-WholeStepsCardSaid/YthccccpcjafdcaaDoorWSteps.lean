import Derived.Test.YthccccpcjafdcaaDoorWPowS
namespace Go.Proofs.YthccccpcjafdcaaDoor
open Go.RowKit

set_option maxHeartbeats 16000000 in
set_option maxRecDepth 100000 in
theorem wholesteps_any (nx : Bool) (ax : Option Addr) (lx cx : Nat) (xsx : List Nat) (zm zn : Int) (hm1 : -9223372036854775808 ≤ zm) (hm2 : zm ≤ 9223372036854775807) (hn1 : -9223372036854775808 ≤ zn) (hn2 : zn ≤ 9223372036854775807) (w : World) (hlx : xsx.length = lx) (hbx : lx ≤ 9223372036854775807) (hrx : Rd .u64 w ax xsx) (bxx : Bd xsx) (ht : Tabs w) (hts : TabSum w) (hT : Trig w) :
    Calls Tryd.prog 6 #[.agg #[.bool nx, .slice ax lx cx], .int .i64 zm, .int .i64 zn] w fun e w' => e = .returned (.bool true) ∧ Below w.heap.size w w' := by
  have HT := Lib.hid (fun (W : World) (h : Below w.heap.size w W) => ht.below h)
  have HTS := Lib.hid (fun (W : World) (h : Below w.heap.size w W) => hts.below h)
  have HTR := Lib.hid (fun (W : World) (h : Below w.heap.size w W) => hT.below h)
  have HS0 : Hid (∀ (L : List (Value × Int)) (GG : List (Nat × Bool × Option Addr × Nat × Nat)) (W : World) (_ : St w L GG W), Calls Tryd.prog 21 #[.agg #[.bool nx, .slice ax lx cx], .int .i64 2] W fun e W' => SV w L GG (SW nx xsx 2) e W') := (fun L GG W h => s_some h nx ax lx cx 2 xsx hlx hbx (by decide) (hrx.below h.bel) bxx)
  have HL0 := Lib.hid (bt_sw nx xsx 2 bxx)
  have HLM0 := Lib.hid (sw_lim nx xsx 2 bxx (by decide))
  have HI0 : Hid (∀ (W : World) (_ : Below w.heap.size w W), Calls Tryd.prog 21 #[.agg #[.bool nx, .slice ax lx cx], .int .i64 2] W (IPost (SW nx xsx 2) W)) := (fun W h => wsome_any nx ax lx cx 2 xsx W hlx hbx (by decide) (hrx.below h) bxx)
  clear ht hts hT hlx hbx hrx bxx
  generalize SW nx xsx 2 = Zx at *
  go_enter Tryd.func6, Tryd.ntmps6
  have HE := Lib.hid ((St.init w).new (w.heap.size) rfl nx ax lx cx)
  go_wp2_with fail
  refine (HS0.out _ _ _ HE.out).mono ?_
  rintro e w1 ⟨nA, aA, lA, cA, rfl, hS⟩
  have HE := Lib.hid hS
  clear hS
  have HE := Lib.hid (HE.out.new (w1.heap.size) rfl nA aA lA cA)
  go_wp2_with fail
  generalize hWk : (w1.alloc (Obj.cells #[.bool nA, .slice aA lA cA] 44)) = W2 at *
  clear hWk
  generalize w1.heap.size = gA at *
  refine (pick21_any zm _ hm1 hm2).mono ?_
  rintro e wX ⟨m, rfl, hm, rfl⟩
  go_wp2_with fail
  refine (pick21_any zn _ hn1 hn2).mono ?_
  rintro e wX ⟨n, rfl, hn, rfl⟩
  clear hm1 hm2 hn1 hn2
  go_wp2_with fail
  refine (s_int HE.out _ (by omega) (by omega)).mono ?_
  rintro e w3 ⟨nI, aI, lI, cI, rfl, hS⟩
  have HE := Lib.hid hS
  clear hS
  go_wp2_with fail
  refine (s_int HE.out _ (by omega) (by omega)).mono ?_
  rintro e w4 ⟨nK, aK, lK, cK, rfl, hS⟩
  have HE := Lib.hid hS
  clear hS
  have HLP := Lib.hid (Bt.lim (HL0.out.pow m) (by omega))
  have HLQ := Lib.hid (Bt.lim (HL0.out.pow n) (by omega))
  have HMN : Hid (m ≤ 20 ∧ n ≤ 20) := ⟨by omega, by omega⟩
  have HE := Lib.hid ((HE.out.new (w4.heap.size) rfl nI aI lI cI).new (w4.heap.size + 1) (by simp) nK aK lK cK)
  obtain ⟨xA0, xA1, -, -⟩ := HE.out.cells (g := gA) (n := nA) (a := aA) (l := lA) (c := cA) (by repeat first | exact List.mem_cons_self | apply List.mem_cons_of_mem)
  obtain ⟨xI0, xI1, -, -⟩ := HE.out.cells (g := (w4.heap.size)) (n := nI) (a := aI) (l := lI) (c := cI) (by repeat first | exact List.mem_cons_self | apply List.mem_cons_of_mem)
  go_wp2_with fail
  generalize hWk : ((w4.alloc (Obj.cells #[.bool nI, .slice aI lI cI] 44)).alloc (Obj.cells #[.bool nK, .slice aK lK cK] 44)) = W5 at *
  clear hWk
  generalize w4.heap.size = gI at *
  refine (s_powF (v1 := .agg #[.bool nA, .slice aA lA cA]) (v2 := .agg #[.bool nI, .slice aI lI cI]) HE.out (HT.out _ HE.out.bel) (HTR.out _ HE.out.bel) (by repeat first | exact List.mem_cons_self | apply List.mem_cons_of_mem) (by repeat first | exact List.mem_cons_self | apply List.mem_cons_of_mem) m rfl HLP.out).mono ?_
  rintro e w6 ⟨nP, aP, lP, cP, rfl, hS⟩
  clear xA0 xA1 xI0 xI1
  have HE := Lib.hid hS
  clear hS
  have HE := Lib.hid (HE.out.new (w6.heap.size) rfl nP aP lP cP)
  obtain ⟨xA0, xA1, -, -⟩ := HE.out.cells (g := gA) (n := nA) (a := aA) (l := lA) (c := cA) (by repeat first | exact List.mem_cons_self | apply List.mem_cons_of_mem)
  obtain ⟨xK0, xK1, -, -⟩ := HE.out.cells (g := (gI + 1)) (n := nK) (a := aK) (l := lK) (c := cK) (by repeat first | exact List.mem_cons_self | apply List.mem_cons_of_mem)
  go_wp2_with fail
  generalize hWk : (w6.alloc (Obj.cells #[.bool nP, .slice aP lP cP] 44)) = W7 at *
  clear hWk
  generalize w6.heap.size = gP at *
  refine (s_powF (v1 := .agg #[.bool nA, .slice aA lA cA]) (v2 := .agg #[.bool nK, .slice aK lK cK]) HE.out (HT.out _ HE.out.bel) (HTR.out _ HE.out.bel) (by repeat first | exact List.mem_cons_self | apply List.mem_cons_of_mem) (by repeat first | exact List.mem_cons_self | apply List.mem_cons_of_mem) n rfl HLQ.out).mono ?_
  rintro e w8 ⟨nQ, aQ, lQ, cQ, rfl, hS⟩
  clear xA0 xA1 xK0 xK1
  have HE := Lib.hid hS
  clear hS
  obtain ⟨X1, hX1⟩ : ∃ X, Zx ^ (m + n) = X := ⟨_, rfl⟩
  obtain ⟨K1, hK1⟩ : ∃ K, pk X1 = K := ⟨_, rfl⟩
  obtain ⟨X2, hX2⟩ : ∃ X, Zx ^ (m * n) = X := ⟨_, rfl⟩
  obtain ⟨K2, hK2⟩ : ∃ K, pk X2 = K := ⟨_, rfl⟩
  have HX1 := Lib.hid hX1
  have HK1 := Lib.hid hK1
  have HX2 := Lib.hid hX2
  have HK2 := Lib.hid hK2
  clear hX1 hK1 hX2 hK2
  have HSL : Hid (((m : Int) + (n : Int)).natAbs < LIM) := lim_one (by omega)
  have HPL : Hid (((m : Int) * (n : Int)).natAbs < LIM) := lim_one (by rw [Int.natAbs_mul, Int.natAbs_natCast, Int.natAbs_natCast]; exact Nat.lt_of_le_of_lt (Nat.mul_le_mul HMN.out.1 HMN.out.2) (by decide))
  have HE := Lib.hid (HE.out.new (w8.heap.size) rfl nQ aQ lQ cQ)
  go_upto_region 6 with fail
  generalize hWk : (w8.alloc (Obj.cells #[.bool nQ, .slice aQ lQ cQ] 44)) = W9 at *
  clear hWk
  generalize w8.heap.size = gQ at *
  go_cut [14, 15] (fun s14 s15 wx => ∃ (gR : Nat) (nR : Bool) (aR : Option Addr) (lR cR : Nat), s14 = .pointer (some ⟨gR, 0, none⟩) ∧ s15 = .int .i64 K1 ∧ Hid (St w [(.agg #[.bool nR, .slice aR lR cR], pz X1), (.agg #[.bool nA, .slice aA lA cA], Zx), (.agg #[.bool nI, .slice aI lI cI], (m : Int)), (.agg #[.bool nK, .slice aK lK cK], (n : Int)), (.agg #[.bool nP, .slice aP lP cP], Zx ^ m), (.agg #[.bool nQ, .slice aQ lQ cQ], Zx ^ n)] [(gR, nR, aR, lR, cR), (gA, nA, aA, lA, cA), (gI, nI, aI, lI, cI), ((gI + 1), nK, aK, lK, cK), (gP, nP, aP, lP, cP), (gQ, nQ, aQ, lQ, cQ)] wx))
  case first =>
    have HE0 := HE
    have HE := Lib.hid HE.out.drew
    go_region_held3 (fun W => W.cell? ⟨gA, 0, none⟩ = some (.bool nA) ∧ W.cell? ⟨gA, 1, none⟩ = some (.slice aA lA cA) ∧ W.cell? ⟨gI, 0, none⟩ = some (.bool nI) ∧ W.cell? ⟨gI, 1, none⟩ = some (.slice aI lI cI) ∧ W.cell? ⟨(gI + 1), 0, none⟩ = some (.bool nK) ∧ W.cell? ⟨(gI + 1), 1, none⟩ = some (.slice aK lK cK))
      (first | exact ⟨(HE.out.cells (g := gA) (n := nA) (a := aA) (l := lA) (c := cA) (by repeat first | exact List.mem_cons_self | apply List.mem_cons_of_mem)).1, (HE.out.cells (g := gA) (n := nA) (a := aA) (l := lA) (c := cA) (by repeat first | exact List.mem_cons_self | apply List.mem_cons_of_mem)).2.1, (HE.out.cells (g := gI) (n := nI) (a := aI) (l := lI) (c := cI) (by repeat first | exact List.mem_cons_self | apply List.mem_cons_of_mem)).1, (HE.out.cells (g := gI) (n := nI) (a := aI) (l := lI) (c := cI) (by repeat first | exact List.mem_cons_self | apply List.mem_cons_of_mem)).2.1, (HE.out.cells (g := (gI + 1)) (n := nK) (a := aK) (l := lK) (c := cK) (by repeat first | exact List.mem_cons_self | apply List.mem_cons_of_mem)).1, (HE.out.cells (g := (gI + 1)) (n := nK) (a := aK) (l := lK) (c := cK) (by repeat first | exact List.mem_cons_self | apply List.mem_cons_of_mem)).2.1⟩ | exact ⟨((HE.out.alloc _).cells (g := gA) (n := nA) (a := aA) (l := lA) (c := cA) (by repeat first | exact List.mem_cons_self | apply List.mem_cons_of_mem)).1, ((HE.out.alloc _).cells (g := gA) (n := nA) (a := aA) (l := lA) (c := cA) (by repeat first | exact List.mem_cons_self | apply List.mem_cons_of_mem)).2.1, ((HE.out.alloc _).cells (g := gI) (n := nI) (a := aI) (l := lI) (c := cI) (by repeat first | exact List.mem_cons_self | apply List.mem_cons_of_mem)).1, ((HE.out.alloc _).cells (g := gI) (n := nI) (a := aI) (l := lI) (c := cI) (by repeat first | exact List.mem_cons_self | apply List.mem_cons_of_mem)).2.1, ((HE.out.alloc _).cells (g := (gI + 1)) (n := nK) (a := aK) (l := lK) (c := cK) (by repeat first | exact List.mem_cons_self | apply List.mem_cons_of_mem)).1, ((HE.out.alloc _).cells (g := (gI + 1)) (n := nK) (a := aK) (l := lK) (c := cK) (by repeat first | exact List.mem_cons_self | apply List.mem_cons_of_mem)).2.1⟩ | exact ⟨((HE0.out.alloc _).drew.cells (g := gA) (n := nA) (a := aA) (l := lA) (c := cA) (by repeat first | exact List.mem_cons_self | apply List.mem_cons_of_mem)).1, ((HE0.out.alloc _).drew.cells (g := gA) (n := nA) (a := aA) (l := lA) (c := cA) (by repeat first | exact List.mem_cons_self | apply List.mem_cons_of_mem)).2.1, ((HE0.out.alloc _).drew.cells (g := gI) (n := nI) (a := aI) (l := lI) (c := cI) (by repeat first | exact List.mem_cons_self | apply List.mem_cons_of_mem)).1, ((HE0.out.alloc _).drew.cells (g := gI) (n := nI) (a := aI) (l := lI) (c := cI) (by repeat first | exact List.mem_cons_self | apply List.mem_cons_of_mem)).2.1, ((HE0.out.alloc _).drew.cells (g := (gI + 1)) (n := nK) (a := aK) (l := lK) (c := cK) (by repeat first | exact List.mem_cons_self | apply List.mem_cons_of_mem)).1, ((HE0.out.alloc _).drew.cells (g := (gI + 1)) (n := nK) (a := aK) (l := lK) (c := cK) (by repeat first | exact List.mem_cons_self | apply List.mem_cons_of_mem)).2.1⟩ | exact ⟨((HE.out.set HNE.out.1 HNE.out.2 _ _ _ _).cells (g := gA) (n := nA) (a := aA) (l := lA) (c := cA) (by repeat first | exact List.mem_cons_self | apply List.mem_cons_of_mem)).1, ((HE.out.set HNE.out.1 HNE.out.2 _ _ _ _).cells (g := gA) (n := nA) (a := aA) (l := lA) (c := cA) (by repeat first | exact List.mem_cons_self | apply List.mem_cons_of_mem)).2.1, ((HE.out.set HNE.out.1 HNE.out.2 _ _ _ _).cells (g := gI) (n := nI) (a := aI) (l := lI) (c := cI) (by repeat first | exact List.mem_cons_self | apply List.mem_cons_of_mem)).1, ((HE.out.set HNE.out.1 HNE.out.2 _ _ _ _).cells (g := gI) (n := nI) (a := aI) (l := lI) (c := cI) (by repeat first | exact List.mem_cons_self | apply List.mem_cons_of_mem)).2.1, ((HE.out.set HNE.out.1 HNE.out.2 _ _ _ _).cells (g := (gI + 1)) (n := nK) (a := aK) (l := lK) (c := cK) (by repeat first | exact List.mem_cons_self | apply List.mem_cons_of_mem)).1, ((HE.out.set HNE.out.1 HNE.out.2 _ _ _ _).cells (g := (gI + 1)) (n := nK) (a := aK) (l := lK) (c := cK) (by repeat first | exact List.mem_cons_self | apply List.mem_cons_of_mem)).2.1⟩)
      (first
      | (go_at_call 23; (first | (with_reducible refine (s_sum HE.out (HTS.out _ HE.out.bel) (by repeat first | exact List.mem_cons_self | apply List.mem_cons_of_mem) (by repeat first | exact List.mem_cons_self | apply List.mem_cons_of_mem) HSL.out).mono ?_) | (have HNE := Lib.hid HE.out.fresh; have HE := Lib.hid (HE.out.new _ rfl false none 0 0); (with_reducible refine (s_sum HE.out (HTS.out _ HE.out.bel) (by repeat first | exact List.mem_cons_self | apply List.mem_cons_of_mem) (by repeat first | exact List.mem_cons_self | apply List.mem_cons_of_mem) HSL.out).mono ?_)) | (have HNE := Lib.hid HE0.out.fresh; have HE := Lib.hid (HE0.out.new _ rfl false none 0 0).drew; (with_reducible refine (s_sum HE.out (HTS.out _ HE.out.bel) (by repeat first | exact List.mem_cons_self | apply List.mem_cons_of_mem) (by repeat first | exact List.mem_cons_self | apply List.mem_cons_of_mem) HSL.out).mono ?_)))
         rintro e wZZ ⟨nZZ, aZZ, lZZ, cZZ, rfl, hS⟩
         have HE := Lib.hid hS
         clear hS
         obtain ⟨z0, z1, z2, z3⟩ := HE.out.top)
      | (go_at_call 34; (first | (with_reducible refine (s_powE HE.out (HT.out _ HE.out.bel) (HTR.out _ HE.out.bel) (by repeat first | exact List.mem_cons_self | apply List.mem_cons_of_mem) (by repeat first | exact List.mem_cons_self | apply List.mem_cons_of_mem) (m + n) (by omega) HX1.out HK1.out).mono ?_) | (have HNE := Lib.hid HE.out.fresh; have HE := Lib.hid (HE.out.new _ rfl false none 0 0); (with_reducible refine (s_powE HE.out (HT.out _ HE.out.bel) (HTR.out _ HE.out.bel) (by repeat first | exact List.mem_cons_self | apply List.mem_cons_of_mem) (by repeat first | exact List.mem_cons_self | apply List.mem_cons_of_mem) (m + n) (by omega) HX1.out HK1.out).mono ?_)) | (have HNE := Lib.hid HE0.out.fresh; have HE := Lib.hid (HE0.out.new _ rfl false none 0 0).drew; (with_reducible refine (s_powE HE.out (HT.out _ HE.out.bel) (HTR.out _ HE.out.bel) (by repeat first | exact List.mem_cons_self | apply List.mem_cons_of_mem) (by repeat first | exact List.mem_cons_self | apply List.mem_cons_of_mem) (m + n) (by omega) HX1.out HK1.out).mono ?_)))
         rintro e wZZ ⟨nR, aR, lR, cR, rfl, hS⟩
         have HE := Lib.hid hS
         clear hS
         obtain ⟨z0, z1, z2, z3⟩ := HE.out.top))
    all_goals (go_wp2_with fail; go_meet; (try case rel => skip); first | exact ⟨_, nR, aR, lR, cR, rfl, rfl, St.sub (HE.out.new _ rfl nR aR lR cR) (fun p hp => by simp only [List.mem_cons, List.mem_nil_iff, or_false] at hp ⊢; rcases hp with h | h | h | h | h | h <;> simp [h]) (fun p hp => by simp only [List.mem_cons, List.mem_nil_iff, or_false] at hp ⊢; rcases hp with h | h | h | h | h | h <;> simp [h])⟩ | exact ⟨_, nR, aR, lR, cR, rfl, rfl, St.sub (HE.out.set HNE.out.1 HNE.out.2 nR aR lR cR) (fun p hp => by simp only [List.mem_cons, List.mem_nil_iff, or_false] at hp ⊢; rcases hp with h | h | h | h | h | h <;> simp [h]) (fun p hp => by simp only [List.mem_cons, List.mem_nil_iff, or_false] at hp ⊢; rcases hp with h | h | h | h | h | h <;> simp [h])⟩)
  case rest =>
    obtain ⟨gR, nR, aR, lR, cR, rfl, rfl, HE⟩ := hcut
    obtain ⟨xP0, xP1, -, -⟩ := HE.out.cells (g := gP) (n := nP) (a := aP) (l := lP) (c := cP) (by repeat first | exact List.mem_cons_self | apply List.mem_cons_of_mem)
    obtain ⟨xK0, xK1, -, -⟩ := HE.out.cells (g := (gI + 1)) (n := nK) (a := aK) (l := lK) (c := cK) (by repeat first | exact List.mem_cons_self | apply List.mem_cons_of_mem)
    go_wp2_with fail
    refine (s_powE (v1 := .agg #[.bool nP, .slice aP lP cP]) (v2 := .agg #[.bool nK, .slice aK lK cK]) HE.out (HT.out _ HE.out.bel) (HTR.out _ HE.out.bel) (by repeat first | exact List.mem_cons_self | apply List.mem_cons_of_mem) (by repeat first | exact List.mem_cons_self | apply List.mem_cons_of_mem) n rfl ((Int.pow_mul ..).symm.trans HX2.out) HK2.out).mono ?_
    rintro e w10 ⟨nS, aS, lS, cS, rfl, hS⟩
    clear xP0 xP1 xK0 xK1
    have HE := Lib.hid hS
    clear hS
    have HE := Lib.hid (HE.out.new (w10.heap.size) rfl nS aS lS cS)
    go_upto_region 8 with fail
    generalize hWk : (w10.alloc (Obj.cells #[.bool nS, .slice aS lS cS] 44)) = W11 at *
    clear hWk
    generalize w10.heap.size = gS at *
    go_cut [18, 19] (fun s18 s19 wx => ∃ (gT : Nat) (nT : Bool) (aT : Option Addr) (lT cT : Nat), s18 = .pointer (some ⟨gT, 0, none⟩) ∧ s19 = .int .i64 K2 ∧ Hid (St w [(.agg #[.bool nT, .slice aT lT cT], pz X2), (.agg #[.bool nA, .slice aA lA cA], Zx), (.agg #[.bool nI, .slice aI lI cI], (m : Int)), (.agg #[.bool nK, .slice aK lK cK], (n : Int)), (.agg #[.bool nP, .slice aP lP cP], Zx ^ m), (.agg #[.bool nQ, .slice aQ lQ cQ], Zx ^ n), (.agg #[.bool nR, .slice aR lR cR], pz X1), (.agg #[.bool nS, .slice aS lS cS], pz X2)] [(gT, nT, aT, lT, cT), (gA, nA, aA, lA, cA), (gI, nI, aI, lI, cI), ((gI + 1), nK, aK, lK, cK), (gP, nP, aP, lP, cP), (gQ, nQ, aQ, lQ, cQ), (gR, nR, aR, lR, cR), (gS, nS, aS, lS, cS)] wx))
    case first =>
      have HE0 := HE
      have HE := Lib.hid HE.out.drew
      go_region_held3 (fun W => W.cell? ⟨gA, 0, none⟩ = some (.bool nA) ∧ W.cell? ⟨gA, 1, none⟩ = some (.slice aA lA cA) ∧ W.cell? ⟨gI, 0, none⟩ = some (.bool nI) ∧ W.cell? ⟨gI, 1, none⟩ = some (.slice aI lI cI) ∧ W.cell? ⟨(gI + 1), 0, none⟩ = some (.bool nK) ∧ W.cell? ⟨(gI + 1), 1, none⟩ = some (.slice aK lK cK))
        (first | exact ⟨(HE.out.cells (g := gA) (n := nA) (a := aA) (l := lA) (c := cA) (by repeat first | exact List.mem_cons_self | apply List.mem_cons_of_mem)).1, (HE.out.cells (g := gA) (n := nA) (a := aA) (l := lA) (c := cA) (by repeat first | exact List.mem_cons_self | apply List.mem_cons_of_mem)).2.1, (HE.out.cells (g := gI) (n := nI) (a := aI) (l := lI) (c := cI) (by repeat first | exact List.mem_cons_self | apply List.mem_cons_of_mem)).1, (HE.out.cells (g := gI) (n := nI) (a := aI) (l := lI) (c := cI) (by repeat first | exact List.mem_cons_self | apply List.mem_cons_of_mem)).2.1, (HE.out.cells (g := (gI + 1)) (n := nK) (a := aK) (l := lK) (c := cK) (by repeat first | exact List.mem_cons_self | apply List.mem_cons_of_mem)).1, (HE.out.cells (g := (gI + 1)) (n := nK) (a := aK) (l := lK) (c := cK) (by repeat first | exact List.mem_cons_self | apply List.mem_cons_of_mem)).2.1⟩ | exact ⟨((HE.out.alloc _).cells (g := gA) (n := nA) (a := aA) (l := lA) (c := cA) (by repeat first | exact List.mem_cons_self | apply List.mem_cons_of_mem)).1, ((HE.out.alloc _).cells (g := gA) (n := nA) (a := aA) (l := lA) (c := cA) (by repeat first | exact List.mem_cons_self | apply List.mem_cons_of_mem)).2.1, ((HE.out.alloc _).cells (g := gI) (n := nI) (a := aI) (l := lI) (c := cI) (by repeat first | exact List.mem_cons_self | apply List.mem_cons_of_mem)).1, ((HE.out.alloc _).cells (g := gI) (n := nI) (a := aI) (l := lI) (c := cI) (by repeat first | exact List.mem_cons_self | apply List.mem_cons_of_mem)).2.1, ((HE.out.alloc _).cells (g := (gI + 1)) (n := nK) (a := aK) (l := lK) (c := cK) (by repeat first | exact List.mem_cons_self | apply List.mem_cons_of_mem)).1, ((HE.out.alloc _).cells (g := (gI + 1)) (n := nK) (a := aK) (l := lK) (c := cK) (by repeat first | exact List.mem_cons_self | apply List.mem_cons_of_mem)).2.1⟩ | exact ⟨((HE0.out.alloc _).drew.cells (g := gA) (n := nA) (a := aA) (l := lA) (c := cA) (by repeat first | exact List.mem_cons_self | apply List.mem_cons_of_mem)).1, ((HE0.out.alloc _).drew.cells (g := gA) (n := nA) (a := aA) (l := lA) (c := cA) (by repeat first | exact List.mem_cons_self | apply List.mem_cons_of_mem)).2.1, ((HE0.out.alloc _).drew.cells (g := gI) (n := nI) (a := aI) (l := lI) (c := cI) (by repeat first | exact List.mem_cons_self | apply List.mem_cons_of_mem)).1, ((HE0.out.alloc _).drew.cells (g := gI) (n := nI) (a := aI) (l := lI) (c := cI) (by repeat first | exact List.mem_cons_self | apply List.mem_cons_of_mem)).2.1, ((HE0.out.alloc _).drew.cells (g := (gI + 1)) (n := nK) (a := aK) (l := lK) (c := cK) (by repeat first | exact List.mem_cons_self | apply List.mem_cons_of_mem)).1, ((HE0.out.alloc _).drew.cells (g := (gI + 1)) (n := nK) (a := aK) (l := lK) (c := cK) (by repeat first | exact List.mem_cons_self | apply List.mem_cons_of_mem)).2.1⟩ | exact ⟨((HE.out.set HNE.out.1 HNE.out.2 _ _ _ _).cells (g := gA) (n := nA) (a := aA) (l := lA) (c := cA) (by repeat first | exact List.mem_cons_self | apply List.mem_cons_of_mem)).1, ((HE.out.set HNE.out.1 HNE.out.2 _ _ _ _).cells (g := gA) (n := nA) (a := aA) (l := lA) (c := cA) (by repeat first | exact List.mem_cons_self | apply List.mem_cons_of_mem)).2.1, ((HE.out.set HNE.out.1 HNE.out.2 _ _ _ _).cells (g := gI) (n := nI) (a := aI) (l := lI) (c := cI) (by repeat first | exact List.mem_cons_self | apply List.mem_cons_of_mem)).1, ((HE.out.set HNE.out.1 HNE.out.2 _ _ _ _).cells (g := gI) (n := nI) (a := aI) (l := lI) (c := cI) (by repeat first | exact List.mem_cons_self | apply List.mem_cons_of_mem)).2.1, ((HE.out.set HNE.out.1 HNE.out.2 _ _ _ _).cells (g := (gI + 1)) (n := nK) (a := aK) (l := lK) (c := cK) (by repeat first | exact List.mem_cons_self | apply List.mem_cons_of_mem)).1, ((HE.out.set HNE.out.1 HNE.out.2 _ _ _ _).cells (g := (gI + 1)) (n := nK) (a := aK) (l := lK) (c := cK) (by repeat first | exact List.mem_cons_self | apply List.mem_cons_of_mem)).2.1⟩)
        (first
        | (go_at_call 27; (first | (with_reducible refine (s_product HE.out (HT.out _ HE.out.bel) (HTR.out _ HE.out.bel) (by repeat first | exact List.mem_cons_self | apply List.mem_cons_of_mem) (by repeat first | exact List.mem_cons_self | apply List.mem_cons_of_mem) HPL.out).mono ?_) | (have HNE := Lib.hid HE.out.fresh; have HE := Lib.hid (HE.out.new _ rfl false none 0 0); (with_reducible refine (s_product HE.out (HT.out _ HE.out.bel) (HTR.out _ HE.out.bel) (by repeat first | exact List.mem_cons_self | apply List.mem_cons_of_mem) (by repeat first | exact List.mem_cons_self | apply List.mem_cons_of_mem) HPL.out).mono ?_)) | (have HNE := Lib.hid HE0.out.fresh; have HE := Lib.hid (HE0.out.new _ rfl false none 0 0).drew; (with_reducible refine (s_product HE.out (HT.out _ HE.out.bel) (HTR.out _ HE.out.bel) (by repeat first | exact List.mem_cons_self | apply List.mem_cons_of_mem) (by repeat first | exact List.mem_cons_self | apply List.mem_cons_of_mem) HPL.out).mono ?_)))
           rintro e wZZ ⟨nZZ, aZZ, lZZ, cZZ, rfl, hS⟩
           have HE := Lib.hid hS
           clear hS
           obtain ⟨z0, z1, z2, z3⟩ := HE.out.top)
        | (go_at_call 34; (first | (with_reducible refine (s_powE HE.out (HT.out _ HE.out.bel) (HTR.out _ HE.out.bel) (by repeat first | exact List.mem_cons_self | apply List.mem_cons_of_mem) (by repeat first | exact List.mem_cons_self | apply List.mem_cons_of_mem) (m * n) (by rw [Int.natCast_mul]) HX2.out HK2.out).mono ?_) | (have HNE := Lib.hid HE.out.fresh; have HE := Lib.hid (HE.out.new _ rfl false none 0 0); (with_reducible refine (s_powE HE.out (HT.out _ HE.out.bel) (HTR.out _ HE.out.bel) (by repeat first | exact List.mem_cons_self | apply List.mem_cons_of_mem) (by repeat first | exact List.mem_cons_self | apply List.mem_cons_of_mem) (m * n) (by rw [Int.natCast_mul]) HX2.out HK2.out).mono ?_)) | (have HNE := Lib.hid HE0.out.fresh; have HE := Lib.hid (HE0.out.new _ rfl false none 0 0).drew; (with_reducible refine (s_powE HE.out (HT.out _ HE.out.bel) (HTR.out _ HE.out.bel) (by repeat first | exact List.mem_cons_self | apply List.mem_cons_of_mem) (by repeat first | exact List.mem_cons_self | apply List.mem_cons_of_mem) (m * n) (by rw [Int.natCast_mul]) HX2.out HK2.out).mono ?_)))
           rintro e wZZ ⟨nT, aT, lT, cT, rfl, hS⟩
           have HE := Lib.hid hS
           clear hS
           obtain ⟨z0, z1, z2, z3⟩ := HE.out.top))
      all_goals (go_wp2_with fail; go_meet; (try case rel => skip); first | exact ⟨_, nT, aT, lT, cT, rfl, rfl, St.sub (HE.out.new _ rfl nT aT lT cT) (fun p hp => by simp only [List.mem_cons, List.mem_nil_iff, or_false] at hp ⊢; rcases hp with h | h | h | h | h | h | h | h <;> simp [h]) (fun p hp => by simp only [List.mem_cons, List.mem_nil_iff, or_false] at hp ⊢; rcases hp with h | h | h | h | h | h | h | h <;> simp [h])⟩ | exact ⟨_, nT, aT, lT, cT, rfl, rfl, St.sub (HE.out.set HNE.out.1 HNE.out.2 nT aT lT cT) (fun p hp => by simp only [List.mem_cons, List.mem_nil_iff, or_false] at hp ⊢; rcases hp with h | h | h | h | h | h | h | h <;> simp [h]) (fun p hp => by simp only [List.mem_cons, List.mem_nil_iff, or_false] at hp ⊢; rcases hp with h | h | h | h | h | h | h | h <;> simp [h])⟩)
    case rest =>
      obtain ⟨gT, nT, aT, lT, cT, rfl, rfl, HE⟩ := hcut
      obtain ⟨xP0, xP1, -, -⟩ := HE.out.cells (g := gP) (n := nP) (a := aP) (l := lP) (c := cP) (by repeat first | exact List.mem_cons_self | apply List.mem_cons_of_mem)
      obtain ⟨xQ0, xQ1, -, -⟩ := HE.out.cells (g := gQ) (n := nQ) (a := aQ) (l := lQ) (c := cQ) (by repeat first | exact List.mem_cons_self | apply List.mem_cons_of_mem)
      go_wp2_with fail
      refine (s_mulE (v1 := .agg #[.bool nP, .slice aP lP cP]) (v2 := .agg #[.bool nQ, .slice aQ lQ cQ]) HE.out (HT.out _ HE.out.bel) (HTR.out _ HE.out.bel) (by repeat first | exact List.mem_cons_self | apply List.mem_cons_of_mem) (by repeat first | exact List.mem_cons_self | apply List.mem_cons_of_mem) ((Int.pow_add ..).symm.trans HX1.out) HK1.out).mono ?_
      rintro e w12 ⟨nU, aU, lU, cU, rfl, hS⟩
      clear xP0 xP1 xQ0 xQ1
      have HE := Lib.hid hS
      clear hS
      have hkk1 : (K1 != K1) = false := by simp
      have hkk2 : (K2 != K2) = false := by simp
      have HE := Lib.hid (HE.out.new (w12.heap.size) rfl nU aU lU cU)
      obtain ⟨xR0, xR1, -, -⟩ := HE.out.cells (g := gR) (n := nR) (a := aR) (l := lR) (c := cR) (by repeat first | exact List.mem_cons_self | apply List.mem_cons_of_mem)
      obtain ⟨xU0, xU1, -, -⟩ := HE.out.cells (g := (w12.heap.size)) (n := nU) (a := aU) (l := lU) (c := cU) (by repeat first | exact List.mem_cons_self | apply List.mem_cons_of_mem)
      go_wp2_with fail
      generalize hWk : (w12.alloc (Obj.cells #[.bool nU, .slice aU lU cU] 44)) = W13 at *
      clear hWk
      generalize w12.heap.size = gU at *
      refine (s_sameT (v1 := .agg #[.bool nR, .slice aR lR cR]) (v2 := .agg #[.bool nU, .slice aU lU cU]) HE.out (by repeat first | exact List.mem_cons_self | apply List.mem_cons_of_mem) (by repeat first | exact List.mem_cons_self | apply List.mem_cons_of_mem) rfl).mono ?_
      rintro e w14 ⟨rfl, hS⟩
      clear xR0 xR1 xU0 xU1
      have HE := Lib.hid hS
      clear hS
      obtain ⟨xS0, xS1, -, -⟩ := HE.out.cells (g := gS) (n := nS) (a := aS) (l := lS) (c := cS) (by repeat first | exact List.mem_cons_self | apply List.mem_cons_of_mem)
      obtain ⟨xT0, xT1, -, -⟩ := HE.out.cells (g := gT) (n := nT) (a := aT) (l := lT) (c := cT) (by repeat first | exact List.mem_cons_self | apply List.mem_cons_of_mem)
      go_wp2_with fail
      refine (s_sameT (v1 := .agg #[.bool nS, .slice aS lS cS]) (v2 := .agg #[.bool nT, .slice aT lT cT]) HE.out (by repeat first | exact List.mem_cons_self | apply List.mem_cons_of_mem) (by repeat first | exact List.mem_cons_self | apply List.mem_cons_of_mem) rfl).mono ?_
      rintro e w15 ⟨rfl, hS⟩
      clear xS0 xS1 xT0 xT1
      have HE := Lib.hid hS
      clear hS
      go_upto_region 12 with fail
      have hws : IntKind.i64.wrap (-1 - (m : Int)) = -1 - (m : Int) := by rw [IntKind.wrap_i64]; omega
      go_cut [22, 23] (fun s22 s23 wx => ∃ (gV : Nat) (nV : Bool) (aV : Option Addr) (lV cV : Nat), s22 = .pointer (some ⟨gV, 0, none⟩) ∧ s23 = .int .i64 20 ∧ Hid (St w [(.agg #[.bool nV, .slice aV lV cV], 0), (.agg #[.bool nA, .slice aA lA cA], Zx)] [(gV, nV, aV, lV, cV), (gA, nA, aA, lA, cA)] wx))
      case first =>
        have HE0 := HE
        have HE := Lib.hid HE.out.drew
        go_region_held3 (fun W => W.cell? ⟨gA, 0, none⟩ = some (.bool nA) ∧ W.cell? ⟨gA, 1, none⟩ = some (.slice aA lA cA))
          (first | exact ⟨(HE.out.cells (g := gA) (n := nA) (a := aA) (l := lA) (c := cA) (by repeat first | exact List.mem_cons_self | apply List.mem_cons_of_mem)).1, (HE.out.cells (g := gA) (n := nA) (a := aA) (l := lA) (c := cA) (by repeat first | exact List.mem_cons_self | apply List.mem_cons_of_mem)).2.1⟩ | exact ⟨((HE.out.alloc _).cells (g := gA) (n := nA) (a := aA) (l := lA) (c := cA) (by repeat first | exact List.mem_cons_self | apply List.mem_cons_of_mem)).1, ((HE.out.alloc _).cells (g := gA) (n := nA) (a := aA) (l := lA) (c := cA) (by repeat first | exact List.mem_cons_self | apply List.mem_cons_of_mem)).2.1⟩ | exact ⟨((HE0.out.alloc _).drew.cells (g := gA) (n := nA) (a := aA) (l := lA) (c := cA) (by repeat first | exact List.mem_cons_self | apply List.mem_cons_of_mem)).1, ((HE0.out.alloc _).drew.cells (g := gA) (n := nA) (a := aA) (l := lA) (c := cA) (by repeat first | exact List.mem_cons_self | apply List.mem_cons_of_mem)).2.1⟩ | exact ⟨((HE.out.set HNE.out.1 HNE.out.2 _ _ _ _).cells (g := gA) (n := nA) (a := aA) (l := lA) (c := cA) (by repeat first | exact List.mem_cons_self | apply List.mem_cons_of_mem)).1, ((HE.out.set HNE.out.1 HNE.out.2 _ _ _ _).cells (g := gA) (n := nA) (a := aA) (l := lA) (c := cA) (by repeat first | exact List.mem_cons_self | apply List.mem_cons_of_mem)).2.1⟩)
          (first
          | (go_at_call 33; (first | (with_reducible refine (s_int HE.out _ (by omega) (by omega)).mono ?_) | (have HNE := Lib.hid HE.out.fresh; have HE := Lib.hid (HE.out.new _ rfl false none 0 0); (with_reducible refine (s_int HE.out _ (by omega) (by omega)).mono ?_)) | (have HNE := Lib.hid HE0.out.fresh; have HE := Lib.hid (HE0.out.new _ rfl false none 0 0).drew; (with_reducible refine (s_int HE.out _ (by omega) (by omega)).mono ?_)))
             rintro e wZZ ⟨nZZ, aZZ, lZZ, cZZ, rfl, hS⟩
             have HE := Lib.hid hS
             clear hS
             obtain ⟨z0, z1, z2, z3⟩ := HE.out.top)
          | (go_at_call 34; (first | (with_reducible refine (s_powB HE.out (HT.out _ HE.out.bel) (HTR.out _ HE.out.bel) (by repeat first | exact List.mem_cons_self | apply List.mem_cons_of_mem) (by repeat first | exact List.mem_cons_self | apply List.mem_cons_of_mem) (by omega)).mono ?_) | (have HNE := Lib.hid HE.out.fresh; have HE := Lib.hid (HE.out.new _ rfl false none 0 0); (with_reducible refine (s_powB HE.out (HT.out _ HE.out.bel) (HTR.out _ HE.out.bel) (by repeat first | exact List.mem_cons_self | apply List.mem_cons_of_mem) (by repeat first | exact List.mem_cons_self | apply List.mem_cons_of_mem) (by omega)).mono ?_)) | (have HNE := Lib.hid HE0.out.fresh; have HE := Lib.hid (HE0.out.new _ rfl false none 0 0).drew; (with_reducible refine (s_powB HE.out (HT.out _ HE.out.bel) (HTR.out _ HE.out.bel) (by repeat first | exact List.mem_cons_self | apply List.mem_cons_of_mem) (by repeat first | exact List.mem_cons_self | apply List.mem_cons_of_mem) (by omega)).mono ?_)))
             rintro e wZZ ⟨nV, aV, lV, cV, rfl, hS⟩
             have HE := Lib.hid hS
             clear hS
             obtain ⟨z0, z1, z2, z3⟩ := HE.out.top))
        all_goals (go_wp2_with fail; go_meet; (try case rel => skip); first | exact ⟨_, nV, aV, lV, cV, rfl, rfl, St.sub (HE.out.new _ rfl nV aV lV cV) (fun p hp => by simp only [List.mem_cons, List.mem_nil_iff, or_false] at hp ⊢; rcases hp with h | h <;> simp [h]) (fun p hp => by simp only [List.mem_cons, List.mem_nil_iff, or_false] at hp ⊢; rcases hp with h | h <;> simp [h])⟩ | exact ⟨_, nV, aV, lV, cV, rfl, rfl, St.sub (HE.out.set HNE.out.1 HNE.out.2 nV aV lV cV) (fun p hp => by simp only [List.mem_cons, List.mem_nil_iff, or_false] at hp ⊢; rcases hp with h | h <;> simp [h]) (fun p hp => by simp only [List.mem_cons, List.mem_nil_iff, or_false] at hp ⊢; rcases hp with h | h <;> simp [h])⟩)
      case rest =>
        obtain ⟨gV, nV, aV, lV, cV, rfl, rfl, HE⟩ := hcut
        have HE := Lib.hid (HE.out.push (isw_zero _ _))
        obtain ⟨xV0, xV1, -, -⟩ := HE.out.cells (g := gV) (n := nV) (a := aV) (l := lV) (c := cV) (by repeat first | exact List.mem_cons_self | apply List.mem_cons_of_mem)
        go_wp2_with fail
        refine (s_sameT (v1 := .agg #[.bool nV, .slice aV lV cV]) (v2 := .agg #[.bool false, .slice none 0 0]) HE.out (by repeat first | exact List.mem_cons_self | apply List.mem_cons_of_mem) (by repeat first | exact List.mem_cons_self | apply List.mem_cons_of_mem) rfl).mono ?_
        rintro e w16 ⟨rfl, hS⟩
        clear xV0 xV1
        have HE := Lib.hid hS
        clear hS
        go_wp2_with fail
        refine (s_works HE.out (HT.out _ HE.out.bel)).mono ?_
        rintro e w17 ⟨rfl, hS⟩
        have HE := Lib.hid hS
        clear hS
        go_wp2
        go_ret
        exact ⟨rfl, HE.out.bel⟩
end Go.Proofs.YthccccpcjafdcaaDoor
