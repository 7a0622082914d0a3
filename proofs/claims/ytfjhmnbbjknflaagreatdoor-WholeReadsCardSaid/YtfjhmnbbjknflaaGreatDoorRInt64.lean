import Derived.Test.YtfjhmnbbjknflaaGreatDoorRw
namespace Go.Proofs.YtfjhmnbbjknflaaGreatDoor
open Go.RowKit

/-- Is it an int64? -/
def Is64 (Z : Int) : Prop := -9223372036854775808 ≤ Z ∧ Z ≤ 9223372036854775807
instance (Z : Int) : Decidable (Is64 Z) := by unfold Is64; infer_instance

set_option maxHeartbeats 2000000 in
set_option maxRecDepth 100000 in
theorem r2int64_any (n : Bool) (a : Option Addr) (la ca : Nat) (xs : List Nat) (w : World) (hla : xs.length = la) (hba : la ≤ 1048576) (hra : Rd .u64 w a xs) (bx : Bd xs) :
    Calls Tryz.prog 30 #[.agg #[.bool n, .slice a la ca]] w fun e w' => e = .returned (.tuple #[.int .i64 (if Is64 (wv n xs) then wv n xs else 0), .bool (decide (Is64 (wv n xs)))]) ∧ Below w.heap.size w w' := by
  have HBX := Lib.hid bx
  have HA := Lib.hid (fun (W : World) (h : Below w.heap.size w W) => hra.below h)
  clear hra bx
  obtain ⟨Z, hZ⟩ : ∃ Z, wv n xs = Z := ⟨_, rfl⟩
  rw [hZ]
  have HZE := Lib.hid hZ
  clear hZ
  obtain ⟨rr, hrr⟩ : ∃ r, (if Is64 Z then Z else 0) = r := ⟨_, rfl⟩
  obtain ⟨qq, hqq⟩ : ∃ q, decide (Is64 Z) = q := ⟨_, rfl⟩
  rw [hrr, hqq]
  have HRR := Lib.hid hrr
  have HQQ := Lib.hid hqq
  clear hrr hqq
  go_enter Tryz.func30, Tryz.ntmps30
  have HB0 := Lib.hid (show Below w.heap.size w (w.alloc (WO n a la ca)) from (Below.refl _ _).alloc (Nat.le_refl _) _)
  go_wp2_with fail
  refine (r2form_any n a la ca xs _ hla hba (HA.out _ HB0.out) HBX.out).mono ?_
  rw [HZE.out]
  rintro e w2 ⟨hb2, a2, c2, qs, rfl, hO, hN⟩
  obtain ⟨s, hs⟩ : ∃ s, decide (Z < 0) = s := ⟨_, rfl⟩
  rw [hs]
  have HS := Lib.hid hs
  have HB2 := Lib.hid (HB0.out.trans (hb2.mono HB0.out.size))
  have HB3 := Lib.hid (HB2.out.alloc HB2.out.size (.cells #[.bool s, .slice a2 qs.length c2] 24))
  have hrd := (own64.rd hO).2.alloc (.cells #[.bool s, .slice a2 qs.length c2] 24)
  clear hO hb2 hs
  rcases qs with _ | ⟨x, _ | ⟨y, rest⟩⟩
  · have h0 : Z = 0 := by have := hN.vl; simp [val] at this; omega
    have HP : Hid (rr = 0 ∧ qq = true) := by
      show _ ∧ _
      rw [← HRR.out, ← HQQ.out, h0, if_pos (by decide), decide_eq_true (show Is64 0 by decide)]
      exact ⟨rfl, rfl⟩
    clear hN hrd h0
    go_wp2
    go_ret2
    exact ⟨by rw [HP.out.1, HP.out.2]; rfl, HB3.out⟩
  · have hx : x = Z.natAbs := by have := hN.vl; rwa [val_one] at this
    have hxb : x < 18446744073709551616 := by have := hN.bd.at0 0; simpa [at0] using this
    have hx0 : 0 < x := by
      have h : ¬ Z.natAbs < 18446744073709551616 ^ 0 := fun h => by have := (hN.len_le (k := 0)).2 h; simp at this
      rw [Nat.pow_zero] at h
      omega
    obtain ⟨ba, oa, rfl⟩ := hrd.isAt (by simp)
    have hc := hrd.cell (i := 0) (by simp)
    rw [Nat.add_zero, show at0 [x] 0 = x from rfl] at hc
    clear hN hrd
    simp only [List.length_cons, List.length_nil, Nat.zero_add] at hc ⊢
    cases s
    · have hz : Z = (x : Int) := by have := of_decide_eq_false HS.out; omega
      by_cases hbig : 9223372036854775807 < x
      · have HP : Hid (rr = 0 ∧ qq = false) := by
          have h : ¬ Is64 Z := by unfold Is64; omega
          show _ ∧ _
          rw [← HRR.out, ← HQQ.out, if_neg h, decide_eq_false h]
          exact ⟨rfl, rfl⟩
        have hq1 : decide ((x : Int) > 9223372036854775807) = true := by rw [decide_eq_true_iff]; omega
        have hq2 : decide (9223372036854775807 < x) = true := by rw [decide_eq_true_iff]; omega
        have hq3 : decide ((9223372036854775807 : Int) < (x : Int)) = true := by rw [decide_eq_true_iff]; omega
        clear hz hx hbig hx0
        go_wp2
        go_ret2
        exact ⟨by rw [HP.out.1, HP.out.2]; rfl, HB3.out⟩
      · have HP : Hid (rr = (x : Int) ∧ qq = true) := by
          have h : Is64 Z := by unfold Is64; omega
          show _ ∧ _
          rw [← HRR.out, ← HQQ.out, if_pos h, decide_eq_true h]
          exact ⟨hz, rfl⟩
        have hq1 : decide ((x : Int) > 9223372036854775807) = false := by rw [decide_eq_false_iff_not]; omega
        have hq2 : decide (9223372036854775807 < x) = false := by rw [decide_eq_false_iff_not]; omega
        have hq3 : decide ((9223372036854775807 : Int) < (x : Int)) = false := by rw [decide_eq_false_iff_not]; omega
        have hq4 : decide ((9223372036854775808 : Int) < (x : Int)) = false := by rw [decide_eq_false_iff_not]; omega
        have hq5 : decide (9223372036854775808 < x) = false := by rw [decide_eq_false_iff_not]; omega
        have hw : IntKind.i64.wrap (x : Int) = (x : Int) := by rw [IntKind.wrap_i64]; omega
        clear hz hx hbig hx0
        go_wp2
        go_ret2
        exact ⟨by rw [HP.out.1, HP.out.2]; rfl, HB3.out⟩
    · have hz : Z = -(x : Int) := by have := of_decide_eq_true HS.out; omega
      by_cases hbig : 9223372036854775808 < x
      · have HP : Hid (rr = 0 ∧ qq = false) := by
          have h : ¬ Is64 Z := by unfold Is64; omega
          show _ ∧ _
          rw [← HRR.out, ← HQQ.out, if_neg h, decide_eq_false h]
          exact ⟨rfl, rfl⟩
        have hq2 : decide (9223372036854775808 < x) = true := by rw [decide_eq_true_iff]; omega
        have hq3 : decide ((9223372036854775808 : Int) < (x : Int)) = true := by rw [decide_eq_true_iff]; omega
        clear hz hx hbig hx0
        go_wp2
        go_ret2
        exact ⟨by rw [HP.out.1, HP.out.2]; rfl, HB3.out⟩
      · have HP : Hid (rr = (-(x : Int)) ∧ qq = true) := by
          have h : Is64 Z := by unfold Is64; omega
          show _ ∧ _
          rw [← HRR.out, ← HQQ.out, if_pos h, decide_eq_true h]
          exact ⟨hz, rfl⟩
        have hq2 : decide (9223372036854775808 < x) = false := by rw [decide_eq_false_iff_not]; omega
        have hq3 : decide ((9223372036854775808 : Int) < (x : Int)) = false := by rw [decide_eq_false_iff_not]; omega
        obtain ⟨u, hu⟩ : ∃ u : Nat, u = 18446744073709551616 - x := ⟨_, rfl⟩
        have hw1 : IntKind.u64.wrap (-(x : Int)) = (u : Int) := by simp [IntKind.wrap, IntKind.signed, IntKind.bits]; omega
        have hw2 : IntKind.i64.wrap (u : Int) = -(x : Int) := by simp [IntKind.wrap, IntKind.signed, IntKind.bits]; omega
        have hw3 : IntKind.i64.wrap (-(x : Int)) = -(x : Int) := by rw [IntKind.wrap_i64]; omega
        clear hz hx hbig hx0 hu
        go_wp2
        go_ret2
        exact ⟨by rw [HP.out.1, HP.out.2]; rfl, HB3.out⟩
  · have hl : 18446744073709551616 ≤ Z.natAbs := by
      have h : ¬ Z.natAbs < 18446744073709551616 ^ 1 := fun h => by have := (hN.len_le (k := 1)).2 h; simp at this
      rw [Nat.pow_one] at h
      omega
    have HP : Hid (rr = 0 ∧ qq = false) := by
      have h : ¬ Is64 Z := by unfold Is64; omega
      show _ ∧ _
      rw [← HRR.out, ← HQQ.out, if_neg h, decide_eq_false h]
      exact ⟨rfl, rfl⟩
    obtain ⟨l, hl2⟩ : ∃ l, (x :: y :: rest).length = l := ⟨_, rfl⟩
    have hl3 : 1 < l := by rw [← hl2]; simp
    rw [hl2] at HB3 ⊢
    have hq0 : ((l : Int) == 0) = false := by simp; omega
    have hq1 : decide ((1 : Int) < (l : Int)) = true := by rw [decide_eq_true_iff]; omega
    have hq2 : decide (1 < l) = true := by rw [decide_eq_true_iff]; omega
    clear hN hrd hl hl2 hl3
    go_wp2
    go_ret2
    exact ⟨by rw [HP.out.1, HP.out.2]; rfl, HB3.out⟩
end Go.Proofs.YtfjhmnbbjknflaaGreatDoor
