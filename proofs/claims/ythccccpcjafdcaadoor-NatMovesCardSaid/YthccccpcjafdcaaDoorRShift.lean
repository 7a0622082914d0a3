import Derived.Test.YthccccpcjafdcaaDoorROver
import Derived.Test.YthccccpcjafdcaaDoorShift
namespace Go.Proofs.YthccccpcjafdcaaDoor
open Go.RowKit

set_option exponentiation.threshold 10000 in
theorem bits_8192 {n k : Nat} (h : BitsIs n k) (hn : n < 18446744073709551616 ^ 128) : k ≤ 8192 := by
  rcases h with ⟨_, rfl⟩ | ⟨h0, h1, _⟩
  · decide
  · rw [pow_64] at hn
    exact Decidable.byContradiction fun hc => by
      have : (2 : Nat) ^ (64 * 128) ≤ 2 ^ (k - 1) := Nat.pow_le_pow_right (by decide) (by omega)
      omega
set_option exponentiation.threshold 10000 in
theorem bits_up {v k m : Nat} (h : v < 2 ^ k) (hm : k + m ≤ 8192) : v * 2 ^ m < 18446744073709551616 ^ 128 := by
  rw [pow_64]
  have h1 : v * 2 ^ m < 2 ^ k * 2 ^ m := Nat.mul_lt_mul_of_pos_right h (Nat.two_pow_pos _)
  rw [← Nat.pow_add] at h1
  exact Nat.lt_of_lt_of_le h1 (Nat.pow_le_pow_right (by decide) (by omega))
set_option exponentiation.threshold 10000 in
theorem bits_past {v k m : Nat} (h0 : 0 < k) (h : 2 ^ (k - 1) ≤ v) (hm : 8192 < k + m) : 18446744073709551616 ^ 128 ≤ v * 2 ^ m := by
  rw [pow_64]
  have h1 : 2 ^ (k - 1) * 2 ^ m ≤ v * 2 ^ m := Nat.mul_le_mul_right _ h
  rw [← Nat.pow_add] at h1
  exact Nat.le_trans (Nat.pow_le_pow_right (by decide) (by omega)) h1

set_option exponentiation.threshold 10000 in
set_option maxHeartbeats 1000000 in
set_option maxRecDepth 100000 in
theorem rshift_any (a : Option Addr) (la ca : Nat) (n : Int) (xs : List Nat) (w : World) (hla : xs.length = la) (hba : la ≤ 1048576) (hn1 : -9223372036854775808 ≤ n) (hn2 : n ≤ 9223372036854775807)
    (hra : Rd .u64 w a xs) (bx : Bd xs) :
    Calls Tryd.prog 11 #[.slice a la ca, .int .i64 n] w (Told (ShiftTells xs n) w) := by
  have HA := Lib.hid (fun (W : World) (h : Below w.heap.size w W) => hra.below h)
  have HLA := Lib.hid hla
  have HBX := Lib.hid bx
  go_enter Tryd.func11, Tryd.ntmps11
  go_wp2_with fail
  refine (rfits_any a la ca xs _ hla hba hra bx).mono ?_
  rintro e w1 ⟨rfl, hb1⟩
  have HB1 := Lib.hid hb1
  clear hra bx hb1 hla
  by_cases hf : fl xs ≤ 128
  · rw [decide_eq_true hf]
    have HF := Lib.hid hf
    have HLT : Hid (val xs < 18446744073709551616 ^ 128) := fits_lt HBX.out hf
    clear hf
    go_wp2_with fail
    refine (rlength_any a la ca xs _ HLA.out hba (HA.out _ HB1.out) HBX.out).mono ?_
    rintro e w2 ⟨k, rfl, hk, hb2⟩
    have HB2 := Lib.hid (HB1.out.trans (hb2.mono HB1.out.size))
    have hk8 := bits_8192 hk HLT.out
    have HK := Lib.hid hk
    clear hk hb2 HB1
    have hw1 : IntKind.i64.wrap (-(k : Int)) = -(k : Int) := by rw [IntKind.wrap_i64]; omega
    have hw2 : IntKind.i64.wrap (8192 - (k : Int)) = 8192 - (k : Int) := by rw [IntKind.wrap_i64]; omega
    by_cases hk0 : k = 0
    · subst hk0
      have hv0 : val xs = 0 := by rcases HK.out with ⟨h, _⟩ | ⟨h, _⟩; exact h; omega
      have HT : Hid (ShiftTells xs n 0 []) := by
        rcases Int.lt_or_le n 0 with hn | hn
        · exact .inr (.inl ⟨HF.out, hn, rfl, by rw [hv0, Nat.zero_div]; exact Num.nil⟩)
        · exact .inr (.inr (.inl ⟨HF.out, hn, by rw [hv0, Nat.zero_mul]; decide, rfl, by rw [hv0, Nat.zero_mul]; exact Num.nil⟩))
      clear hv0
      go_wp2
      go_ret2
      exact ⟨HB2.out, none, 0, 0, [], rfl, own64_nil _ _, by decide, HT.out⟩
    · have hq0 : ((k : Int) == 0) = false := by simp; omega
      have HKK : Hid (0 < k ∧ 2 ^ (k - 1) ≤ val xs ∧ val xs < 2 ^ k) := by
        rcases HK.out with ⟨_, h⟩ | h
        · exact absurd h hk0
        · exact h
      clear hk0
      by_cases hlow : n < 0 ∧ n ≤ -(k : Int)
      · have hd1 : decide (n < 0) = true := by rw [decide_eq_true_iff]; exact hlow.1
        have hd2 : decide (n ≤ -(k : Int)) = true := by rw [decide_eq_true_iff]; exact hlow.2
        have HT : Hid (ShiftTells xs n 0 []) := by
          refine .inr (.inl ⟨HF.out, hlow.1, rfl, ?_⟩)
          rw [Nat.div_eq_of_lt (Nat.lt_of_lt_of_le HKK.out.2.2 (Nat.pow_le_pow_right (by decide) (by omega)))]
          exact Num.nil
        clear hlow
        go_wp2
        go_ret2
        exact ⟨HB2.out, none, 0, 0, [], rfl, own64_nil _ _, by decide, HT.out⟩
      · by_cases hup : 8192 - (k : Int) < n
        · have hd1 : decide (n < 0) = false := by rw [decide_eq_false_iff_not]; omega
          have hd3 : decide (8192 - (k : Int) < n) = true := by rw [decide_eq_true_iff]; exact hup
          have HT : Hid (ShiftTells xs n 3 []) := by
            refine .inr (.inr (.inr ⟨HF.out, by omega, ?_, rfl, rfl⟩))
            exact bits_past HKK.out.1 HKK.out.2.1 (by omega)
          clear hup hlow
          go_wp2
          go_ret2
          exact ⟨HB2.out, none, 0, 3, [], rfl, own64_nil _ _, by decide, HT.out⟩
        · have hd3 : decide (8192 - (k : Int) < n) = false := by rw [decide_eq_false_iff_not]; exact hup
          by_cases hneg : n < 0
          · have hd1 : decide (n < 0) = true := by rw [decide_eq_true_iff]; exact hneg
            have hd2 : decide (n ≤ -(k : Int)) = false := by rw [decide_eq_false_iff_not]; omega
            obtain ⟨m, rfl⟩ : ∃ m : Nat, n = -(m : Int) := ⟨n.natAbs, by omega⟩
            have hm8 : m ≤ 8192 := by omega
            have hd5 : decide (k ≤ m) = false := by rw [decide_eq_false_iff_not]; omega
            have HNEG : Hid (0 < m) := by show _ < _; omega
            have hw3 : IntKind.i64.wrap (m : Int) = (m : Int) := by rw [IntKind.wrap_i64]; omega
            have hw4 : - -(m : Int) = (m : Int) := by omega
            clear hup hlow hneg hn1 hn2
            go_wp2_with fail
            refine (two_any m _ (by omega)).mono ?_
            rintro e w3 ⟨v, zs, rfl, hO3, hB3, hV3, hL3, hb3⟩
            obtain ⟨a3, c3, rfl, hr3⟩ := own64.form hO3
            obtain ⟨l3, hl3⟩ : ∃ l3, zs.length = l3 := ⟨_, rfl⟩
            have hl3b : l3 ≤ 129 := by omega
            rw [hl3] at hO3 ⊢
            have HB3 := Lib.hid (HB2.out.trans (hb3.mono HB2.out.size))
            have HR3 := Lib.hid hr3
            have HV3 := Lib.hid hV3
            have HL3 := Lib.hid hl3
            have HBD3 := Lib.hid hB3
            clear hO3 hr3 hV3 hL3 hl3 hB3 hb3
            go_wp2_with fail
            refine (rover_any a a3 la l3 ca c3 xs zs _ HLA.out HL3.out hba (by omega) (HA.out _ HB3.out) HR3.out HBX.out HBD3.out (by rw [HV3.out]; exact Nat.two_pow_pos _)).mono ?_
            rintro e w4 ⟨q, r, qs, rs, rfl, hOq, hOr, hNq, hNr, hb4⟩
            obtain ⟨aq, cq, rfl, hrq⟩ := own64.form hOq
            have HB4 := Lib.hid (HB3.out.trans (hb4.mono HB3.out.size))
            have HOQ := Lib.hid (owns_base hOq HB3.out.size)
            have HT : Hid (ShiftTells xs (-(m : Int)) 0 qs) := by
              have := HNEG.out
              refine .inr (.inl ⟨HF.out, by omega, rfl, ?_⟩)
              rw [HV3.out] at hNq
              rw [show (-(m : Int)).natAbs = m by omega]
              exact hNq
            have hql : qs.length ≤ 128 := (hNq.len_le (k := 128)).2 (Nat.lt_of_le_of_lt (Nat.div_le_self _ _) HLT.out)
            clear hOq hOr hNq hNr hb4 hrq
            go_wp2
            go_ret2
            exact ⟨HB4.out, aq, cq, 0, qs, rfl, HOQ.out, hql, HT.out⟩
          · have hd1 : decide (n < 0) = false := by rw [decide_eq_false_iff_not]; exact hneg
            obtain ⟨m, rfl⟩ : ∃ m : Nat, n = (m : Int) := ⟨n.natAbs, by omega⟩
            have hm8 : m + k ≤ 8192 := by omega
            have HM8 := Lib.hid hm8
            clear hup hlow hneg hn1 hn2
            go_wp2_with fail
            refine (two_any m _ (by omega)).mono ?_
            rintro e w3 ⟨v, zs, rfl, hO3, hB3, hV3, hL3, hb3⟩
            obtain ⟨a3, c3, rfl, hr3⟩ := own64.form hO3
            obtain ⟨l3, hl3⟩ : ∃ l3, zs.length = l3 := ⟨_, rfl⟩
            have hl3b : l3 ≤ 129 := by omega
            rw [hl3] at hO3 ⊢
            have HB3 := Lib.hid (HB2.out.trans (hb3.mono HB2.out.size))
            have HR3 := Lib.hid hr3
            have HV3 := Lib.hid hV3
            have HL3 := Lib.hid hl3
            have HBD3 := Lib.hid hB3
            clear hO3 hr3 hV3 hL3 hl3 hB3 hb3
            go_wp2_with fail
            refine (rtimes_any a a3 la l3 ca c3 xs zs _ HLA.out HL3.out hba (by omega) (HA.out _ HB3.out) HR3.out HBX.out HBD3.out).mono ?_
            rintro e w4 ⟨q, qs, rfl, hOq, hNq, hb4⟩
            obtain ⟨aq, cq, rfl, hrq⟩ := own64.form hOq
            have HB4 := Lib.hid (HB3.out.trans (hb4.mono HB3.out.size))
            have HOQ := Lib.hid (owns_base hOq HB3.out.size)
            rw [HV3.out] at hNq
            have hup : val xs * 2 ^ m < 18446744073709551616 ^ 128 := bits_up HKK.out.2.2 (by have := HM8.out; omega)
            have HT : Hid (ShiftTells xs (m : Int) 0 qs) := .inr (.inr (.inl ⟨HF.out, by omega, hup, rfl, hNq⟩))
            have hql : qs.length ≤ 128 := (hNq.len_le (k := 128)).2 hup
            clear hOq hNq hb4 hrq hup
            go_wp2
            go_ret2
            exact ⟨HB4.out, aq, cq, 0, qs, rfl, HOQ.out, hql, HT.out⟩
  · rw [decide_eq_false hf]
    have HT : Hid (ShiftTells xs n 3 []) := .inl ⟨by omega, rfl, rfl⟩
    clear hf
    go_wp2
    go_ret2
    exact ⟨HB1.out, none, 0, 3, [], rfl, own64_nil _ _, by decide, HT.out⟩
end Go.Proofs.YthccccpcjafdcaaDoor
