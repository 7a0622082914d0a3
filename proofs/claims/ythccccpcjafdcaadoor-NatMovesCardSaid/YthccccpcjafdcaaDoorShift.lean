import Derived.Test.YthccccpcjafdcaaDoorSink
namespace Go.Proofs.YthccccpcjafdcaaDoor
open Go.RowKit

/-- What a move tells. -/
def ShiftTells (xs : List Nat) (n : Int) (k : Int) (zs : List Nat) : Prop :=
  (128 < fl xs ∧ k = 3 ∧ zs = []) ∨ (fl xs ≤ 128 ∧ n < 0 ∧ k = 0 ∧ Num zs (val xs / 2 ^ n.natAbs)) ∨
  (fl xs ≤ 128 ∧ 0 ≤ n ∧ val xs * 2 ^ n.natAbs < 18446744073709551616 ^ 128 ∧ k = 0 ∧ Num zs (val xs * 2 ^ n.natAbs)) ∨
  (fl xs ≤ 128 ∧ 0 ≤ n ∧ 18446744073709551616 ^ 128 ≤ val xs * 2 ^ n.natAbs ∧ k = 3 ∧ zs = [])
theorem ShiftTells.one {xs : List Nat} {n k k' : Int} {zs zs' : List Nat} (h : ShiftTells xs n k zs) (h' : ShiftTells xs n k' zs') : k = k' ∧ zs = zs' := by
  rcases h with ⟨h1, rfl, rfl⟩ | ⟨h1, h2, rfl, h3⟩ | ⟨h1, h2, h3, rfl, h4⟩ | ⟨h1, h2, h3, rfl, rfl⟩ <;>
  rcases h' with ⟨g1, rfl, rfl⟩ | ⟨g1, g2, rfl, g3⟩ | ⟨g1, g2, g3, rfl, g4⟩ | ⟨g1, g2, g3, rfl, rfl⟩ <;>
  first | exact ⟨rfl, rfl⟩ | (exfalso; omega) | exact ⟨rfl, h3.unique g3⟩ | exact ⟨rfl, h4.unique g4⟩
theorem fits_lt {xs : List Nat} (bx : Bd xs) (h : fl xs ≤ 128) : val xs < 18446744073709551616 ^ 128 := by
  rw [← fm_val xs]
  exact (fm_val xs ▸ (num_fm bx)).len_le.1 (by rw [fm_length]; exact h)

set_option exponentiation.threshold 10000 in
set_option maxHeartbeats 1000000 in
set_option maxRecDepth 100000 in
theorem shift_any (a : Option Addr) (la ca : Nat) (n : Int) (xs : List Nat) (w : World) (hla : xs.length = la) (hba : la ≤ 1048576) (hca : la ≤ ca) (hna : a = none → ca = 0) (hn1 : -9223372036854775808 ≤ n) (hn2 : n ≤ 9223372036854775807)
    (hra : Rd .u64 w a xs) (bx : Bd xs) :
    Calls Tryd.prog 8 #[.slice a la ca, .int .i64 n] w (Told (ShiftTells xs n) w) := by
  go_enter Tryd.func8, Tryd.ntmps8
  go_wp2_with fail
  refine (one_any a la ca xs _ hla (by omega) hca hra).mono ?_
  rintro e w1 ⟨hor, rfl⟩
  rcases hor with ⟨h1, a', c', rfl, g1, g2⟩ | ⟨h1, rfl⟩
  · have fa : FormOf a ca (fl xs) a' c' := ⟨g1, g2⟩
    have hfa := (fl_spec xs).1
    have hra' := fa.rd hra hfa
    have hca' := (fa.cap hca (by omega)).1
    have hna' : Hid (a' = none → c' = 0) := fun h => ((fa.cap hca (by omega)).2 h).elim id (fun h2 => by
      rcases Nat.eq_zero_or_pos (fl xs) with h0 | hp
      · exact (fa.2 h0).2
      · rw [(fa.1 hp).2]; exact hna h2)
    have V1 : Hid (val (xs.take (fl xs)) = val xs) := fm_val xs
    have e1 : Hid ((xs.take (fl xs)).length = fl xs) := fm_length xs
    have F1 : Hid (fl (xs.take (fl xs)) = fl xs) := by show fl (fm xs) = fl xs; rw [fl_of_cn (fm_cn xs), fm_length]
    have NN : Hid (Num (xs.take (fl xs)) (val xs)) := num_fm bx
    have LT : Hid (val xs < 18446744073709551616 ^ 128) := fits_lt bx h1
    clear fa g1 g2 hra hna
    by_cases h0 : fl xs = 0
    · have hq : ((fl xs : Int) == 0) = true := by simp; omega
      have hz : val xs = 0 := by rw [← V1.out, h0]; rfl
      have HT : Hid (ShiftTells xs n 0 []) := by
        rcases Int.lt_or_le n 0 with hn | hn
        · exact .inr (.inl ⟨h1, hn, rfl, by rw [hz, Nat.zero_div]; exact Num.nil⟩)
        · exact .inr (.inr (.inl ⟨h1, hn, by rw [hz, Nat.zero_mul]; decide, rfl, by rw [hz, Nat.zero_mul]; exact Num.nil⟩))
      clear h0 hz
      go_wp2
      go_ret2
      exact ⟨Below.refl _ _, none, 0, 0, [], rfl, own64_nil _ _, by decide, HT.out⟩
    have hq : ((fl xs : Int) == 0) = false := by simp; omega
    have H0 := Lib.hid h0
    clear h0
    by_cases hbot : n ≤ -8192
    · have HT : Hid (ShiftTells xs n 0 []) := by
        refine .inr (.inl ⟨h1, by omega, rfl, ?_⟩)
        rw [Nat.div_eq_of_lt]
        · exact Num.nil
        · refine Nat.lt_of_lt_of_le LT.out ?_
          rw [pow_64]
          exact Nat.pow_le_pow_right (by decide) (by omega)
      have hq2 : decide (n ≤ -8192) = true := by rw [decide_eq_true_iff]; exact hbot
      go_wp2
      go_ret2
      exact ⟨Below.refl _ _, none, 0, 0, [], rfl, own64_nil _ _, by decide, HT.out⟩
    have hq2 : decide (n ≤ -8192) = false := by rw [decide_eq_false_iff_not]; exact hbot
    by_cases hneg : n < 0
    · obtain ⟨m, rfl⟩ : ∃ m : Nat, n = -(m : Int) := ⟨n.natAbs, by omega⟩
      have hm : m < 8192 := by omega
      have hq3 : decide (-(m : Int) < 0) = true := by rw [decide_eq_true_iff]; exact hneg
      have rneg : - -(m : Int) = (m : Int) := by omega
      have hmp : 0 < m := by omega
      have HNA : Hid ((-(m : Int)).natAbs = m) := by show _ = _; omega
      have HNG := Lib.hid hneg
      clear hneg hbot
      go_wp2_with fail
      refine (copied_any a' (fl xs) c' (xs.take (fl xs)) _ e1.out (by omega) (fun _ h => hna'.out h) hra').mono ?_
      rintro e w2 ⟨v, rfl, hown, hbl, _⟩
      obtain ⟨av, cv, rfl, hrv⟩ := own64.form hown
      have HO := Lib.hid hown
      clear hown hrv
      rw [e1.out]
      go_wp2_with fail
      have hs := sink_any av (fl xs) cv (m / 64) (m % 64) w.heap.size (xs.take (fl xs)) w2 e1.out (by omega) (by omega) (by omega) (bx.take _) (by have := HO.out; rw [e1.out] at this; exact this)
      rw [Nat.div_add_mod, V1.out] at hs
      refine hs.mono ?_
      rintro e w3 ⟨v, zs, rfl, ho, hnum, hb3⟩
      obtain ⟨az, cz, rfl, _⟩ := own64.form ho
      have HO3 := Lib.hid ho
      have HN3 := Lib.hid hnum
      clear ho hnum
      go_wp2
      go_ret2
      refine ⟨hbl.trans hb3, az, cz, 0, zs, rfl, HO3.out, HN3.out.len_le.2 (Nat.lt_of_le_of_lt (Nat.div_le_self _ _) LT.out), .inr (.inl ⟨h1, HNG.out, rfl, by rw [HNA.out]; exact HN3.out⟩)⟩
    obtain ⟨m, rfl⟩ : ∃ m : Nat, n = (m : Int) := ⟨n.natAbs, by omega⟩
    have hq3 : decide ((m : Int) < 0) = false := by rw [decide_eq_false_iff_not]; exact hneg
    have HNA : Hid ((m : Int).natAbs = m) := by show _ = _; omega
    have HNG : Hid ((0 : Int) ≤ (m : Int)) := by show (0 : Int) ≤ _; omega
    clear hneg hbot
    go_wp2_with fail
    refine (bits_any a' (fl xs) c' (xs.take (fl xs)) _ e1.out (by omega) hca' hra' (bx.take _)).mono ?_
    rintro e w2 ⟨⟨kb, rfl, hkb, hkb2⟩, rfl⟩
    rw [V1.out] at hkb
    rw [F1.out] at hkb2
    have HKB : Hid (0 < kb ∧ 2 ^ (kb - 1) ≤ val xs ∧ val xs < 2 ^ kb) := by
      rcases hkb with ⟨hz, _⟩ | h
      · exfalso
        have h2 := NN.out
        rw [hz] at h2
        have h3 := Num.unique h2 Num.nil
        have h4 := e1.out
        rw [h3] at h4
        exact H0.out h4.symm
      · exact h
    clear hkb
    by_cases hbig : 8192 < m + kb
    · have hq4 : decide ((8192 : Int) - (kb : Int) < (m : Int)) = true := by rw [decide_eq_true_iff]; omega
      have HT : Hid (ShiftTells xs m 3 []) := by
        refine .inr (.inr (.inr ⟨h1, HNG.out, ?_, rfl, rfl⟩))
        rw [HNA.out, pow_64]
        have h2 := Nat.mul_le_mul_right (2 ^ m) HKB.out.2.1
        rw [← Nat.pow_add] at h2
        exact Nat.le_trans (Nat.pow_le_pow_right (by decide) (by have := HKB.out.1; omega)) h2
      go_wp2
      go_ret2
      exact ⟨Below.refl _ _, none, 0, 3, [], rfl, own64_nil _ _, by decide, HT.out⟩
    · have hq4 : decide ((8192 : Int) - (kb : Int) < (m : Int)) = false := by rw [decide_eq_false_iff_not]; omega
      have hm : m ≤ 8192 := by omega
      have HLT : Hid (val xs * 2 ^ m < 18446744073709551616 ^ 128) := by
        show _ < _
        rw [pow_64]
        have h2 := Nat.mul_lt_mul_of_pos_right HKB.out.2.2 (Nat.two_pow_pos m)
        rw [← Nat.pow_add] at h2
        exact Nat.lt_of_lt_of_le h2 (Nat.pow_le_pow_right (by decide) (by omega))
      clear hbig
      go_wp2_with fail
      have hs := lift_any a' (fl xs) c' (m / 64) (m % 64) (xs.take (fl xs)) w e1.out (by omega) (by omega) (by omega) hra' (bx.take _)
      rw [Nat.div_add_mod, V1.out] at hs
      refine hs.mono ?_
      rintro e w3 ⟨v, ws, rfl, ho, hwl, hwb, hwv, hb3⟩
      obtain ⟨az, cz, rfl, hrz⟩ := own64.form ho
      have hroom := (own64.room ho).1
      have HO3 := Lib.hid ho
      have HWB := Lib.hid hwb
      have HWV := Lib.hid hwv
      have hwl2 : ws.length ≤ 1048576 := by omega
      clear ho hwb hwv hwl
      go_wp2_with fail
      refine (form_any az ws.length cz ws _ rfl (by omega) hroom hrz).mono ?_
      rintro e w4 ⟨⟨az', cz', rfl, k1, k2⟩, rfl⟩
      have K1 := Lib.hid k1
      have K2 := Lib.hid k2
      clear k1 k2 hrz
      go_wp2
      go_ret2
      have hnum := num_fm HWB.out
      rw [HWV.out] at hnum
      have hown := own64_take HO3.out (fl_spec ws).1 K1.out K2.out
      refine ⟨hb3, az', cz', 0, fm ws, by rw [fm_length]; rfl, by rw [fm_length]; exact hown, hnum.len_le.2 HLT.out, .inr (.inr (.inl ⟨h1, HNG.out, by rw [HNA.out]; exact HLT.out, rfl, by rw [HNA.out]; exact hnum⟩))⟩
  · go_wp2
    go_ret2
    exact ⟨Below.refl _ _, none, 0, 3, [], rfl, own64_nil _ _, by decide, .inl ⟨h1, rfl, rfl⟩⟩
end Go.Proofs.YthccccpcjafdcaaDoor
