import Derived.Test.YtkghgfiindpcjaaDeQ
namespace Go.Proofs.Ytkghgfiindpcjaa
open Go.RowKit

/-! The reference: the item at a place. -/
theorem i64_or_natural (a b : Nat) (ha : a < 9223372036854775808) (hb : b < 9223372036854775808) : bits BinOp.or IntKind.i64 (a : Int) (b : Int) = ((a ||| b : Nat) : Int) := by
  have h1 : (BitVec.ofInt 64 (a : Int)).toNat = a := by
    rw [BitVec.ofInt_natCast, BitVec.toNat_ofNat]; exact Nat.mod_eq_of_lt (by omega)
  have h2 : (BitVec.ofInt 64 (b : Int)).toNat = b := by
    rw [BitVec.ofInt_natCast, BitVec.toNat_ofNat]; exact Nat.mod_eq_of_lt (by omega)
  show IntKind.i64.wrap ((BitVec.ofInt 64 (a : Int) ||| BitVec.ofInt 64 (b : Int)).toNat : Int) = _
  rw [BitVec.toNat_or, h1, h2]
  have h3 : a ||| b < 2 ^ 63 := Nat.or_lt_two_pow (by omega) (by omega)
  rw [IntKind.wrap_i64]
  omega
theorem i64_joinD (x y k : Nat) (hk : k ≤ 32) (hy : y < 2 ^ k) (hx : x * 2 ^ k < 9223372036854775808) : bits BinOp.or IntKind.i64 ((x * 2 ^ k : Nat) : Int) (y : Int) = ((x * 2 ^ k + y : Nat) : Int) := by
  have h2 : (2 : Nat) ^ k ≤ 2 ^ 32 := Nat.pow_le_pow_right (by decide) hk
  rw [i64_or_natural _ _ hx (by omega), nat_joinB k _ _ hy]
def RItPost (b : List Nat) (i : Int × Nat × Nat × Nat) (w : World) (e : Ending) (w' : World) : Prop :=
  w = w' ∧ ∃ (k : Int) (t f o : Nat), i = (k, t, f, o) ∧ e = .returned (.tuple #[.int .u8 (t : Nat), .int .i64 (f : Nat), .int .i64 (o : Nat), .int .i64 k])

set_option maxHeartbeats 1600000 in
set_option maxRecDepth 100000 in
theorem ritem_any (a : Option Addr) (len cap : Nat) (b : List Nat) (at' : Int) (w : World) (hl : b.length = len) (hbig : len ≤ 1099511627776) (h8 : B8 b) (hr : Rd .u8 w a b) (ha1 : -9223372036854775808 ≤ at') (ha2 : at' ≤ 9223372036854775807) :
    Calls Try.prog 13 #[.slice a len cap, .int .i64 at'] w (RItPost b (itemI b at') w) := by
  have HL := Lib.hid hl
  have HR := Lib.hid hr
  have H8 := Lib.hid h8
  unfold RItPost
  clear hl hr h8
  by_cases h0 : at' < 0 ∨ (len : Int) < at'
  · have HP : Hid (itemI b at' = (2, 0, 0, 0)) := by show _ = _; rw [itemI, if_pos (by rw [HL.out]; exact h0)]
    have hor : decide (at' < 0) = true ∨ (decide (at' < 0) = false ∧ decide ((len : Int) < at') = true) := by
      by_cases h1 : at' < 0
      · exact .inl (decide_eq_true h1)
      · exact .inr ⟨decide_eq_false h1, decide_eq_true (by omega)⟩
    clear h0
    rcases hor with g1 | ⟨g1, g2⟩
    all_goals
      go_enter Try.func13, Try.ntmps13
      go_wp2
      refine bodyPost_ret (results_tmp4 rfl _ _ _) rfl ?_
      exact ⟨rfl, _, _, _, _, HP.out, rfl⟩
  · obtain ⟨n, rfl⟩ : ∃ n : Nat, at' = (n : Int) := ⟨at'.toNat, by omega⟩
    have hn : n ≤ len := by omega
    have g1 : decide ((n : Int) < 0) = false := decide_eq_false (by omega)
    have g2 : decide (len < n) = false := decide_eq_false (by omega)
    rw [itemI_in (show n ≤ b.length by rw [HL.out]; exact hn)]
    clear h0
    by_cases h1 : len < n + 2
    · have HP : Hid (itemA b n = (70, 0, 0, 0)) := itemA_short (by rw [HL.out]; exact h1)
      have g3 : decide ((len : Int) - (n : Int) < 2) = true := decide_eq_true (by omega)
      clear h1
      go_enter Try.func13, Try.ntmps13
      go_wp2
      refine bodyPost_ret (results_tmp4 rfl _ _ _) rfl ?_
      exact ⟨rfl, _, _, _, _, HP.out, rfl⟩
    · have g3 : decide ((len : Int) - (n : Int) < 2) = false := decide_eq_false (by omega)
      have HI := Lib.hid (itemA_len (b := b) (a := n) (by rw [HL.out]; omega))
      have hn2 : n + 2 ≤ len := by omega
      clear h1
      obtain ⟨bb, off, rfl, hc⟩ := HR.out.get (by rw [HL.out]; omega)
      obtain ⟨T, hT⟩ : ∃ T, T = at0 b n := ⟨_, rfl⟩
      obtain ⟨x, hx⟩ : ∃ x, x = at0 b (n + 1) := ⟨_, rfl⟩
      obtain ⟨r, hrr⟩ : ∃ r, r = b.drop (n + 2) := ⟨_, rfl⟩
      have hcT : w.cell? ⟨bb, off + n, none⟩ = some (.int .u8 (T : Nat)) := by rw [hT]; exact hc n (by rw [HL.out]; omega)
      have hcx : w.cell? ⟨bb, off + (n + 1), none⟩ = some (.int .u8 (x : Nat)) := by rw [hx]; exact hc (n + 1) (by rw [HL.out]; omega)
      have hd : b.drop (n + 1) = x :: r := by rw [hx, hrr, List.drop_eq_getElem_cons (by rw [HL.out]; omega), at0_getElem (by rw [HL.out]; omega)]
      have hx8 : x < 256 := by rw [hx]; exact H8.out.at0 _
      have hrl : r.length = len - (n + 2) := by rw [hrr, List.length_drop, HL.out]
      have hI := HI.out
      rw [hd, HL.out, ← hT] at hI
      have HI := Lib.hid hI
      have HC := Lib.hid hc
      have HRR := Lib.hid hrr
      have HRL := Lib.hid hrl
      clear hI hT hx hrr hd hrl hc
      by_cases h2 : x < 128
      · have hI := HI.out
        rw [show len0 (x :: r) = (0, x, 1) by rw [len0, if_pos h2]] at hI
        simp only [ne_eq, not_true_eq_false, if_false] at hI
        have HI := Lib.hid hI
        have q1 : ((x : Int) == 128) = false := by simp; omega
        have q2 : decide ((132 : Int) < (x : Int)) = false := decide_eq_false (by omega)
        have q3 : decide ((128 : Int) < (x : Int)) = false := decide_eq_false (by omega)
        clear hI
        by_cases h3 : len - (n + 1 + 1) < x
        · have HP : Hid (itemA b n = (70, 0, 0, 0)) := by show _ = _; rw [HI.out, if_pos h3]
          have q4 : decide ((len : Int) - ((n : Int) + 2) < (x : Int)) = true := decide_eq_true (by omega)
          clear h2 h3
          go_enter Try.func13, Try.ntmps13
          go_wp2
          refine bodyPost_ret (results_tmp4 rfl _ _ _) rfl ?_
          exact ⟨rfl, _, _, _, _, HP.out, rfl⟩
        · have HP : Hid (itemA b n = (0, T, n + 1 + 1, n + 1 + 1 + x)) := by show _ = _; rw [HI.out, if_neg h3]
          have q4 : decide ((len : Int) - ((n : Int) + 2) < (x : Int)) = false := decide_eq_false (by omega)
          clear h2 h3
          go_enter Try.func13, Try.ntmps13
          go_wp2
          refine bodyPost_ret (results_tmp4 rfl _ _ _) rfl ?_
          exact ⟨rfl, _, _, _, _, HP.out, by rw [show ((n + 1 + 1 : Nat) : Int) = (n : Int) + 2 by omega, show ((n + 1 + 1 + x : Nat) : Int) = (n : Int) + 2 + (x : Int) by omega]; rfl⟩
      · by_cases h3 : x = 128 ∨ 132 < x
        · have HP : Hid (itemA b n = (72, 0, 0, 0)) := by
            have hI := HI.out
            rw [show len0 (x :: r) = (72, 0, 0) by rw [len0, if_neg h2, if_pos h3]] at hI
            exact hI
          have hor : ((x : Int) == 128) = true ∨ (((x : Int) == 128) = false ∧ decide ((132 : Int) < (x : Int)) = true) := by
            by_cases h4 : x = 128
            · exact .inl (by simp [h4])
            · exact .inr ⟨by simp; omega, decide_eq_true (by omega)⟩
          clear h3 h2
          rcases hor with q1 | ⟨q1, q2⟩
          all_goals
            go_enter Try.func13, Try.ntmps13
            go_wp2
            refine bodyPost_ret (results_tmp4 rfl _ _ _) rfl ?_
            exact ⟨rfl, _, _, _, _, HP.out, rfl⟩
        · have q1 : ((x : Int) == 128) = false := by simp; omega
          have q2 : decide ((132 : Int) < (x : Int)) = false := decide_eq_false (by omega)
          have q3 : decide ((128 : Int) < (x : Int)) = true := decide_eq_true (by omega)
          obtain ⟨K, hK⟩ : ∃ K, K = x - 128 := ⟨_, rfl⟩
          have hK1 : (x : Int) - 128 = (K : Int) := by omega
          have hK4 : K ≤ 4 := by omega
          have hK1' : 1 ≤ K := by omega
          by_cases h4 : r.length < K
          · have HP : Hid (itemA b n = (70, 0, 0, 0)) := by
              have hI := HI.out
              rw [show len0 (x :: r) = (70, 0, 0) by rw [len0, if_neg h2, if_neg h3, if_pos (by omega)]] at hI
              exact hI
            have q4 : decide ((len : Int) - ((n : Int) + 2) < (K : Int)) = true := decide_eq_true (by have := HRL.out; omega)
            clear h2 h3 h4 hK
            go_enter Try.func13, Try.ntmps13
            go_wp2
            refine bodyPost_ret (results_tmp4 rfl _ _ _) rfl ?_
            exact ⟨rfl, _, _, _, _, HP.out, rfl⟩
          · have q4 : decide ((len : Int) - ((n : Int) + 2) < (K : Int)) = false := decide_eq_false (by have := HRL.out; omega)
            have HV : Hid (len0 (x :: r) = if bval (r.take K) < 128 ∨ at0 r 0 = 0 then (72, 0, 0) else (0, bval (r.take K), 1 + K)) := by
              show _ = _
              rw [len0, if_neg h2, if_neg h3, if_neg (by omega), ← hK]
            have hfit : n + 2 + K ≤ len := by have := HRL.out; omega
            have HNR : Hid (K ≤ r.length) := by show K ≤ _; omega
            clear h2 h3 h4 hK
            go_enter Try.func13, Try.ntmps13
            go_wp2
            go_loop [8, 11] (fun vv iv => ∃ (i L : Nat), i ≤ K ∧ iv = .int .i64 (i : Nat) ∧ vv = .int .i64 (L : Nat) ∧ Hid (L = bval (r.take i))) (fun _ iv => K - (intOf iv).toNat)
            case atStart => exact ⟨0, 0, Nat.zero_le _, rfl, rfl, rfl⟩
            case round =>
              obtain ⟨i, L, hi, rfl, rfl, HLL⟩ := hrel
              have hLb' : L < 4294967296 := by
                have h1 := bval_lt (l := r.take i) (by rw [HRR.out]; exact (H8.out.drop _).take _)
                have h2 : (256 : Nat) ^ (r.take i).length ≤ 256 ^ 4 := Nat.pow_le_pow_right (by decide) (by rw [List.length_take]; omega)
                have h3 : (256 : Nat) ^ 4 = 4294967296 := by decide
                rw [HLL.out]; omega
              by_cases hlt : i < K
              · obtain ⟨c, hcE⟩ : ∃ c, c = at0 r i := ⟨_, rfl⟩
                have hc8 : c < 256 := by rw [hcE, HRR.out]; exact (H8.out.drop _).at0 _
                have hce : w.cell? ⟨bb, off + (n + 2 + i), none⟩ = some (.int .u8 (c : Nat)) := by
                  rw [HC.out _ (by rw [HL.out]; omega), hcE, HRR.out, at0_drop]
                  rfl
                have HS : Hid (L * 256 + c = bval (r.take (i + 1))) := by
                  show _ = _
                  rw [take_succ_at0 (by have := HNR.out; omega), bval_snoc, ← HLL.out, ← hcE, Nat.mul_comm]
                obtain ⟨M, hM⟩ : ∃ M, M = L * 256 + c := ⟨_, rfl⟩
                have ho : bits BinOp.or IntKind.i64 ((L : Int) * 256) (c : Int) = (M : Int) := by
                  have := i64_joinD L c 8 (by decide) (by omega) (by omega)
                  rw [hM, ← this]
                  congr 1
                rw [← hM] at HS
                clear hcE hM
                go_wp2
                go_round
                case rel => exact ⟨i + 1, M, by omega, by go_num, rfl, HS.out⟩
                case measure => simp [intOf]; omega
              · obtain rfl : i = K := by omega
                have hV := HV.out
                rw [← HLL.out] at hV
                obtain ⟨z, hz⟩ : ∃ z, z = at0 r 0 := ⟨_, rfl⟩
                rw [← hz] at hV
                have hz0 : w.cell? ⟨bb, off + (n + 2), none⟩ = some (.int .u8 (z : Nat)) := by
                  rw [HC.out _ (by rw [HL.out]; omega), hz, HRR.out, at0_drop]
                  rfl
                clear hz HV
                by_cases h3 : L < 128 ∨ z = 0
                · rw [if_pos h3] at hV
                  have HP : Hid (itemA b n = (72, 0, 0, 0)) := by
                    have hI := HI.out
                    rw [hV] at hI
                    exact hI
                  have hor : decide ((L : Int) < 128) = true ∨ (decide ((L : Int) < 128) = false ∧ ((z : Int) == 0) = true) := by
                    by_cases h5 : L < 128
                    · exact .inl (decide_eq_true (by omega))
                    · exact .inr ⟨decide_eq_false (by omega), by simp; omega⟩
                  clear h3 hV
                  rcases hor with g1 | ⟨g1, g2⟩
                  all_goals
                    go_wp2
                    refine bodyPost_ret (results_tmp4 rfl _ _ _) rfl ?_
                    exact ⟨rfl, _, _, _, _, HP.out, rfl⟩
                · rw [if_neg h3] at hV
                  have hI := HI.out
                  rw [hV] at hI
                  simp only [ne_eq, not_true_eq_false, if_false] at hI
                  have HI := Lib.hid hI
                  have g4 : decide ((L : Int) < 128) = false := decide_eq_false (by omega)
                  have g5 : ((z : Int) == 0) = false := by simp; omega
                  clear hI hV h3
                  by_cases h5 : len - (n + 1 + (1 + i)) < L
                  · have HP : Hid (itemA b n = (70, 0, 0, 0)) := by show _ = _; rw [HI.out, if_pos h5]
                    have q5 : decide ((len : Int) - ((n : Int) + 2 + (i : Int)) < (L : Int)) = true := decide_eq_true (by omega)
                    clear h5
                    go_wp2
                    refine bodyPost_ret (results_tmp4 rfl _ _ _) rfl ?_
                    exact ⟨rfl, _, _, _, _, HP.out, rfl⟩
                  · have HP : Hid (itemA b n = (0, T, n + 1 + (1 + i), n + 1 + (1 + i) + L)) := by show _ = _; rw [HI.out, if_neg h5]
                    have q5 : decide ((len : Int) - ((n : Int) + 2 + (i : Int)) < (L : Int)) = false := decide_eq_false (by omega)
                    clear h5
                    go_wp2
                    refine bodyPost_ret (results_tmp4 rfl _ _ _) rfl ?_
                    exact ⟨rfl, _, _, _, _, HP.out, by rw [show ((n + 1 + (1 + i) : Nat) : Int) = (n : Int) + 2 + (i : Int) by omega, show ((n + 1 + (1 + i) + L : Nat) : Int) = (n : Int) + 2 + (i : Int) + (L : Int) by omega]; rfl⟩
end Go.Proofs.Ytkghgfiindpcjaa
