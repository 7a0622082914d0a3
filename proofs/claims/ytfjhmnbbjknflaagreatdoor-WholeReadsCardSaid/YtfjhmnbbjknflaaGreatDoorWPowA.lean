import Derived.Test.YtfjhmnbbjknflaaGreatDoorWSt
namespace Go.Proofs.YtfjhmnbbjknflaaGreatDoor
open Go.RowKit

theorem and_1 (a : Nat) (h : a < 18446744073709551616) : bits BinOp.and IntKind.u64 (a : Int) 1 = ((a % 2 : Nat) : Int) := by
  have := u64_and_nat a 1 h (by decide)
  rw [show ((1 : Nat) : Int) = 1 from rfl] at this
  rw [this]
  exact congrArg _ (Nat.and_two_pow_sub_one_eq_mod a 1)
theorem bit_at {xs : List Nat} (bx : Bd xs) {i : Nat} (hi : i < 64 * xs.length) : at0 xs (i / 64) / 2 ^ (i % 64) % 2 = val xs / 2 ^ i % 2 := by
  rw [at0_val bx (i / 64) (by omega)]
  have e : (2 : Nat) ^ i = 18446744073709551616 ^ (i / 64) * 2 ^ (i % 64) := by rw [pow_64, ← Nat.pow_add]; congr 1; omega
  rw [e, ← Nat.div_div_eq_div_mul]
  generalize val xs / 18446744073709551616 ^ (i / 64) = V
  have ht : i % 64 < 64 := Nat.mod_lt _ (by decide)
  generalize i % 64 = t at *
  have e2 : (18446744073709551616 : Nat) = 2 ^ t * 2 ^ (64 - t) := by rw [← Nat.pow_add, show t + (64 - t) = 64 by omega]
  have e3 : V % 18446744073709551616 / 2 ^ t = V / 2 ^ t % 2 ^ (64 - t) := by rw [e2, Nat.mod_mul_right_div_self]
  rw [e3]
  exact Nat.mod_mod_of_dvd _ ⟨2 ^ (63 - t), by rw [Nat.mul_comm, ← Nat.pow_succ]; congr 1; omega⟩
set_option maxHeartbeats 1000000 in
theorem bit_any (a : Option Addr) (la ca i : Nat) (xs : List Nat) (w : World) (hla : xs.length = la) (hra : Rd .u64 w a xs) (bx : Bd xs) (hi : i < 64 * la) (hl : la ≤ 1048576) :
    Calls Tryz.prog 65 #[.slice a la ca, .int .i64 i] w fun e w' => e = .returned (.bool (decide (val xs / 2 ^ i % 2 = 1))) ∧ w = w' := by
  obtain ⟨b, off, rfl⟩ := hra.isAt (by omega)
  have hc := hra.cell (i := i / 64) (by omega)
  have hb := bx.at0 (i / 64)
  have hv := bit_at bx (i := i) (by rw [hla]; exact hi)
  have HV := Lib.hid hv
  clear hv
  generalize at0 xs (i / 64) = x at *
  have hx : x / 2 ^ (i % 64) < 18446744073709551616 := Nat.lt_of_le_of_lt (Nat.div_le_self _ _) hb
  have HE : Hid (bits BinOp.and IntKind.u64 ((x : Int) / 2 ^ (i % 64)) 1 = ((x / 2 ^ (i % 64) % 2 : Nat) : Int)) := by
    show _ = _
    rw [← and_1 _ hx, Int.natCast_ediv, Int.natCast_pow]; rfl
  clear hx
  go_enter Tryz.func65, Tryz.ntmps65
  go_wp2
  go_ret
  rw [HE.out, HV.out]
  refine ⟨?_, rfl⟩
  show Ending.returned (.bool (((val xs / 2 ^ i % 2 : Nat) : Int) == 1)) = _
  generalize val xs / 2 ^ i % 2 = q
  congr 2
  rw [Bool.eq_iff_iff, beq_iff_eq, decide_eq_true_iff]
  omega
/-- The powers of 0, 1 and -1 go round by twos. -/
theorem turn_pow {A : Int} {N t : Nat} (hA : A.natAbs ≤ 1) (h0 : t = 0 ↔ N = 0) (h1 : t % 2 = N % 2) : A ^ t = A ^ N := by
  have h2 : A = 0 ∨ A = 1 ∨ A = -1 := by omega
  rcases h2 with rfl | rfl | rfl
  · rcases Nat.eq_zero_or_pos t with h | h
    · rw [h, h0.1 h]
    · have h3 : 0 < N := by have := h0.2; omega
      rw [Int.zero_pow (by omega), Int.zero_pow (by omega)]
  · rw [Int.one_pow, Int.one_pow]
  · have key : ∀ m : Nat, (-1 : Int) ^ m = (-1) ^ (m % 2) := by
      intro m
      have e : m = 2 * (m / 2) + m % 2 := by omega
      have e2 : (-1 : Int) ^ m = (-1) ^ (2 * (m / 2) + m % 2) := by rw [← e]
      rw [e2, Int.pow_add, Int.pow_mul, show ((-1 : Int) ^ 2) = 1 from rfl, Int.one_pow, Int.one_mul]
    rw [key t, key N, h1]
theorem nat_pow_lim {A x y : Nat} (h : LIM ≤ A ^ x) (hxy : x ≤ y) : LIM ≤ A ^ y := by
  have h1 : 1 < LIM := lim_one (by decide)
  rcases Nat.eq_zero_or_pos A with rfl | hp
  · have : 0 ^ x ≤ 1 := by
      rcases Nat.eq_zero_or_pos x with rfl | hx
      · simp
      · rw [Nat.zero_pow hx]; omega
    omega
  · exact Nat.le_trans h (Nat.pow_le_pow_right hp hxy)
theorem pow_half {A : Int} {N j : Nat} : A ^ (N / 2 ^ j) = A ^ (N / 2 ^ (j + 1)) * A ^ (N / 2 ^ (j + 1)) * A ^ (N / 2 ^ j % 2) := by
  rw [← Int.pow_add, ← Int.pow_add, Nat.pow_succ, ← Nat.div_div_eq_div_mul]
  congr 1
  omega
theorem pow_sq_le {N j : Nat} : N / 2 ^ (j + 1) + N / 2 ^ (j + 1) ≤ N := by
  have h := Nat.div_le_self N (2 ^ j)
  rw [Nat.pow_succ, ← Nat.div_div_eq_div_mul]
  omega
end Go.Proofs.YtfjhmnbbjknflaaGreatDoor
