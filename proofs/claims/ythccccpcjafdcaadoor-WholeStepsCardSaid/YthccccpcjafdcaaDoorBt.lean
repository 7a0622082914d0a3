import Derived.Test.YthccccpcjafdcaaDoorWholeS
import Derived.Test.YthccccpcjafdcaaDoorNLaws
namespace Go.Proofs.YthccccpcjafdcaaDoor
open Go.RowKit

/-- A number of at most so many bits. -/
def Bt (k : Nat) (Z : Int) : Prop := Z.natAbs < 2 ^ k
theorem two_max (j k : Nat) : 2 ^ j ≤ 2 ^ (max j k) ∧ 2 ^ k ≤ 2 ^ (max j k) := ⟨Nat.pow_le_pow_right (by decide) (Nat.le_max_left _ _), Nat.pow_le_pow_right (by decide) (Nat.le_max_right _ _)⟩
theorem Bt.add {j k : Nat} {X Y : Int} (h1 : Bt j X) (h2 : Bt k Y) : Bt (max j k + 1) (X + Y) := by
  unfold Bt at *
  have h := two_max j k
  rw [Nat.pow_succ]
  omega
theorem Bt.sub {j k : Nat} {X Y : Int} (h1 : Bt j X) (h2 : Bt k Y) : Bt (max j k + 1) (X - Y) := by
  unfold Bt at *
  have h := two_max j k
  rw [Nat.pow_succ]
  omega
theorem Bt.neg {j : Nat} {X : Int} (h1 : Bt j X) : Bt j (-X) := by unfold Bt at *; rw [Int.natAbs_neg]; exact h1
theorem Bt.mul {j k : Nat} {X Y : Int} (h1 : Bt j X) (h2 : Bt k Y) : Bt (j + k) (X * Y) := by
  unfold Bt at *
  rw [Int.natAbs_mul, Nat.pow_add]
  exact Nat.mul_lt_mul_of_lt_of_le h1 (Nat.le_of_lt h2) (Nat.two_pow_pos _)
theorem Bt.pow {j : Nat} {X : Int} (h1 : Bt j X) (n : Nat) : Bt (j * n + 1) (X ^ n) := by
  unfold Bt at *
  rw [Int.natAbs_pow]
  have h2 : X.natAbs ^ n ≤ (2 ^ j) ^ n := Nat.pow_le_pow_left (Nat.le_of_lt h1) n
  rw [← Nat.pow_mul] at h2
  rw [Nat.pow_succ]
  have := Nat.two_pow_pos (j * n)
  omega
set_option exponentiation.threshold 10000 in
theorem lim_two : LIM = 2 ^ 4096 := by unfold LIM; rw [pow_64]
set_option exponentiation.threshold 10000 in
theorem Bt.lim {k : Nat} {Z : Int} (h : Bt k Z) (hk : k ≤ 4096) : Z.natAbs < LIM := by
  rw [lim_two]
  exact Nat.lt_of_lt_of_le h (Nat.pow_le_pow_right (by decide) hk)
theorem bt_sw (n : Bool) (xs : List Nat) (K : Nat) (bx : Bd xs) : Bt (64 * K) (SW n xs K) := by
  unfold Bt SW
  rw [wv_abs, ← pow_64]
  exact val_take_lt bx K

end Go.Proofs.YthccccpcjafdcaaDoor
