import Derived.Test.YtfjhmnbbjknflaaDoorGC
namespace Go.Proofs.YtfjhmnbbjknflaaDoor
open Go.RowKit

/-- The first worth that does not fit. -/
def LIM : Nat := 18446744073709551616 ^ 64
set_option exponentiation.threshold 10000 in
theorem lim_bits {n k : Nat} (h : BitsIs n k) : (k ≤ 4096) = (n < LIM) := by
  have e : LIM = 2 ^ 4096 := by unfold LIM; rw [pow_64]
  rw [e]
  apply propext
  rcases h with ⟨rfl, rfl⟩ | ⟨h0, h1, h2⟩
  · exact ⟨fun _ => Nat.pow_pos (by decide), fun _ => by omega⟩
  · constructor
    · intro hk
      exact Nat.lt_of_lt_of_le h2 (Nat.pow_le_pow_right (by decide) hk)
    · intro hn
      refine Nat.le_of_not_lt fun hk => ?_
      have : 2 ^ 4096 ≤ 2 ^ (k - 1) := Nat.pow_le_pow_right (by decide) (by omega)
      exact absurd (Nat.le_trans this h1) (Nat.not_le.2 hn)
/-- A whole number's worth, and its sign. -/
def wv (n : Bool) (xs : List Nat) : Int := if n then -(val xs : Int) else (val xs : Int)
theorem wv_abs (n : Bool) (xs : List Nat) : (wv n xs).natAbs = val xs := by unfold wv; split <;> omega
def sg (z : Int) : Int := if z = 0 then 0 else if z < 0 then -1 else 1
theorem sg_le (z : Int) : -1 ≤ sg z ∧ sg z ≤ 1 := by unfold sg; split <;> (try split) <;> omega

end Go.Proofs.YtfjhmnbbjknflaaDoor
