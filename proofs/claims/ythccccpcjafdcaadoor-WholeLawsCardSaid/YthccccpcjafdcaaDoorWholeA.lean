import Derived.Test.YthccccpcjafdcaaDoorGC
namespace Go.Proofs.YthccccpcjafdcaaDoor
open Go.RowKit

/-- The first worth that does not fit. -/
def LIM : Nat := 18446744073709551616 ^ 64
/-- The block in which a whole number lies. -/
def WO (n : Bool) (a : Option Addr) (la ca : Nat) : Obj := .cells #[.bool n, .slice a la ca] 44
set_option exponentiation.threshold 10000 in
theorem lim_bits {n k : Nat} (h : BitsIs n k) : (k ≤ 4096) = (n < LIM) := by
  have e : LIM = 2 ^ 4096 := by unfold LIM; rw [pow_64]
  rw [e]
  apply propext
  rcases h with ⟨rfl, rfl⟩ | ⟨h0, h1, h2⟩
  · exact ⟨fun _ => Nat.pow_pos (by decide), fun _ => by omega⟩
  · constructor
    · intro hk
      exact Nat.lt_of_lt_of_le h2 (Nat.pow_le_pow_right (by decide) hk)
    · intro hn
      refine Nat.le_of_not_lt fun hk => ?_
      have : 2 ^ 4096 ≤ 2 ^ (k - 1) := Nat.pow_le_pow_right (by decide) (by omega)
      exact absurd (Nat.le_trans this h1) (Nat.not_le.2 hn)
/-- A whole number's worth, and its sign. -/
def wv (n : Bool) (xs : List Nat) : Int := if n then -(val xs : Int) else (val xs : Int)
theorem wv_abs (n : Bool) (xs : List Nat) : (wv n xs).natAbs = val xs := by unfold wv; split <;> omega
def sg (z : Int) : Int := if z = 0 then 0 else if z < 0 then -1 else 1
theorem sg_le (z : Int) : -1 ≤ sg z ∧ sg z ≤ 1 := by unfold sg; split <;> (try split) <;> omega

set_option maxHeartbeats 400000 in
theorem wfits_any (n : Bool) (a : Option Addr) (la ca : Nat) (xs : List Nat) (w : World) (hla : xs.length = la) (hba : la ≤ 1048576) (hca : la ≤ ca) (hra : Rd .u64 w a xs) (bx : Bd xs) :
    Calls Tryd.prog 64 #[.agg #[.bool n, .slice a la ca]] w fun e w' => e = .returned (.bool (decide (val xs < LIM))) ∧ w' = w.alloc (WO n a la ca) := by
  go_enter Tryd.func64, Tryd.ntmps64
  go_wp2_with fail
  refine (bits_any a la ca xs _ hla (by omega) hca (hra.alloc _) bx).mono ?_
  rintro e w1 ⟨⟨k, rfl, hk, hkb⟩, rfl⟩
  have hq : decide ((k : Int) ≤ 4096) = decide (val xs < LIM) := by
    rw [decide_eq_decide, ← lim_bits hk]; omega
  have HK := Lib.hid hk
  clear hk
  go_wp2
  go_ret
  exact ⟨rfl, rfl⟩

set_option maxHeartbeats 400000 in
theorem wsign_any (n : Bool) (a : Option Addr) (la ca : Nat) (xs : List Nat) (w : World) (hla : xs.length = la) (hba : la ≤ 1048576) (hca : la ≤ ca) (hra : Rd .u64 w a xs) (bx : Bd xs) :
    Calls Tryd.prog 26 #[.agg #[.bool n, .slice a la ca]] w fun e w' => e = .returned (.int .i64 (sg (wv n xs))) ∧ w' = w.alloc (WO n a la ca) := by
  go_enter Tryd.func26, Tryd.ntmps26
  go_wp2_with fail
  refine (bits_any a la ca xs _ hla (by omega) hca (hra.alloc _) bx).mono ?_
  rintro e w1 ⟨⟨k, rfl, hk, hkb⟩, rfl⟩
  have hz : (k = 0) ↔ (val xs = 0) := by
    rcases hk with ⟨h1, h2⟩ | ⟨h0, h1, h2⟩
    · omega
    · have : 0 < 2 ^ (k - 1) := Nat.pow_pos (by decide)
      omega
  have HK := Lib.hid hk
  have HZ := Lib.hid hz
  clear hk hz
  by_cases h0 : k = 0
  · have hq : ((k : Int) == 0) = true := by simp; omega
    have hs : sg (wv n xs) = 0 := by
      have := HZ.out.1 h0
      unfold wv sg; rw [this]; cases n <;> rfl
    clear h0
    go_wp2
    go_ret
    exact ⟨by rw [hs]; rfl, rfl⟩
  · have hq : ((k : Int) == 0) = false := by simp; omega
    have hv : val xs ≠ 0 := fun h => h0 (HZ.out.2 h)
    have hs : sg (wv n xs) = if n then -1 else 1 := by
      unfold wv sg; cases n <;> simp [hv] <;> omega
    have HS := Lib.hid hs
    clear h0 hv hs
    cases n
    all_goals
      go_wp2
      go_ret
      exact ⟨by rw [HS.out]; rfl, rfl⟩
end Go.Proofs.YthccccpcjafdcaaDoor
