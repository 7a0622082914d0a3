import Derived.Test.YthhchpmlljfpjaaGreatNfD
namespace Go.Proofs.YthhchpmlljfpjaaGreat
open Go.RowKit

/-! May a machine be? Are two the same? -/
theorem p_isPlace (x : Int) (n : Nat) (w : World) : Calls Tryz.prog 38 #[.int .i64 x, .int .i64 (n : Nat)] w fun e w' => e = .returned (.bool (decide (0 ≤ x) && decide (x < (n : Int)))) ∧ w' = w := by
  by_cases h : 0 ≤ x
  · have hd : decide (0 ≤ x) = true := decide_eq_true h
    go_enter Tryz.func38, Tryz.ntmps38
    go_wp2
    all_goals (go_ret; exact ⟨ret_bool (by simp_all), rfl⟩)
  · have hd : decide (0 ≤ x) = false := decide_eq_false h
    go_enter Tryz.func38, Tryz.ntmps38
    go_wp2
    all_goals (go_ret; exact ⟨ret_bool (by simp_all), rfl⟩)
/-- A state leads only to states. -/
def okS (n : Nat) (s : St) : Bool :=
  (decide (s.k = 1) || (decide (s.k = 3) || decide (s.k = 4))) && (decide (0 ≤ s.x) && decide (s.x < (n : Int))) || (decide (s.k = 2) && ((decide (0 ≤ s.x) && decide (s.x < (n : Int))) && (decide (0 ≤ s.y) && decide (s.y < (n : Int)))) || decide (s.k = 5))
set_option maxHeartbeats 1000000 in
set_option maxRecDepth 100000 in
theorem p_fitsS (k : Int) (s : S4) (x y : Int) (n : Nat) (w : World) : Calls Tryz.prog 39 #[stVal k s x y, .int .i64 (n : Nat)] w fun e w' => e = .returned (.bool (okS n ⟨k, s, x, y⟩)) ∧ Below w.heap.size w w' := by
  have hx := fun W => p_isPlace x n W
  have hy := fun W => p_isPlace y n W
  have hok : okS n ⟨k, s, x, y⟩ = ((decide (k = 1) || (decide (k = 3) || decide (k = 4))) && (decide (0 ≤ x) && decide (x < (n : Int))) || (decide (k = 2) && ((decide (0 ≤ x) && decide (x < (n : Int))) && (decide (0 ≤ y) && decide (y < (n : Int)))) || decide (k = 5))) := rfl
  rw [hok]
  obtain ⟨px, hpx⟩ : ∃ b, (decide (0 ≤ x) && decide (x < (n : Int))) = b := ⟨_, rfl⟩
  obtain ⟨py, hpy⟩ : ∃ b, (decide (0 ≤ y) && decide (y < (n : Int))) = b := ⟨_, rfl⟩
  rw [hpx] at hx ⊢
  rw [hpy] at hy ⊢
  have HX := Lib.hid hx
  have HY := Lib.hid hy
  clear hx hy hpx hpy hok
  have hc : k = 1 ∨ k = 3 ∨ k = 4 ∨ k = 2 ∨ k = 5 ∨ (¬ k = 1 ∧ ¬ k = 2 ∧ ¬ k = 3 ∧ ¬ k = 4 ∧ ¬ k = 5) := by omega
  rcases hc with rfl | rfl | rfl | rfl | rfl | ⟨h1, h2, h3, h4, h5⟩
  · go_enter Tryz.func39, Tryz.ntmps39
    go_wp2_with (go_at_call 38; with_reducible refine (HX.out _).mono ?_; rintro e w2 ⟨rfl, rfl⟩)
    go_ret
    exact ⟨ret_bool (by simp), (Below.refl _ _).alloc (Nat.le_refl _) _⟩
  · go_enter Tryz.func39, Tryz.ntmps39
    go_wp2_with (go_at_call 38; with_reducible refine (HX.out _).mono ?_; rintro e w2 ⟨rfl, rfl⟩)
    go_ret
    exact ⟨ret_bool (by simp), (Below.refl _ _).alloc (Nat.le_refl _) _⟩
  · go_enter Tryz.func39, Tryz.ntmps39
    go_wp2_with (go_at_call 38; with_reducible refine (HX.out _).mono ?_; rintro e w2 ⟨rfl, rfl⟩)
    go_ret
    exact ⟨ret_bool (by simp), (Below.refl _ _).alloc (Nat.le_refl _) _⟩
  · cases px
    · go_enter Tryz.func39, Tryz.ntmps39
      go_wp2_with (go_at_call 38; with_reducible refine (HX.out _).mono ?_; rintro e w2 ⟨rfl, rfl⟩)
      go_ret
      exact ⟨ret_bool (by simp), (Below.refl _ _).alloc (Nat.le_refl _) _⟩
    · have HMARK : Hid True := trivial
      go_enter Tryz.func39, Tryz.ntmps39
      go_wp2_with (first | (go_at_call 38; clear HMARK; refine (HX.out _).mono ?_; rintro e w2 ⟨rfl, rfl⟩) | (go_at_call 38; refine (HY.out _).mono ?_; rintro e w3 ⟨rfl, rfl⟩))
      go_ret
      exact ⟨ret_bool (by simp), (Below.refl _ _).alloc (Nat.le_refl _) _⟩
  · go_enter Tryz.func39, Tryz.ntmps39
    go_wp2
    go_ret
    exact ⟨ret_bool (by simp), (Below.refl _ _).alloc (Nat.le_refl _) _⟩
  · go_enter Tryz.func39, Tryz.ntmps39
    go_wp2
    go_ret
    exact ⟨ret_bool (by simp [h1, h2, h3, h4, h5]), (Below.refl _ _).alloc (Nat.le_refl _) _⟩
end Go.Proofs.YthhchpmlljfpjaaGreat
