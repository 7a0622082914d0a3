import Derived.Test.YtboebadpohjolaaPtO
namespace Go.Proofs.Ytboebadpohjolaa
open Go.RowKit

/-! Numbers, intervals, signs of repetition. -/
theorem p_isInterval (m n : Int) (w : World) (hm : -9223372036854775808 ≤ m) (hm2 : m ≤ 9223372036854775807) (hn : -9223372036854775808 ≤ n) (hn2 : n ≤ 9223372036854775807) :
    Calls Try.prog 44 #[.int .i64 m, .int .i64 n] w fun e w' => e = .returned (.bool (itv m n)) ∧ w = w' := by
  by_cases h1 : m < 0
  · go_enter Try.func44, Try.ntmps44
    go_wp2
    go_ret
    exact ⟨ret_bool (by unfold itv; rw [decide_eq_false (show ¬ 0 ≤ m by omega)]; rfl), rfl⟩
  · by_cases h2 : 255 < m
    · have h1' : 0 ≤ m := by omega
      go_enter Try.func44, Try.ntmps44
      go_wp2
      go_ret
      exact ⟨ret_bool (by unfold itv; rw [decide_eq_false (show ¬ m ≤ 255 by omega)]; simp), rfl⟩
    · have h1' : 0 ≤ m := by omega
      have h2' : m ≤ 255 := by omega
      by_cases h3 : n = -1
      · subst h3
        go_enter Try.func44, Try.ntmps44
        go_wp2
        go_ret
        exact ⟨ret_bool (by unfold itv; simp; omega), rfl⟩
      · have h3' : (n == -1) = false := by simp; exact h3
        by_cases h4 : m ≤ n
        · go_enter Try.func44, Try.ntmps44
          go_wp2
          go_ret
          exact ⟨ret_bool (by unfold itv; rw [Bool.eq_iff_iff]; simp; omega), rfl⟩
        · have h4' : n < m := by omega
          go_enter Try.func44, Try.ntmps44
          go_wp2
          go_ret
          exact ⟨ret_bool (by unfold itv; rw [Bool.eq_iff_iff]; simp; omega), rfl⟩
end Go.Proofs.Ytboebadpohjolaa
