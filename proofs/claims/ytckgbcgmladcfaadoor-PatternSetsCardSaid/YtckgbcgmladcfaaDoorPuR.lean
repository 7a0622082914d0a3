import Derived.Test.YtckgbcgmladcfaaDoorPuI
namespace Go.Proofs.YtckgbcgmladcfaaDoor

/-! A set's text is short. -/
def gsum : Nat → Nat
  | 0 => 0
  | c + 1 => gsum c + (mem4 c).length + 1
theorem mem4_pos (c : Nat) : 1 ≤ (mem4 c).length := by unfold mem4; split <;> simp
theorem runT_on (a c : Nat) (h : a ≤ c) : (runT (a, c + 1)).length ≤ (runT (a, c)).length + (mem4 (c + 1)).length + 1 := by
  have h1 := mem4_pos c
  unfold runT
  simp only [List.length_append]
  by_cases h2 : a < c
  · rw [if_pos (show a < c + 1 by omega), if_pos h2]
    have h3 : (if a + 1 < c + 1 then [45] else ([] : List Nat)).length ≤ 1 := by split <;> simp
    omega
  · have : a = c := by omega
    subst this
    rw [if_pos (show a < a + 1 by omega), if_neg (show ¬ a < a by omega), if_neg (show ¬ a + 1 < a + 1 by omega)]
    simp
    omega
theorem runsR_short (p : Nat → Bool) (c : Nat) : ((runsR p c).flatMap runT).length ≤ gsum c := by
  induction c with
  | zero => simp [runsR, gsum]
  | succ c ih =>
    rw [runsR, gsum]
    split
    · split
      · rename_i h2
        obtain ⟨a, t, e⟩ := runsR_last (p := p) (c := c - 1) h2.2
        rw [show c - 1 + 1 = c by omega] at e
        have hok := (runsR_ok p c).1 (a, c - 1) (by rw [e]; simp)
        rw [e] at ih ⊢
        simp only [List.flatMap_cons, List.length_append] at ih ⊢
        have := runT_on a (c - 1) hok.1
        rw [show c - 1 + 1 = c by omega] at this
        omega
      · have h9 : (runT (c, c)).length = (mem4 c).length := by unfold runT; simp
        rw [List.flatMap_cons, List.length_append, h9]
        omega
    · omega
theorem gsum256 : gsum 256 = 528 := by decide +kernel
theorem runsL_short (p : Nat → Bool) : ((runsL p 256).flatMap runT).length ≤ 528 := by
  have h := runsR_short p 256
  rw [gsum256] at h
  unfold runsL
  rw [List.length_flatMap] at h ⊢
  rw [List.map_reverse, List.sum_reverse]
  exact h
theorem setTxt_short (s : S4) : (setTxt s).length ≤ 1024 := by
  have h2 := runsL_short s.has
  unfold setTxt
  split
  · simp
  · split
    · simp
    · rename_i a b h
      split
      · unfold escT; split <;> simp
      · have := runT_len a b; simp; omega
    · rw [List.length_cons, List.length_append, List.length_singleton]
      omega
end Go.Proofs.YtckgbcgmladcfaaDoor
