import Derived.Test.YtckgbcgmladcfaaDoorPuR
import Derived.Test.YtckgbcgmladcfaaDoorPuS
namespace Go.Proofs.YtckgbcgmladcfaaDoor

/-! A set's bracket, turned about. -/
theorem turned_run {s : S4} (h : s.fit) (h0 : runsL s.has 256 ≠ []) : Run 0 (.pat []) (91 :: 94 :: ((runsL s.has 256).flatMap runT ++ [93])) (.ok (setT s.cpl) []) := by
  have hb := brk_runs (runsL s.has 256) (fun x hx => ((runsL_ok s.has 256).1 x hx).1) [] true .zero S4.zero_fit (.inl h0)
  rw [runsSet_eq h] at hb
  have hat : Run 0 .atom (91 :: 94 :: ((runsL s.has 256).flatMap runT ++ [93])) (.ok (setT s.cpl) []) :=
    .atomBrk ⟨.ok s [], S4.cpl, by rw [if_pos (show (94 :: ((runsL s.has 256).flatMap runT ++ [93])).head? = some 94 from rfl)]; exact hb, by rw [if_pos (show (94 :: ((runsL s.has 256).flatMap runT ++ [93])).head? = some 94 from rfl)], rfl⟩
  exact .patEnd (acc := []) (.altMore (by simp) (by simp [hd, isEnd]) (.pieceOk hat (.repEnd (by simp [hd]))) (.altEnd (.inl rfl))) (by simp)
/-- What a set's text begins with. -/
theorem setTxt_second {s : S4} (h : s.isAll = false) (h0 : runsL s.has 256 ≠ []) (h1 : ∀ a, runsL s.has 256 ≠ [(a, a)]) : at0 (setTxt s) 1 ≠ 94 ∧ 3 ≤ (setTxt s).length := by
  rw [setTxt_of h h0 h1]
  obtain ⟨x, t, e⟩ : ∃ x t, runsL s.has 256 = x :: t := by
    cases hr : runsL s.has 256 with
    | nil => exact absurd hr h0
    | cons x t => exact ⟨x, t, rfl⟩
  rw [e]
  obtain ⟨a, b⟩ := x
  have h4 := mem4_pos a
  refine ⟨?_, ?_⟩
  · rw [at0_cons_succ]
    rw [List.flatMap_cons]
    unfold runT
    simp only [List.append_assoc]
    unfold mem4
    by_cases hs : isSp a = true
    · rw [if_pos hs]
      simp [at0]
    · rw [if_neg hs]
      have : a ≠ 94 := fun e => hs (by rw [e]; rfl)
      simpa [at0] using this
  · have h5 : 1 ≤ (runT (a, b)).length := by unfold runT; show 1 ≤ (mem4 a ++ _).length; rw [List.length_append]; omega
    rw [List.flatMap_cons, List.length_cons, List.length_append, List.length_append, List.length_singleton]
    omega
end Go.Proofs.YtckgbcgmladcfaaDoor
