import Derived.Test.YtckgbcgmladcfaaDoorPuT
namespace Go.Proofs.YtckgbcgmladcfaaDoor
open Go.RowKit

/-! The laws' own check holds. -/
theorem NT.num_of (t : NT) : may t.pt = true → setsOk t.pt → t.num := by
  induction t using NT.ind with
  | h k s m n p ps ih =>
    rw [NT.pt_len, Bool.and_eq_true, NT.pt_mk, setsOk, NT.num_mk]
    rintro ⟨hfit, hmay⟩ ⟨hs, hss⟩
    have hsub : ∀ t ∈ ps, t.num := fun t ht => ih t ht (mayL_mem hmay _ (List.mem_map_of_mem ht)) (setsOkL_mem hss _ (List.mem_map_of_mem ht))
    unfold fitT at hfit
    simp only [Bool.and_eq_true, Bool.or_eq_true, beq_iff_eq] at hfit
    obtain ⟨_, h2, h3⟩ := hfit
    unfold In64
    by_cases h6 : k = 6
    · subst h6
      have h4 : itv m n = true := by
        rw [if_neg (by decide), if_neg (by decide), if_pos rfl, Bool.and_eq_true] at h3
        exact h3.2
      unfold itv at h4
      simp only [Bool.and_eq_true, Bool.or_eq_true, decide_eq_true_eq, beq_iff_eq] at h4
      exact ⟨by omega, by omega, by omega, hs, hsub⟩
    · obtain ⟨rfl, rfl⟩ := h2.resolve_left h6
      have hk : k = 0 ∨ k = 1 ∨ k = 2 ∨ k = 3 ∨ k = 4 ∨ k = 5 := by
        by_cases q1 : k = 0 ∨ k = 1 ∨ k = 2 ∨ k = 3
        · omega
        · by_cases q2 : k = 4 ∨ k = 5
          · omega
          · rw [if_neg q1, if_neg q2, if_neg h6] at h3
            cases h3
      exact ⟨by omega, by omega, by omega, hs, hsub⟩
theorem sets_w : setsOk workT := by
  unfold workT abT repT4 setT
  simp only [setsOk, setsOkL, and_true]
  refine ⟨S4.zero_fit, ⟨S4.zero_fit, S4.zero_fit, ?_, ?_⟩, ?_⟩
  · exact S4.of_fit _
  · exact S4.of_fit _
  · rw [setW_val]
    unfold S4.fit
    decide
theorem prn_w : prnS workT = prt workT ∧ prnE workT = 0 := by
  have hc : chk workT = 0 := by
    unfold chk
    rw [nodes_w, may_w]
    decide
  have h1 : (prt workT).length ≤ 1024 ∧ dep workT ≤ 64 := by
    rw [prt_w, dep_w]
    decide
  unfold prnS prnE
  rw [if_pos ⟨hc, h1⟩, if_pos hc, if_pos h1]
  exact ⟨rfl, rfl⟩
end Go.Proofs.YtckgbcgmladcfaaDoor
