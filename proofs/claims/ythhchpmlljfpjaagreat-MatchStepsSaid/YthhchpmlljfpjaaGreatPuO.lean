import Derived.Test.YthhchpmlljfpjaaGreatPuD
namespace Go.Proofs.YthhchpmlljfpjaaGreat
open Go.RowKit

/-! Print. -/
theorem chk_zero {t : PT} (h : chk t = 0) : nodes t ≤ 2048 ∧ may t = true := by
  unfold chk at h
  split at h
  · cases h
  · split at h
    · rename_i h1 h2; exact ⟨by omega, h2⟩
    · cases h
end Go.Proofs.YthhchpmlljfpjaaGreat
