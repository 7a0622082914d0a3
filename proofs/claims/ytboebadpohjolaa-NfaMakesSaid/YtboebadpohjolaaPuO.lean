import Derived.Test.YtboebadpohjolaaPtQ
import Derived.Test.YtboebadpohjolaaPuD
namespace Go.Proofs.Ytboebadpohjolaa
open Go.RowKit

/-! Print. -/
theorem chk_zero {t : PT} (h : chk t = 0) : nodes t ≤ 2048 ∧ may t = true := by
  unfold chk at h
  split at h
  · cases h
  · split at h
    · rename_i h1 h2; exact ⟨by omega, h2⟩
    · cases h
end Go.Proofs.Ytboebadpohjolaa
