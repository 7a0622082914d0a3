import Derived.Test.YtboebadpohjolaaPtU
namespace Go.Proofs.Ytboebadpohjolaa
open Go.RowKit

/-! Pieces. -/
theorem NewT.lt {w : World} {B : Nat} {t : NT} (h : NewT w B t) : ∀ g ∈ t.foot, B ≤ g ∧ g < w.heap.size := NT.Own.lt t h.own
end Go.Proofs.Ytboebadpohjolaa
