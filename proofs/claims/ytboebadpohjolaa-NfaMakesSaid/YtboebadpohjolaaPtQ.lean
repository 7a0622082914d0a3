import Derived.Test.YtboebadpohjolaaPtO
namespace Go.Proofs.Ytboebadpohjolaa
open Go.RowKit

/-! Brackets whole, parts put together, repetitions. -/
theorem own_slice {w : World} {B E S n : Nat} {v : Value} {xs : List Value} (h : w.ownsRow B E S v n xs) : ∃ a c, v = .slice a n c := by
  rcases h.2 with ⟨rfl, rfl⟩ | ⟨g, c, _, rfl, _⟩
  · exact ⟨none, 0, rfl⟩
  · exact ⟨_, _, rfl⟩
end Go.Proofs.Ytboebadpohjolaa
