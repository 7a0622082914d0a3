import Derived.Test.YthhchpmlljfpjaaGreatPtA
namespace Go.Proofs.YthhchpmlljfpjaaGreat

/-! The fixed texts of the laws' own check. -/
theorem plain_byte (c : Nat) (h : c = 97 ∨ c = 98) : atomPlain c := by
  unfold atomPlain isRep
  rcases h with rfl | rfl <;> decide
def abT : PT := .mk 4 .zero 0 0 [setT (S4.span 97 97), setT (S4.span 98 98)]
end Go.Proofs.YthhchpmlljfpjaaGreat
