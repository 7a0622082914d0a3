import Derived.Test.YtboebadpohjolaaPtA
namespace Go.Proofs.Ytboebadpohjolaa
open Go.RowKit

/-! The program's reader: a text, a place, how many parentheses are open. -/
theorem ret_bool {a b : Bool} (h : a = b) : Ending.returned (.bool a) = .returned (.bool b) := by rw [h]
end Go.Proofs.Ytboebadpohjolaa
