import Derived.Test.YtboebadpohjolaaPtE
import Derived.Shelf.Abstract
namespace Go.Proofs.Ytboebadpohjolaa
open Go.RowKit

/-! Letters and sets in the program. -/
/-! Words: all bits turned, two words together. -/
/-- The words of a set, turned. -/
def S4.not (s : S4) : S4 := ⟨18446744073709551615 - s.a, 18446744073709551615 - s.b, 18446744073709551615 - s.c, 18446744073709551615 - s.d⟩
/-! Classes of letters. -/
end Go.Proofs.Ytboebadpohjolaa
