import Derived.Test.YtboebadpohjolaaPtE
import Derived.Shelf.Abstract
namespace Go.Proofs.Ytboebadpohjolaa
open Go.RowKit

/-! Sets of bytes in the program. -/
/-- A set's cells. -/
def S4.cells (s : S4) : List Value := [.int .u64 (s.a : Nat), .int .u64 (s.b : Nat), .int .u64 (s.c : Nat), .int .u64 (s.d : Nat)]
@[reducible] def S4.val (s : S4) : Value := .agg #[.int .u64 (s.a : Nat), .int .u64 (s.b : Nat), .int .u64 (s.c : Nat), .int .u64 (s.d : Nat)]
def S4.put (s : S4) (i x : Nat) : S4 := match i with | 0 => { s with a := x } | 1 => { s with b := x } | 2 => { s with c := x } | _ => { s with d := x }
theorem Below.set4 {B g : Nat} {w w' : World} (h : Below B w w') (hg : B ≤ g) (a b c d : Value) : Below B w ((((w'.setCell ⟨g, 0, none⟩ a).setCell ⟨g, 1, none⟩ b).setCell ⟨g, 2, none⟩ c).setCell ⟨g, 3, none⟩ d) :=
  (((h.setCell (p := ⟨g, 0, none⟩) hg _).setCell (p := ⟨g, 1, none⟩) hg _).setCell (p := ⟨g, 2, none⟩) hg _).setCell (p := ⟨g, 3, none⟩) hg _
end Go.Proofs.Ytboebadpohjolaa
