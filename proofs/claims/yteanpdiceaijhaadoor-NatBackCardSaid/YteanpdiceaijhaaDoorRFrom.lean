import Derived.Test.YteanpdiceaijhaaDoorFrom
namespace Go.Proofs.YteanpdiceaijhaaDoor
open Go.RowKit

def RTail (l : List Nat) (v : Value) : Prop := ∃ j : Nat, j ≤ l.length ∧ v = .int .i64 (j : Nat) ∧ bval (l.drop j) = bval l ∧ (at0 (l.drop j) 0 ≠ 0 ∨ l.drop j = [])

end Go.Proofs.YteanpdiceaijhaaDoor
