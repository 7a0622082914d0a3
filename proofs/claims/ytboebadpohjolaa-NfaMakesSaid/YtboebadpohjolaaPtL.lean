import Derived.Test.YtboebadpohjolaaPtE
import Derived.Carry
import Derived.Shelf.Abstract
import Derived.WideMake
namespace Go.Proofs.Ytboebadpohjolaa
open Go.RowKit

/-! Cutting a text at its first instance of a sign. -/
/-! A class. -/
theorem Chg.trans_new {S : Nat → Prop} {a w : World} (h : Chg S a w) {g : Nat} (hg : a.heap.size ≤ g) (k : Nat) (v : Value) : Chg S a (w.setCell ⟨g, k, none⟩ v) :=
  ⟨h.os, h.tape, h.output, by simpa [World.setCell] using h.size, fun j hj hs => by
    rw [Below.heap_setCell _ _ _ _ (by show j ≠ g; omega)]
    exact h.block j hj hs⟩
end Go.Proofs.Ytboebadpohjolaa
