import Derived.Test.YtfjhmnbbjknflaaDoorWholeA
import Derived.Deep.RegionHeld3
namespace Go.Proofs.YtfjhmnbbjknflaaDoor
open Go.RowKit

/-- Two whole numbers that lie in the call's first two blocks. -/
def Boxes (B : Nat) (n : Bool) (a : Option Addr) (la ca : Nat) (m : Bool) (b : Option Addr) (lb cb : Nat) (w W : World) : Prop :=
  W.cell? ⟨B, 0, none⟩ = some (.bool n) ∧ W.cell? ⟨B, 1, none⟩ = some (.slice a la ca) ∧ W.cell? ⟨B + 1, 0, none⟩ = some (.bool m) ∧ W.cell? ⟨B + 1, 1, none⟩ = some (.slice b lb cb) ∧ Below B w W
theorem boxes_alloc {B : Nat} {n : Bool} {a : Option Addr} {la ca : Nat} {m : Bool} {b : Option Addr} {lb cb : Nat} {w W : World} (h : Boxes B n a la ca m b lb cb w W) (hB : w.heap.size = B) (o : Obj) : Boxes B n a la ca m b lb cb w (W.alloc o) := by
  subst hB
  have c := below_cell (w := W) ((Below.refl _ _).alloc (Nat.le_refl _) o)
  exact ⟨c _ _ h.1, c _ _ h.2.1, c _ _ h.2.2.1, c _ _ h.2.2.2.1, h.2.2.2.2.alloc h.2.2.2.2.size _⟩
theorem boxes_below {B : Nat} {n : Bool} {a : Option Addr} {la ca : Nat} {m : Bool} {b : Option Addr} {lb cb : Nat} {w W : World} (h : Boxes B n a la ca m b lb cb w W) : Below B w W := h.2.2.2.2
theorem sg_wrap (z : Int) : IntKind.i64.wrap (sg z + 1) = sg z + 1 := by
  have := sg_le z
  have h : sg z = -1 ∨ sg z = 0 ∨ sg z = 1 := by omega
  rcases h with h | h | h <;> rw [h] <;> decide

end Go.Proofs.YtfjhmnbbjknflaaDoor
