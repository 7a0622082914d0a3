import Derived.Test.YtfjhmnbbjknflaaDoorWholeC
import Derived.Test.YtfjhmnbbjknflaaDoorTold
namespace Go.Proofs.YtfjhmnbbjknflaaDoor
open Go.RowKit

/-- What Text answers. -/
def WText (n : Bool) (xs : List Nat) (w : World) (e : Ending) (w' : World) : Prop :=
  Below w.heap.size w w' ∧
  ((LIM ≤ val xs ∧ e = .returned (.tuple #[.string ⟨#[]⟩, .int .i64 3])) ∨
   (val xs < LIM ∧ ∃ l, IsDec l (val xs) ∧ e = .returned (.tuple #[.string ⟨(if wv n xs < 0 then 45 :: l else l).toArray⟩, .int .i64 0])))
theorem sg_neg (z : Int) : decide (sg z < 0) = decide (z < 0) := by
  rw [decide_eq_decide]; unfold sg; split <;> (try split) <;> omega
/-- A whole number and an error, told by what is known of them. -/
def WTold (Q : Int → Bool → List Nat → Prop) (w : World) (e : Ending) (w' : World) : Prop :=
  Below w.heap.size w w' ∧ ∃ n a c k zs, e = .returned (.tuple #[.agg #[.bool n, .slice a zs.length c], .int .i64 k]) ∧ own64 w' w.heap.size (.slice a zs.length c) zs ∧ Q k n zs
theorem WTold.from {Q : Int → Bool → List Nat → Prop} {w0 w w' : World} {e : Ending} (h : WTold Q w e w') (hb : Below w0.heap.size w0 w) : WTold Q w0 e w' := by
  obtain ⟨h0, n, a, c, k, zs, he, ho, hQ⟩ := h
  exact ⟨hb.trans (h0.mono hb.size), n, a, c, k, zs, he, owns_base ho hb.size, hQ⟩
theorem WTold.told {Q : Int → Bool → List Nat → Prop} {w w' : World} {e : Ending} (h : WTold Q w e w') : ∃ n a l c k, e = .returned (.tuple #[.agg #[.bool n, .slice a l c], .int .i64 k]) := by
  obtain ⟨_, n, a, c, k, zs, he, _⟩ := h
  exact ⟨_, _, _, _, _, he⟩

/-- What the closure tells. -/
def MadeTells (n : Bool) (k0 : Int) (N : Nat) (k : Int) (m : Bool) (zs : List Nat) : Prop :=
  (k0 ≠ 0 ∧ k = k0 ∧ m = false ∧ zs = []) ∨ (k0 = 0 ∧ LIM ≤ N ∧ k = 3 ∧ m = false ∧ zs = []) ∨ (k0 = 0 ∧ N < LIM ∧ k = 0 ∧ m = (n && decide (0 < N)) ∧ Num zs N)
/-- What Parse tells. -/
def WParseTells (l : List UInt8) (k : Int) (m : Bool) (zs : List Nat) : Prop :=
  (65536 < l.length ∧ k = 3 ∧ m = false ∧ zs = []) ∨ (l.length ≤ 65536 ∧ decB (Lib.trimPrefix l [45]) = false ∧ k = 12 ∧ m = false ∧ zs = []) ∨
  (l.length ≤ 65536 ∧ decB (Lib.trimPrefix l [45]) = true ∧ LIM ≤ dval (Lib.trimPrefix l [45]) ∧ k = 3 ∧ m = false ∧ zs = []) ∨
  (l.length ≤ 65536 ∧ decB (Lib.trimPrefix l [45]) = true ∧ dval (Lib.trimPrefix l [45]) < LIM ∧ k = 0 ∧ m = (Lib.hasPrefix l [45] && decide (0 < dval (Lib.trimPrefix l [45]))) ∧ Num zs (dval (Lib.trimPrefix l [45])))
theorem trimPrefix_len (l p : List UInt8) : (Lib.trimPrefix l p).length ≤ l.length := by unfold Lib.trimPrefix; split <;> simp
end Go.Proofs.YtfjhmnbbjknflaaDoor
