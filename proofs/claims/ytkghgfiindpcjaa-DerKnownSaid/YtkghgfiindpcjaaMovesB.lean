import Derived.Test.YtkghgfiindpcjaaMoves
namespace Go.Proofs.Ytkghgfiindpcjaa
open Go.RowKit

theorem rd64_of {w : World} {B g n c : Nat} {xs : List Nat} {L : List Value} (h : w.ownsRow B 56 1 (.slice (some ⟨g, 0, none⟩) n c) n L) (hL : L.take xs.length = u64s xs) (hn : xs.length ≤ n) : Rd .u64 w (some ⟨g, 0, none⟩) xs := by
  intro j hj
  refine ⟨g, 0, rfl, fun i hi => ?_⟩
  rw [Nat.zero_add, World.ownsRow.cellAt h i (by omega)]
  have h1 := u64s_get xs i hi
  rw [← hL, List.getElem?_take, if_pos hi] at h1
  exact h1
theorem TextTells.form {P : Prop} {n : Nat} {w w' : World} {e : Ending} (h : TextTells P n w e w') : ∃ T k, e = .returned (.tuple #[.string T, .int .i64 k]) := by
  rcases h.2 with ⟨_, rfl⟩ | ⟨_, l, _, rfl⟩
  · exact ⟨_, _, rfl⟩
  · exact ⟨_, _, rfl⟩
/-- A list of bytes as a row. -/
def rw8 (v : Value) (zs : List Nat) : Rw := ⟨v, 5, zs.length, u8s zs⟩

end Go.Proofs.Ytkghgfiindpcjaa
