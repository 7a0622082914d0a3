import Derived.Test.YtfjhmnbbjknflaaDoorGC
import Derived.Test.YtfjhmnbbjknflaaDoorGB
namespace Go.Proofs.YtfjhmnbbjknflaaDoor
open Go.RowKit

/-- What a reading tells, as a number and a list. -/
def ParseTells (l : List UInt8) (k : Int) (zs : List Nat) : Prop :=
  (65536 < l.length ∧ k = 3 ∧ zs = []) ∨ (l.length ≤ 65536 ∧ decB l = false ∧ k = 12 ∧ zs = []) ∨
  (l.length ≤ 65536 ∧ decB l = true ∧ 18446744073709551616 ^ 128 ≤ dval l ∧ k = 3 ∧ zs = []) ∨
  (l.length ≤ 65536 ∧ decB l = true ∧ dval l < 18446744073709551616 ^ 128 ∧ k = 0 ∧ Num zs (dval l))
def FromTells (l : List Nat) (k : Int) (zs : List Nat) : Prop :=
  (18446744073709551616 ^ 128 ≤ bval l ∧ k = 3 ∧ zs = []) ∨ (bval l < 18446744073709551616 ^ 128 ∧ k = 0 ∧ Num zs (bval l))
def Told (Q : Int → List Nat → Prop) (w : World) (e : Ending) (w' : World) : Prop :=
  Below w.heap.size w w' ∧ ∃ a c k zs, e = .returned (.tuple #[.slice a zs.length c, .int .i64 k]) ∧ own64 w' w.heap.size (.slice a zs.length c) zs ∧ zs.length ≤ 128 ∧ Q k zs
theorem ParsePost.told {l : List UInt8} {w w' : World} {e : Ending} (h : ParsePost l w e w') : Told (ParseTells l) w e w' := by
  obtain ⟨hb, h | h | h | h⟩ := h
  · exact ⟨hb, none, 0, 3, [], h.2, own64_nil _ _, by decide, .inl ⟨h.1, rfl, rfl⟩⟩
  · exact ⟨hb, none, 0, 12, [], h.2.2, own64_nil _ _, by decide, .inr (.inl ⟨h.1, h.2.1, rfl, rfl⟩)⟩
  · exact ⟨hb, none, 0, 3, [], h.2.2.2, own64_nil _ _, by decide, .inr (.inr (.inl ⟨h.1, h.2.1, h.2.2.1, rfl, rfl⟩))⟩
  · obtain ⟨h1, h2, h3, v, zs, rfl, ho, hn⟩ := h
    obtain ⟨a, c, rfl, _⟩ := own64.form ho
    exact ⟨hb, a, c, 0, zs, rfl, ho, hn.len_le.2 h3, .inr (.inr (.inr ⟨h1, h2, h3, rfl, hn⟩))⟩
theorem FromPost.told {l : List Nat} {w w' : World} {e : Ending} (h : FromPost l w e w') : Told (FromTells l) w e w' := by
  obtain ⟨hb, h | h⟩ := h
  · exact ⟨hb, none, 0, 3, [], h.2, own64_nil _ _, by decide, .inl ⟨h.1, rfl, rfl⟩⟩
  · obtain ⟨h3, v, zs, rfl, ho, hn⟩ := h
    obtain ⟨a, c, rfl, _⟩ := own64.form ho
    exact ⟨hb, a, c, 0, zs, rfl, ho, hn.len_le.2 h3, .inr ⟨h3, rfl, hn⟩⟩
theorem ParseTells.one {l : List UInt8} {k k' : Int} {zs zs' : List Nat} (h : ParseTells l k zs) (h' : ParseTells l k' zs') : k = k' ∧ zs = zs' := by
  rcases h with ⟨h1, rfl, rfl⟩ | ⟨h1, h2, rfl, rfl⟩ | ⟨h1, h2, h3, rfl, rfl⟩ | ⟨h1, h2, h3, rfl, h4⟩ <;>
  rcases h' with ⟨g1, rfl, rfl⟩ | ⟨g1, g2, rfl, rfl⟩ | ⟨g1, g2, g3, rfl, rfl⟩ | ⟨g1, g2, g3, rfl, g4⟩ <;>
  first | exact ⟨rfl, rfl⟩ | exact ⟨rfl, h4.unique g4⟩ | (exfalso; omega) | (exfalso; simp_all)
theorem FromTells.one {l : List Nat} {k k' : Int} {zs zs' : List Nat} (h : FromTells l k zs) (h' : FromTells l k' zs') : k = k' ∧ zs = zs' := by
  rcases h with ⟨h1, rfl, rfl⟩ | ⟨h3, rfl, h4⟩ <;>
  rcases h' with ⟨g1, rfl, rfl⟩ | ⟨g3, rfl, g4⟩ <;>
  first | exact ⟨rfl, rfl⟩ | exact ⟨rfl, h4.unique g4⟩ | (exfalso; omega)
end Go.Proofs.YtfjhmnbbjknflaaDoor
