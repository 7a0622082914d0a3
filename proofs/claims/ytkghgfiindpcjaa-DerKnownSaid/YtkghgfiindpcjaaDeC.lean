import Derived.Test.YtkghgfiindpcjaaDeB
namespace Go.Proofs.Ytkghgfiindpcjaa
open Go.RowKit

/-! Where an item lies; what an error tells besides. -/
theorem item0_err {b : List Nat} (h : (item0 b).1 ≠ 0) : (item0 b = (70, 0, 0, 0) ∨ item0 b = (72, 0, 0, 0)) := by
  match b, h with
  | [], _ => exact .inl rfl
  | [_], _ => exact .inl rfl
  | t :: n :: r, h =>
    rw [item0] at h ⊢
    split
    · exact .inr rfl
    · split
      · split
        · exact .inl rfl
        · split
          · exact .inr rfl
          · split
            · exact .inl rfl
            · rename_i h1 h2 h3 h4 h5
              rw [if_neg h1, if_pos h2, if_neg h3, if_neg h4, if_neg h5] at h
              exact absurd rfl h
      · split
        · exact .inl rfl
        · rename_i h1 h2 h3
          rw [if_neg h1, if_neg h2, if_neg h3] at h
          exact absurd rfl h
theorem item0_cases (b : List Nat) : (∃ t f o, item0 b = (0, t, f, o)) ∨ item0 b = (70, 0, 0, 0) ∨ item0 b = (72, 0, 0, 0) := by
  by_cases h : (item0 b).1 = 0
  · rcases hi : item0 b with ⟨e, t, f, o⟩
    rw [hi] at h
    have h : e = 0 := h
    subst h
    exact .inl ⟨t, f, o, rfl⟩
  · exact .inr (item0_err h)
/-- Where an item lies. -/
theorem item0_lies {b : List Nat} {t f o : Nat} (h8 : B8 b) (h : item0 b = (0, t, f, o)) :
    2 ≤ f ∧ f ≤ 6 ∧ f ≤ o ∧ o ≤ b.length ∧ at0 b 0 = t ∧ (∀ post, item0 (b ++ post) = (0, t, f, o)) ∧ item0 (b.take o) = (0, t, f, o) ∧ item0 (b.take (o - 1)) = (70, 0, 0, 0) := by
  obtain ⟨l, c, post, rfl, hl, rfl, rfl⟩ := item0_ok h8 h
  have h1 := hl.len
  have e2 : 1 + l.length + c.length = (t :: (l ++ c)).length := by simp; omega
  have e : t :: (l ++ (c ++ post)) = (t :: (l ++ c)) ++ post := by simp
  refine ⟨by omega, by omega, by omega, ?_, rfl, fun q => ?_, ?_, ?_⟩
  · simp; omega
  · have : t :: (l ++ (c ++ post)) ++ q = t :: (l ++ (c ++ (post ++ q))) := by simp
    rw [this, item0_of hl rfl]
  · rw [e, e2, List.take_left' rfl]
    have := item0_of (t := t) (post := []) hl rfl
    rw [List.append_nil] at this
    rw [this, e2]
  · rw [e, List.take_append_of_le_length (by rw [← e2]; omega)]
    exact item0_cut hl rfl _ (by rw [← e2]; omega)
/-- The item at a place. -/
def itemA (b : List Nat) (a : Nat) : Int × Nat × Nat × Nat :=
  let i := item0 (b.drop a)
  if i.1 ≠ 0 then i else (0, i.2.1, a + i.2.2.1, a + i.2.2.2)
theorem itemA_lies {b : List Nat} {a t f o : Nat} (h8 : B8 b) (ha : a ≤ b.length) (h : itemA b a = (0, t, f, o)) :
    a + 2 ≤ f ∧ f ≤ a + 6 ∧ f ≤ o ∧ o ≤ b.length ∧ at0 b a = t ∧ (∀ post, itemA (b ++ post) a = (0, t, f, o)) ∧ itemA ((b.take o).drop a) 0 = (0, t, f - a, o - a) ∧ itemA (b.take (o - 1)) a = (70, 0, 0, 0) := by
  rcases hi : item0 (b.drop a) with ⟨e, t', f', o'⟩
  simp only [itemA, hi] at h
  by_cases he : e = 0
  · subst he
    rw [if_neg (by simp)] at h
    simp only [Prod.mk.injEq, true_and] at h
    obtain ⟨rfl, rfl, rfl⟩ := h
    obtain ⟨h1, h2, h3, h4, h5, h6, h7, h9⟩ := item0_lies (h8.drop _) hi
    rw [List.length_drop] at h4
    refine ⟨by omega, by omega, by omega, by omega, ?_, fun q => ?_, ?_, ?_⟩
    · rw [← h5, at0_drop]; rfl
    · simp only [itemA]
      rw [List.drop_append_of_le_length ha, h6 q]
      simp
    · have e1 : (b.take (a + o')).drop a = (b.drop a).take o' := by rw [List.drop_take]; congr 1; omega
      simp only [itemA, List.drop_zero]
      rw [e1, h7]
      simp
    · have e1 : (b.take (a + o' - 1)).drop a = (b.drop a).take (o' - 1) := by rw [List.drop_take]; congr 1; omega
      simp only [itemA]
      rw [e1, h9]
      simp
  · rw [if_pos he] at h
    simp only [Prod.mk.injEq] at h
    exact absurd h.1 he
theorem itemA_cases (b : List Nat) (a : Nat) : (∃ t f o, itemA b a = (0, t, f, o)) ∨ itemA b a = (70, 0, 0, 0) ∨ itemA b a = (72, 0, 0, 0) := by
  rcases item0_cases (b.drop a) with ⟨t, f, o, h⟩ | h | h <;> simp [itemA, h]
theorem intE_cases (c : List Nat) : intE c = 0 ∨ intE c = 73 ∨ intE c = 3 := by
  unfold intE
  split
  · split
    · exact .inl rfl
    · exact .inr (.inr rfl)
  · exact .inr (.inl rfl)
theorem int0_err {c : List Nat} (h : (int0 c).1 ≠ 0) : int0 c = ((int0 c).1, 0, []) := by
  simp only [int0] at h ⊢
  split
  · rfl
  · split
    · rfl
    · split
      · rfl
      · rename_i h1 h2 h3
        rw [if_neg h1, if_neg h2, if_neg h3] at h
        exact absurd rfl h
/-- The integer at a place, and where it ends. -/
def intA (c : List Nat) (a : Nat) : Int × Nat × Nat :=
  let i := itemA c a
  if i.1 ≠ 0 then (i.1, 0, 0)
  else if i.2.1 ≠ 2 then (71, 0, 0)
  else if intE ((c.take i.2.2.2).drop i.2.2.1) ≠ 0 then (intE ((c.take i.2.2.2).drop i.2.2.1), 0, 0)
  else (0, bval ((c.take i.2.2.2).drop i.2.2.1), i.2.2.2)
theorem int0_at (c : List Nat) (a : Nat) : int0 (c.drop a) = ((intA c a).1, (intA c a).2.1, if (intA c a).1 = 0 then c.drop (intA c a).2.2 else []) := by
  rcases item0_cases (c.drop a) with ⟨t, f, o, h⟩ | h | h
  · have e1 : (c.take (a + o)).drop (a + f) = ((c.drop a).take o).drop f := by
      rw [List.drop_take, List.drop_take, List.drop_drop]; congr 1; omega
    simp only [int0, intA, itemA, h, ne_eq, not_true_eq_false, if_false, e1]
    by_cases h2 : t = 2
    · subst h2
      simp only [not_true_eq_false, if_false]
      by_cases h3 : intE (((c.drop a).take o).drop f) = 0
      · simp only [h3, not_true_eq_false, if_false, if_true, List.drop_drop]
      · simp only [h3, not_false_eq_true, if_true, if_false]
    · simp only [h2, not_false_eq_true, if_true]
      rfl
  · simp only [int0, intA, itemA, h]; rfl
  · simp only [int0, intA, itemA, h]; rfl
theorem dec0_err {b : List Nat} (h : (dec0 b).1 ≠ 0) : dec0 b = ((dec0 b).1, 0, 0) := by
  simp only [dec0] at h ⊢
  split
  · rfl
  · split
    · rfl
    · split
      · rfl
      · split
        · rfl
        · split
          · rfl
          · split
            · rfl
            · rename_i h1 h2 h3 h4 h5 h6
              rw [if_neg h1, if_neg h2, if_neg h3, if_neg h4, if_neg h5, if_neg h6] at h
              exact absurd rfl h
end Go.Proofs.Ytkghgfiindpcjaa
