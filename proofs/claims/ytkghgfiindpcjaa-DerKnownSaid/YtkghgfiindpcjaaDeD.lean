import Derived.Test.YtkghgfiindpcjaaDeC
namespace Go.Proofs.Ytkghgfiindpcjaa
open Go.RowKit

/-! A length alone; the item at any place; what the program's and the reference's calls tell. -/
/-- A length at the beginning: what is wrong, the length, how many bytes it takes. -/
def len0 : List Nat → Int × Nat × Nat
  | [] => (70, 0, 0)
  | n :: r =>
    if n < 128 then (0, n, 1)
    else if n = 128 ∨ 132 < n then (72, 0, 0)
    else if r.length < n - 128 then (70, 0, 0)
    else if bval (r.take (n - 128)) < 128 ∨ at0 r 0 = 0 then (72, 0, 0)
    else (0, bval (r.take (n - 128)), 1 + (n - 128))
theorem item0_len (t : Nat) (r : List Nat) (hr : 0 < r.length) :
    item0 (t :: r) = if (len0 r).1 ≠ 0 then ((len0 r).1, 0, 0, 0) else if r.length - (len0 r).2.2 < (len0 r).2.1 then (70, 0, 0, 0) else (0, t, 1 + (len0 r).2.2, 1 + (len0 r).2.2 + (len0 r).2.1) := by
  match r, hr with
  | n :: r, _ =>
    rw [item0, len0]
    by_cases h0 : n < 128
    · rw [if_neg (by omega), if_neg (by omega)]
      simp only [if_pos h0, List.length_cons, Nat.add_sub_cancel, ne_eq, not_true_eq_false, if_false, Nat.reduceAdd]
    · by_cases h1 : n = 128 ∨ 132 < n
      · rw [if_pos h1]; simp [h0, h1]
      · rw [if_neg h1, if_pos (by omega)]
        simp only [if_neg h0, if_neg h1]
        by_cases h2 : r.length < n - 128
        · simp [h2]
        · simp only [if_neg h2]
          by_cases h3 : bval (r.take (n - 128)) < 128 ∨ at0 r 0 = 0
          · simp [h3]
          · simp only [if_neg h3, List.length_cons, ne_eq, not_true_eq_false, if_false]
            rw [show r.length + 1 - (1 + (n - 128)) = r.length - (n - 128) by omega, show 1 + (1 + (n - 128)) = 2 + (n - 128) by omega]
theorem len0_cases (r : List Nat) : (∃ n u, len0 r = (0, n, u)) ∨ len0 r = (70, 0, 0) ∨ len0 r = (72, 0, 0) := by
  match r with
  | [] => exact .inr (.inl rfl)
  | n :: r =>
    rw [len0]
    split
    · exact .inl ⟨_, _, rfl⟩
    · split
      · exact .inr (.inr rfl)
      · split
        · exact .inr (.inl rfl)
        · split
          · exact .inr (.inr rfl)
          · exact .inl ⟨_, _, rfl⟩
theorem len0_lt {r : List Nat} {n u : Nat} (h8 : B8 r) (h : len0 r = (0, n, u)) : n < 4294967296 ∧ u ≤ r.length ∧ 1 ≤ u ∧ u ≤ 5 := by
  match r, h8, h with
  | [], _, h => simp [len0] at h
  | x :: r, h8, h =>
    rw [len0] at h
    split at h
    · simp only [Prod.mk.injEq, true_and] at h
      obtain ⟨rfl, rfl⟩ := h
      simp; omega
    · split at h
      · simp at h
      · split at h
        · simp at h
        · split at h
          · simp at h
          · simp only [Prod.mk.injEq, true_and] at h
            obtain ⟨rfl, rfl⟩ := h
            have h1 := bval_lt ((b8_tail h8).take (x - 128))
            have h2 : (256 : Nat) ^ (r.take (x - 128)).length ≤ 256 ^ 4 := Nat.pow_le_pow_right (by decide) (by rw [List.length_take]; omega)
            have h3 : (256 : Nat) ^ 4 = 4294967296 := by decide
            simp; omega
/-- The item at any place. -/
def itemI (b : List Nat) (at' : Int) : Int × Nat × Nat × Nat := if at' < 0 ∨ (b.length : Int) < at' then (2, 0, 0, 0) else itemA b at'.toNat
theorem itemI_in {b : List Nat} {a : Nat} (h : a ≤ b.length) : itemI b (a : Nat) = itemA b a := by
  rw [itemI, if_neg (by omega)]; rfl
theorem itemA_len {b : List Nat} {a : Nat} (h : a + 2 ≤ b.length) :
    itemA b a = if (len0 (b.drop (a + 1))).1 ≠ 0 then ((len0 (b.drop (a + 1))).1, 0, 0, 0) else if b.length - (a + 1 + (len0 (b.drop (a + 1))).2.2) < (len0 (b.drop (a + 1))).2.1 then (70, 0, 0, 0)
      else (0, at0 b a, a + 1 + (len0 (b.drop (a + 1))).2.2, a + 1 + (len0 (b.drop (a + 1))).2.2 + (len0 (b.drop (a + 1))).2.1) := by
  have e1 : b.drop a = at0 b a :: b.drop (a + 1) := by
    rw [List.drop_eq_getElem_cons (by omega), at0_getElem (by omega)]
  have e2 : (b.drop (a + 1)).length = b.length - (a + 1) := by rw [List.length_drop]
  rw [itemA, e1, item0_len _ _ (by omega), e2, show b.length - (a + 1) - (len0 (b.drop (a + 1))).2.2 = b.length - (a + 1 + (len0 (b.drop (a + 1))).2.2) by omega]
  rcases len0_cases (b.drop (a + 1)) with ⟨n, u, h⟩ | h | h
  · simp only [h, ne_eq, not_true_eq_false, if_false]
    split
    · simp
    · simp only [not_true_eq_false, if_false]
      rw [show a + (1 + u) = a + 1 + u by omega, show a + (1 + u + n) = a + 1 + u + n by omega]
  · simp [h]
  · simp [h]
theorem itemA_short {b : List Nat} {a : Nat} (h : b.length < a + 2) : itemA b a = (70, 0, 0, 0) := by
  have hl : (b.drop a).length < 2 := by rw [List.length_drop]; omega
  rw [itemA]
  match b.drop a, hl with
  | [], _ => simp [item0]
  | [_], _ => simp [item0]
  | _ :: _ :: _, h => simp at h; omega
end Go.Proofs.Ytkghgfiindpcjaa
