import Derived.Test.YtkghgfiindpcjaaHv
namespace Go.Proofs.Ytkghgfiindpcjaa
open Go.RowKit

/-! Items of bytes that tell their length, over lists of numbers. -/
theorem b8_tail {x : Nat} {xs : List Nat} (h : B8 (x :: xs)) : B8 xs := fun y hy => h y (List.mem_cons_of_mem _ hy)
theorem b8_head {x : Nat} {xs : List Nat} (h : B8 (x :: xs)) : x < 256 := h x (List.mem_cons_self ..)
theorem b8_app {xs ys : List Nat} (h : B8 xs) (k : B8 ys) : B8 (xs ++ ys) := fun y hy => by
  rcases List.mem_append.1 hy with h1 | h1
  · exact h y h1
  · exact k y h1
theorem bnum_ex : ∀ n : Nat, ∃ l, BNum l n := by
  intro n
  induction n using Nat.strongRecOn with
  | ind n ih =>
    by_cases h0 : n = 0
    · subst h0; exact ⟨[], BNum.nil⟩
    · obtain ⟨l, hl⟩ := ih (n / 256) (by omega)
      have e : 256 * (n / 256) + n % 256 = n := by omega
      refine ⟨l ++ [n % 256], ?_⟩
      have := hl.snoc (c := n % 256) (by omega) ?_
      · rwa [e] at this
      · by_cases h1 : n % 256 = 0
        · refine .inr ?_
          rcases l with _ | ⟨x, l⟩
          · exfalso
            have := hl.vl
            simp [bval] at this
            omega
          · simp
        · exact .inl h1
theorem bnum_len {l : List Nat} {n k : Nat} (h : BNum l n) (hn : n < 256 ^ k) : l.length ≤ k := by
  refine Nat.le_of_not_lt fun hk => ?_
  rcases l with _ | ⟨x, l⟩
  · simp at hk
  · have h0 := h.cn (by simp)
    have h1 := h.vl
    rw [bval_cons] at h1
    have h2 : at0 (x :: l) 0 = x := rfl
    rw [h2] at h0
    have h3 : 256 ^ k ≤ 256 ^ l.length := Nat.pow_le_pow_right (by decide) (by simp at hk; omega)
    have h4 : 1 * 256 ^ l.length ≤ x * 256 ^ l.length := Nat.mul_le_mul_right _ (by omega)
    omega
theorem bnum_lt {l : List Nat} {n : Nat} (h : BNum l n) : n < 256 ^ l.length := by
  have := bval_lt h.b8
  rwa [h.vl] at this

/-- A length's bytes. -/
def LenB (n : Nat) (l : List Nat) : Prop := (n < 128 ∧ l = [n]) ∨ (128 ≤ n ∧ ∃ m, BNum m n ∧ m.length ≤ 4 ∧ l = (128 + m.length) :: m)
theorem LenB.one {n : Nat} {l l' : List Nat} (h : LenB n l) (g : LenB n l') : l = l' := by
  rcases h with ⟨h1, rfl⟩ | ⟨h1, m, h2, h3, rfl⟩ <;> rcases g with ⟨g1, rfl⟩ | ⟨g1, m', g2, g3, rfl⟩
  · rfl
  · omega
  · omega
  · rw [BNum.unique _ (Nat.le_refl _) h2 g2]
theorem LenB.ex (n : Nat) (h : n < 4294967296) : ∃ l, LenB n l := by
  by_cases h1 : n < 128
  · exact ⟨_, .inl ⟨h1, rfl⟩⟩
  · obtain ⟨m, hm⟩ := bnum_ex n
    exact ⟨_, .inr ⟨by omega, m, hm, bnum_len hm (by simpa using h), rfl⟩⟩
theorem LenB.len {n : Nat} {l : List Nat} (h : LenB n l) : 1 ≤ l.length ∧ l.length ≤ 5 := by
  rcases h with ⟨_, rfl⟩ | ⟨_, m, _, h3, rfl⟩
  · simp
  · simp; omega
theorem LenB.b8 {n : Nat} {l : List Nat} (h : LenB n l) : B8 l := by
  rcases h with ⟨h1, rfl⟩ | ⟨_, m, h2, h3, rfl⟩
  · intro x hx; simp at hx; omega
  · intro x hx
    rcases List.mem_cons.1 hx with rfl | hx
    · omega
    · exact h2.b8 x hx
theorem LenB.lt {n : Nat} {l : List Nat} (h : LenB n l) : n < 4294967296 := by
  rcases h with ⟨h1, rfl⟩ | ⟨_, m, h2, h3, rfl⟩
  · omega
  · have h4 := bnum_lt h2
    have h5 : 256 ^ m.length ≤ 256 ^ 4 := Nat.pow_le_pow_right (by decide) h3
    have h6 : (256 : Nat) ^ 4 = 4294967296 := by decide
    omega

/-- The item at the beginning: what is wrong, the tag, where the content begins and ends. -/
def item0 : List Nat → Int × Nat × Nat × Nat
  | [] => (70, 0, 0, 0)
  | [_] => (70, 0, 0, 0)
  | t :: n :: r =>
    if n = 128 ∨ 132 < n then (72, 0, 0, 0)
    else if 128 < n then
      if r.length < n - 128 then (70, 0, 0, 0)
      else if bval (r.take (n - 128)) < 128 ∨ at0 r 0 = 0 then (72, 0, 0, 0)
      else if r.length - (n - 128) < bval (r.take (n - 128)) then (70, 0, 0, 0)
      else (0, t, 2 + (n - 128), 2 + (n - 128) + bval (r.take (n - 128)))
    else if r.length < n then (70, 0, 0, 0)
    else (0, t, 2, 2 + n)
theorem item0_of {t n : Nat} {l c post : List Nat} (hl : LenB n l) (hc : c.length = n) : item0 (t :: (l ++ (c ++ post))) = (0, t, 1 + l.length, 1 + l.length + n) := by
  rcases hl with ⟨h1, rfl⟩ | ⟨h1, m, h2, h3, rfl⟩
  · show item0 (t :: n :: (c ++ post)) = _
    rw [item0, if_neg (by omega), if_neg (by omega), if_neg (by rw [List.length_append]; omega)]
    rfl
  · have hm0 : 0 < m.length := by
      refine Nat.pos_of_ne_zero fun h => ?_
      have := bnum_lt h2
      rw [h] at this
      simp at this
      omega
    have e1 : 128 + m.length - 128 = m.length := by omega
    have e2 : (m ++ (c ++ post)).take m.length = m := by simp
    have e3 : at0 (m ++ (c ++ post)) 0 = at0 m 0 := at0_append_left hm0
    show item0 (t :: (128 + m.length) :: (m ++ (c ++ post))) = _
    rw [item0, if_neg (by omega), if_pos (by omega), e1, if_neg (by rw [List.length_append]; omega), e2, h2.vl, e3, if_neg (by have := h2.cn hm0; omega), if_neg (by rw [List.length_append, List.length_append]; omega)]
    simp only [List.length_cons]
    rw [show 1 + (m.length + 1) = 2 + m.length by omega]
theorem item0_ok {b : List Nat} {t f o : Nat} (h8 : B8 b) (h : item0 b = (0, t, f, o)) : ∃ l c post, b = t :: (l ++ (c ++ post)) ∧ LenB c.length l ∧ f = 1 + l.length ∧ o = f + c.length := by
  match b, h8, h with
  | [], _, h => simp [item0] at h
  | [_], _, h => simp [item0] at h
  | t' :: n :: r, h8, h =>
    rw [item0] at h
    by_cases h1 : n = 128 ∨ 132 < n
    · rw [if_pos h1] at h; simp at h
    · rw [if_neg h1] at h
      by_cases h2 : 128 < n
      · rw [if_pos h2] at h
        by_cases h3 : r.length < n - 128
        · rw [if_pos h3] at h; simp at h
        · rw [if_neg h3] at h
          by_cases h4 : bval (r.take (n - 128)) < 128 ∨ at0 r 0 = 0
          · rw [if_pos h4] at h; simp at h
          · rw [if_neg h4] at h
            by_cases h5 : r.length - (n - 128) < bval (r.take (n - 128))
            · rw [if_pos h5] at h; simp at h
            · rw [if_neg h5] at h
              simp only [Prod.mk.injEq, true_and] at h
              obtain ⟨rfl, rfl, rfl⟩ := h
              have hml : (r.take (n - 128)).length = n - 128 := by rw [List.length_take]; omega
              refine ⟨n :: r.take (n - 128), (r.drop (n - 128)).take (bval (r.take (n - 128))), (r.drop (n - 128)).drop (bval (r.take (n - 128))), ?_, .inr ⟨?_, r.take (n - 128), ⟨?_, fun _ => ?_, ?_⟩, by omega, by rw [hml, show 128 + (n - 128) = n by omega]⟩, ?_, ?_⟩
              · rw [List.take_append_drop, List.cons_append, List.take_append_drop]
              · rw [List.length_take, List.length_drop]; omega
              · exact (b8_tail (b8_tail h8)).take _
              · rw [at0_take (by omega)]; omega
              · rw [List.length_take, List.length_drop]; omega
              · simp only [List.length_cons, hml]; omega
              · rw [List.length_take, List.length_drop]; omega
      · rw [if_neg h2] at h
        by_cases h3 : r.length < n
        · rw [if_pos h3] at h; simp at h
        · rw [if_neg h3] at h
          simp only [Prod.mk.injEq, true_and] at h
          obtain ⟨rfl, rfl, rfl⟩ := h
          have hml : (r.take n).length = n := by rw [List.length_take]; omega
          refine ⟨[n], r.take n, r.drop n, ?_, ?_, rfl, by rw [hml]⟩
          · rw [List.take_append_drop]; rfl
          · rw [hml]; exact .inl ⟨by omega, rfl⟩
/-- An item that is cut short is none. -/
theorem item0_cut {t n : Nat} {l c : List Nat} (hl : LenB n l) (hc : c.length = n) (k : Nat) (hk : k < (t :: (l ++ c)).length) : item0 ((t :: (l ++ c)).take k) = (70, 0, 0, 0) := by
  rcases hl with ⟨h1, rfl⟩ | ⟨h1, m, h2, h3, rfl⟩
  · match k with
    | 0 => rfl
    | 1 => rfl
    | k + 2 =>
      show item0 (t :: n :: c.take k) = _
      have hl : (c.take k).length < n := by rw [List.length_take]; simp at hk; omega
      rw [item0, if_neg (by omega), if_neg (by omega), if_pos hl]
  · have hm0 : 0 < m.length := by
      refine Nat.pos_of_ne_zero fun h => ?_
      have := bnum_lt h2
      rw [h] at this
      simp at this
      omega
    match k with
    | 0 => rfl
    | 1 => rfl
    | k + 2 =>
      show item0 (t :: (128 + m.length) :: (m ++ c).take k) = _
      have e1 : 128 + m.length - 128 = m.length := by omega
      have hkl : k < m.length + n := by simp at hk; omega
      rw [item0, if_neg (by omega), if_pos (by omega), e1]
      by_cases hkm : k < m.length
      · rw [if_pos (by rw [List.length_take]; omega)]
      · have e2 : ((m ++ c).take k).take m.length = m := by rw [List.take_take, Nat.min_eq_left (by omega)]; simp
        have e3 : at0 ((m ++ c).take k) 0 = at0 m 0 := by rw [at0_take (by omega)]; exact at0_append_left hm0
        have hl : ((m ++ c).take k).length = k := by rw [List.length_take, List.length_append]; omega
        rw [if_neg (by omega), e2, h2.vl, e3, if_neg (by have := h2.cn hm0; omega), if_pos (by omega)]
end Go.Proofs.Ytkghgfiindpcjaa
