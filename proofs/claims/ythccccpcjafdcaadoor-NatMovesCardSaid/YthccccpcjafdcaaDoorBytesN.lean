import Derived.Test.YthccccpcjafdcaaDoorShift
namespace Go.Proofs.YthccccpcjafdcaaDoor
open Go.RowKit

/-- A number's bytes: the greatest one first, and it is not 0. -/
structure BNum (l : List Nat) (n : Nat) : Prop where
  b8 : B8 l
  cn : 0 < l.length → at0 l 0 ≠ 0
  vl : bval l = n
theorem BNum.nil : BNum [] 0 := ⟨(fun x hx => by cases hx), fun h => by simp at h, rfl⟩
theorem B8.snoc {l : List Nat} {c : Nat} (h : B8 l) (hc : c < 256) : B8 (l ++ [c]) := fun x hx => by
  rcases List.mem_append.1 hx with hx | hx
  · exact h x hx
  · obtain rfl : x = c := by simpa using hx
    exact hc
theorem BNum.snoc {l : List Nat} {n c : Nat} (h : BNum l n) (hc : c < 256) (h0 : c ≠ 0 ∨ 0 < l.length) : BNum (l ++ [c]) (256 * n + c) := by
  refine ⟨h.b8.snoc hc, fun _ => ?_, by rw [bval_snoc, h.vl]⟩
  rcases Nat.eq_zero_or_pos l.length with hl | hl
  · have : l = [] := List.eq_nil_of_length_eq_zero hl
    subst this
    rcases h0 with h0 | h0
    · exact h0
    · simp at h0
  · have := h.cn hl
    rw [at0_append_left hl]
    exact this
theorem snoc_ind {p : List Nat → Prop} (h0 : p []) (hs : ∀ l c, p l → p (l ++ [c])) (l : List Nat) : p l := by
  have : ∀ r : List Nat, p r.reverse := by
    intro r
    induction r with
    | nil => exact h0
    | cons c r ih => rw [List.reverse_cons]; exact hs _ _ ih
  have h := this l.reverse
  rwa [List.reverse_reverse] at h
theorem BNum.zero {l : List Nat} (h : BNum l 0) : l = [] := by
  rcases List.eq_nil_or_concat l with rfl | ⟨m, c, rfl⟩
  · rfl
  · exfalso
    have h1 := h.vl
    rw [List.concat_eq_append, bval_snoc] at h1
    have hcn := h.cn (by simp)
    have key : ∀ (m : List Nat) (c : Nat), 256 * bval m + c = 0 → at0 (m ++ [c]) 0 = 0 := by
      refine snoc_ind ?_ ?_
      · intro c hc; simp [at0]; omega
      · intro m d ih c hc
        have h2 : bval (m ++ [d]) = 0 := by omega
        rw [bval_snoc] at h2
        rw [at0_append_left (by simp)]
        exact ih d h2
    rw [List.concat_eq_append] at hcn
    exact hcn (key m c h1)
theorem BNum.unique : ∀ (k : Nat) {l l' : List Nat} {n : Nat}, l.length ≤ k → BNum l n → BNum l' n → l = l' := by
  intro k
  induction k with
  | zero =>
    intro l l' n hk h h'
    have : l = [] := List.eq_nil_of_length_eq_zero (by omega)
    subst this
    have h0 : n = 0 := h.vl.symm
    subst h0
    exact h'.zero.symm
  | succ k ih =>
    intro l l' n hk h h'
    rcases List.eq_nil_or_concat l with rfl | ⟨m, c, rfl⟩
    · have h0 : n = 0 := h.vl.symm
      subst h0
      exact h'.zero.symm
    · rcases List.eq_nil_or_concat l' with rfl | ⟨m', c', rfl⟩
      · have h0 : n = 0 := h'.vl.symm
        subst h0
        exact h.zero
      · rw [List.concat_eq_append] at h h' hk ⊢
        rw [List.concat_eq_append]
        have a1 := h.vl
        have a2 := h'.vl
        rw [bval_snoc] at a1 a2
        have c1 : c < 256 := h.b8 c (by simp)
        have c2 : c' < 256 := h'.b8 c' (by simp)
        have e1 : c = c' := by omega
        have e2 : bval m = bval m' := by omega
        subst e1
        have p1 : BNum m (bval m) := ⟨fun x hx => h.b8 x (by simp [hx]), fun hl => by have := h.cn (by simp); rw [at0_append_left hl] at this; exact this, rfl⟩
        have p2 : BNum m' (bval m) := ⟨fun x hx => h'.b8 x (by simp [hx]), fun hl => by have := h'.cn (by simp); rw [at0_append_left hl] at this; exact this, e2.symm⟩
        rw [ih (by simp at hk; omega) p1 p2]
theorem bval_digits {V L : Nat} : ∀ (bs : List Nat), bs.length ≤ L → (∀ i, i < bs.length → at0 bs i = V / 256 ^ (L - 1 - i) % 256) → bval bs = V / 256 ^ (L - bs.length) % 256 ^ bs.length := by
  refine snoc_ind ?_ ?_
  · intro _ _; simp [bval, Nat.mod_one]
  · intro m d ih hl h
    simp at hl
    have h1 := h m.length (by simp)
    have h2 : at0 (m ++ [d]) m.length = d := by
      have := at0_append_right (xs := m) (ys := [d]) 0
      rw [Nat.add_zero] at this
      rw [this]; rfl
    rw [h2] at h1
    have h3 := ih (by omega) (fun i hi => by have := h i (by simp; omega); rw [at0_append_left hi] at this; exact this)
    rw [bval_snoc, h3, h1, List.length_append, List.length_singleton, show L - 1 - m.length = L - (m.length + 1) by omega]
    have e : 256 ^ (L - m.length) = 256 ^ (L - (m.length + 1)) * 256 := by rw [← Nat.pow_succ]; congr 1; omega
    rw [e, ← Nat.div_div_eq_div_mul]
    generalize V / 256 ^ (L - (m.length + 1)) = U
    rw [Nat.pow_succ, Nat.mul_comm (256 ^ m.length) 256, Nat.mod_mul]
    omega
end Go.Proofs.YthccccpcjafdcaaDoor
