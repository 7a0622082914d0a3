import Derived.Test.YteanpdiceaijhaaDoorKit
namespace Go.Proofs.YteanpdiceaijhaaDoor

/-- The number of limbs, the least one first. -/
def val : List Nat → Nat
  | [] => 0
  | x :: xs => x + 18446744073709551616 * val xs
def Bd (xs : List Nat) : Prop := ∀ x ∈ xs, x < 18446744073709551616
/-- The limb at a place. -/
def at0 (xs : List Nat) (i : Nat) : Nat := xs.getD i 0
/-- No 0 at the end. -/
def Cn (xs : List Nat) : Prop := 0 < xs.length → at0 xs (xs.length - 1) ≠ 0
/-- How many limbs count. -/
def fl : List Nat → Nat
  | [] => 0
  | x :: xs => if fl xs = 0 then (if x = 0 then 0 else 1) else fl xs + 1
def fm (xs : List Nat) : List Nat := xs.take (fl xs)

theorem Bd.tail {x : Nat} {xs : List Nat} (h : Bd (x :: xs)) : Bd xs := fun y hy => h y (List.mem_cons_of_mem _ hy)
theorem Bd.head {x : Nat} {xs : List Nat} (h : Bd (x :: xs)) : x < 18446744073709551616 := h x (List.mem_cons_self ..)
theorem Bd.cons {x : Nat} {xs : List Nat} (hx : x < 18446744073709551616) (h : Bd xs) : Bd (x :: xs) := fun y hy => by
  rcases List.mem_cons.1 hy with rfl | hy
  · exact hx
  · exact h y hy
theorem Bd.nil : Bd [] := fun _ h => by cases h
theorem Bd.append {xs ys : List Nat} (h : Bd xs) (k : Bd ys) : Bd (xs ++ ys) := fun y hy => by
  rcases List.mem_append.1 hy with hy | hy
  · exact h y hy
  · exact k y hy
theorem Bd.take {xs : List Nat} (h : Bd xs) (n : Nat) : Bd (xs.take n) := fun y hy => h y (List.mem_of_mem_take hy)
theorem Bd.drop {xs : List Nat} (h : Bd xs) (n : Nat) : Bd (xs.drop n) := fun y hy => h y (List.mem_of_mem_drop hy)
theorem Bd.at0 {xs : List Nat} (h : Bd xs) (i : Nat) : at0 xs i < 18446744073709551616 := by
  unfold Go.Proofs.YteanpdiceaijhaaDoor.at0 List.getD
  by_cases hi : i < xs.length
  · rw [List.getElem?_eq_getElem hi]; exact h _ (List.getElem_mem hi)
  · rw [List.getElem?_eq_none (by omega)]; decide
theorem val_cons (x : Nat) (xs : List Nat) : val (x :: xs) = x + 18446744073709551616 * val xs := rfl
theorem val_append (xs ys : List Nat) : val (xs ++ ys) = val xs + 18446744073709551616 ^ xs.length * val ys := by
  induction xs with
  | nil => simp [val]
  | cons x xs ih => simp only [List.cons_append, val_cons, ih, List.length_cons, Nat.pow_succ, Nat.mul_add]; rw [show 18446744073709551616 ^ xs.length * 18446744073709551616 * val ys = 18446744073709551616 * (18446744073709551616 ^ xs.length * val ys) from by rw [Nat.mul_comm (18446744073709551616 ^ xs.length), Nat.mul_assoc]]; omega
theorem val_lt {xs : List Nat} (h : Bd xs) : val xs < 18446744073709551616 ^ xs.length := by
  induction xs with
  | nil => simp [val]
  | cons x xs ih => have h1 := h.head; have h2 := ih h.tail; simp only [val_cons, List.length_cons, Nat.pow_succ]; omega
theorem val_replicate (n : Nat) : val (List.replicate n 0) = 0 := by
  induction n with
  | zero => rfl
  | succ n ih => simp [List.replicate_succ, val_cons, ih]
theorem at0_cons_succ (x : Nat) (xs : List Nat) (i : Nat) : at0 (x :: xs) (i + 1) = at0 xs i := by simp [at0, List.getD]
theorem at0_cons_zero (x : Nat) (xs : List Nat) : at0 (x :: xs) 0 = x := rfl
theorem at0_out {xs : List Nat} {i : Nat} (h : xs.length ≤ i) : at0 xs i = 0 := by simp [at0, List.getD, List.getElem?_eq_none h]
theorem at0_getElem {xs : List Nat} {i : Nat} (h : i < xs.length) : at0 xs i = xs[i] := by simp [at0, List.getD, h]
theorem at0_append_left {xs ys : List Nat} {i : Nat} (h : i < xs.length) : at0 (xs ++ ys) i = at0 xs i := by simp [at0, List.getD, List.getElem?_append_left h]
theorem at0_append_right {xs ys : List Nat} (i : Nat) : at0 (xs ++ ys) (xs.length + i) = at0 ys i := by simp [at0, List.getD, List.getElem?_append_right]
theorem at0_take {xs : List Nat} {i n : Nat} (h : i < n) : at0 (xs.take n) i = at0 xs i := by simp [at0, List.getD, h]
theorem at0_drop {xs : List Nat} {i n : Nat} : at0 (xs.drop n) i = at0 xs (n + i) := by simp [at0, List.getD, List.getElem?_drop]
theorem take_succ_at0 {xs : List Nat} {k : Nat} (h : k < xs.length) : xs.take (k + 1) = xs.take k ++ [at0 xs k] := by
  rw [List.take_add_one, List.getElem?_eq_getElem h, at0_getElem h]; rfl
theorem ext_at0 {xs ys : List Nat} (hl : xs.length = ys.length) (h : ∀ i, i < xs.length → at0 xs i = at0 ys i) : xs = ys := by
  apply List.ext_getElem hl
  intro i h1 h2
  have := h i h1
  rw [at0_getElem h1, at0_getElem h2] at this
  exact this

theorem fl_spec (xs : List Nat) : fl xs ≤ xs.length ∧ (∀ i, fl xs ≤ i → at0 xs i = 0) ∧ (0 < fl xs → at0 xs (fl xs - 1) ≠ 0) := by
  induction xs with
  | nil => exact ⟨Nat.le_refl _, fun i _ => at0_out (Nat.zero_le _), fun h => by simp [fl] at h⟩
  | cons x xs ih =>
    obtain ⟨h1, h2, h3⟩ := ih
    unfold fl
    by_cases h0 : fl xs = 0
    · rw [if_pos h0]
      by_cases hx : x = 0
      · rw [if_pos hx]
        refine ⟨Nat.zero_le _, fun i _ => ?_, fun h => by omega⟩
        cases i with
        | zero => exact hx
        | succ i => rw [at0_cons_succ]; exact h2 i (by omega)
      · rw [if_neg hx]
        refine ⟨by simp, fun i hi => ?_, fun _ => hx⟩
        cases i with
        | zero => omega
        | succ i => rw [at0_cons_succ]; exact h2 i (by omega)
    · rw [if_neg h0]
      refine ⟨by simp; omega, fun i hi => ?_, fun _ => ?_⟩
      · cases i with
        | zero => omega
        | succ i => rw [at0_cons_succ]; exact h2 i (by omega)
      · rw [show fl xs + 1 - 1 = (fl xs - 1) + 1 by omega, at0_cons_succ]; exact h3 (by omega)
theorem fl_unique {xs : List Nat} {n : Nat} (_h1 : n ≤ xs.length) (h2 : ∀ i, n ≤ i → i < xs.length → at0 xs i = 0) (h3 : 0 < n → at0 xs (n - 1) ≠ 0) : n = fl xs := by
  obtain ⟨g1, g2, g3⟩ := fl_spec xs
  rcases Nat.lt_trichotomy n (fl xs) with h | h | h
  · exact absurd (h2 (fl xs - 1) (by omega) (by omega)) (g3 (by omega))
  · exact h
  · exact absurd (g2 (n - 1) (by omega)) (h3 (by omega))
theorem val_zeros {xs : List Nat} (h : ∀ i, i < xs.length → at0 xs i = 0) : val xs = 0 := by
  induction xs with
  | nil => rfl
  | cons x xs ih =>
    have h0 : x = 0 := by simpa [at0_cons_zero] using h 0 (by simp)
    have := ih (fun i hi => by simpa [at0_cons_succ] using h (i + 1) (by simpa using hi))
    rw [val_cons, h0, this]
theorem fm_val (xs : List Nat) : val (fm xs) = val xs := by
  have h : xs = fm xs ++ xs.drop (fl xs) := (List.take_append_drop _ _).symm
  have hz : val (xs.drop (fl xs)) = 0 := val_zeros (fun i _ => by rw [at0_drop]; exact (fl_spec xs).2.1 _ (by omega))
  rw (config := { occs := .pos [2] }) [h]
  rw [val_append, hz]; simp
theorem fm_length (xs : List Nat) : (fm xs).length = fl xs := by rw [fm, List.length_take]; have := (fl_spec xs).1; omega
theorem fm_bd {xs : List Nat} (h : Bd xs) : Bd (fm xs) := h.take _
theorem fm_cn (xs : List Nat) : Cn (fm xs) := by
  intro h
  rw [fm_length] at h ⊢
  rw [fm, at0_take (by omega)]
  exact (fl_spec xs).2.2 h
theorem fl_of_cn {xs : List Nat} (h : Cn xs) : fl xs = xs.length := (fl_unique (Nat.le_refl _) (fun i h1 h2 => by omega) h).symm
theorem fm_of_cn {xs : List Nat} (h : Cn xs) : fm xs = xs := by rw [fm, fl_of_cn h, List.take_length]

/-- A form's number tells the list. -/
theorem Cn.tail {x : Nat} {xs : List Nat} (h : Cn (x :: xs)) : Cn xs := by
  intro h0
  have := h (by simp)
  rw [List.length_cons, show xs.length + 1 - 1 = (xs.length - 1) + 1 by omega, at0_cons_succ] at this
  exact this
theorem cn_val_pos {xs : List Nat} (h : Cn xs) (h0 : 0 < xs.length) : 0 < val xs := by
  induction xs with
  | nil => simp at h0
  | cons x xs ih =>
    rw [val_cons]
    by_cases h1 : 0 < xs.length
    · have := ih h.tail h1; omega
    · have hx := h (by simp)
      have : xs = [] := List.eq_nil_of_length_eq_zero (by omega)
      subst this
      simp [at0_cons_zero] at hx
      omega
theorem form_unique {xs ys : List Nat} (hx : Bd xs) (hy : Bd ys) (cx : Cn xs) (cy : Cn ys) (h : val xs = val ys) : xs = ys := by
  induction xs generalizing ys with
  | nil =>
    cases ys with
    | nil => rfl
    | cons y ys => have := cn_val_pos cy (by simp); simp only [val] at h; simp only [val_cons] at this; omega
  | cons x xs ih =>
    cases ys with
    | nil => have := cn_val_pos cx (by simp); simp only [val] at h; simp only [val_cons] at this; omega
    | cons y ys =>
      have h1 := hx.head
      have h2 := hy.head
      simp only [val_cons] at h
      obtain rfl : x = y := by omega
      rw [ih hx.tail hy.tail cx.tail cy.tail (by omega)]
/-- The list zs is the form of the number n. -/
structure Num (zs : List Nat) (n : Nat) : Prop where
  bd : Bd zs
  cn : Cn zs
  vl : val zs = n
theorem Num.unique {xs ys : List Nat} {n : Nat} (h : Num xs n) (k : Num ys n) : xs = ys := form_unique h.bd k.bd h.cn k.cn (h.vl.trans k.vl.symm)
theorem num_fm {xs : List Nat} (h : Bd xs) : Num (fm xs) (val xs) := ⟨fm_bd h, fm_cn xs, fm_val xs⟩
theorem Num.nil : Num [] 0 := ⟨Bd.nil, fun h => by simp at h, rfl⟩
/-- Limbs and size. -/
theorem Num.len_le {zs : List Nat} {n k : Nat} (h : Num zs n) : zs.length ≤ k ↔ n < 18446744073709551616 ^ k := by
  constructor
  · intro hk
    rw [← h.vl]
    exact Nat.lt_of_lt_of_le (val_lt h.bd) (Nat.pow_le_pow_right (by decide) hk)
  · intro hn
    refine Nat.le_of_not_lt fun hk => ?_
    have hpos : 0 < zs.length := by omega
    have hs : zs = zs.take (zs.length - 1) ++ [at0 zs (zs.length - 1)] := by
      rw [← take_succ_at0 (by omega), show zs.length - 1 + 1 = zs.length by omega, List.take_length]
    have hv := h.vl
    rw [hs, val_append, List.length_take, Nat.min_eq_left (by omega)] at hv
    have hc := h.cn hpos
    have h2 : 18446744073709551616 ^ k ≤ 18446744073709551616 ^ (zs.length - 1) := Nat.pow_le_pow_right (by decide) (by omega)
    have h3 : 18446744073709551616 ^ (zs.length - 1) * 1 ≤ 18446744073709551616 ^ (zs.length - 1) * val [at0 zs (zs.length - 1)] := Nat.mul_le_mul_left _ (by simp only [val]; omega)
    omega
theorem Num.len_lt {zs : List Nat} {n k : Nat} (h : Num zs n) : k < zs.length ↔ 18446744073709551616 ^ k ≤ n := by
  have := h.len_le (k := k); omega
end Go.Proofs.YteanpdiceaijhaaDoor
