import Derived.Test.YteanpdiceaijhaaDoorNum
namespace Go.Proofs.YteanpdiceaijhaaDoor

def v32 : List Nat → Nat
  | [] => 0
  | x :: xs => x + 4294967296 * v32 xs
def Hd (xs : List Nat) : Prop := ∀ x ∈ xs, x < 4294967296
theorem Hd.tail {x : Nat} {xs : List Nat} (h : Hd (x :: xs)) : Hd xs := fun y hy => h y (List.mem_cons_of_mem _ hy)
theorem Hd.head {x : Nat} {xs : List Nat} (h : Hd (x :: xs)) : x < 4294967296 := h x (List.mem_cons_self ..)
theorem Hd.cons {x : Nat} {xs : List Nat} (hx : x < 4294967296) (h : Hd xs) : Hd (x :: xs) := fun y hy => by
  rcases List.mem_cons.1 hy with rfl | hy
  · exact hx
  · exact h y hy
theorem Hd.nil : Hd [] := fun _ h => by cases h
theorem Hd.append {xs ys : List Nat} (h : Hd xs) (k : Hd ys) : Hd (xs ++ ys) := fun y hy => by
  rcases List.mem_append.1 hy with hy | hy
  · exact h y hy
  · exact k y hy
theorem Hd.take {xs : List Nat} (h : Hd xs) (n : Nat) : Hd (xs.take n) := fun y hy => h y (List.mem_of_mem_take hy)
theorem Hd.drop {xs : List Nat} (h : Hd xs) (n : Nat) : Hd (xs.drop n) := fun y hy => h y (List.mem_of_mem_drop hy)
theorem Hd.at0 {xs : List Nat} (h : Hd xs) (i : Nat) : at0 xs i < 4294967296 := by
  unfold Go.Proofs.YteanpdiceaijhaaDoor.at0 List.getD
  by_cases hi : i < xs.length
  · rw [List.getElem?_eq_getElem hi]; exact h _ (List.getElem_mem hi)
  · rw [List.getElem?_eq_none (by omega)]; decide
theorem v32_cons (x : Nat) (xs : List Nat) : v32 (x :: xs) = x + 4294967296 * v32 xs := rfl
theorem v32_append (xs ys : List Nat) : v32 (xs ++ ys) = v32 xs + 4294967296 ^ xs.length * v32 ys := by
  induction xs with
  | nil => simp [v32]
  | cons x xs ih => simp only [List.cons_append, v32_cons, ih, List.length_cons, Nat.pow_succ, Nat.mul_add]; rw [show 4294967296 ^ xs.length * 4294967296 * v32 ys = 4294967296 * (4294967296 ^ xs.length * v32 ys) from by rw [Nat.mul_comm (4294967296 ^ xs.length), Nat.mul_assoc]]; omega
theorem v32_lt {xs : List Nat} (h : Hd xs) : v32 xs < 4294967296 ^ xs.length := by
  induction xs with
  | nil => simp [v32]
  | cons x xs ih => have h1 := h.head; have h2 := ih h.tail; simp only [v32_cons, List.length_cons, Nat.pow_succ]; omega
theorem v32_replicate (n : Nat) : v32 (List.replicate n 0) = 0 := by
  induction n with
  | zero => rfl
  | succ n ih => simp [List.replicate_succ, v32_cons, ih]
theorem v32_zeros {xs : List Nat} (h : ∀ i, i < xs.length → at0 xs i = 0) : v32 xs = 0 := by
  induction xs with
  | nil => rfl
  | cons x xs ih =>
    have h0 : x = 0 := by simpa [at0_cons_zero] using h 0 (by simp)
    have := ih (fun i hi => by simpa [at0_cons_succ] using h (i + 1) (by simpa using hi))
    rw [v32_cons, h0, this]
theorem fm_v32 (xs : List Nat) : v32 (fm xs) = v32 xs := by
  have h : xs = fm xs ++ xs.drop (fl xs) := (List.take_append_drop _ _).symm
  have hz : v32 (xs.drop (fl xs)) = 0 := v32_zeros (fun i _ => by rw [at0_drop]; exact (fl_spec xs).2.1 _ (by omega))
  rw (config := { occs := .pos [2] }) [h]
  rw [v32_append, hz]; simp
theorem fm_hd {xs : List Nat} (h : Hd xs) : Hd (fm xs) := h.take _
theorem cn_v32_pos {xs : List Nat} (h : Cn xs) (h0 : 0 < xs.length) : 0 < v32 xs := by
  induction xs with
  | nil => simp at h0
  | cons x xs ih =>
    rw [v32_cons]
    by_cases h1 : 0 < xs.length
    · have := ih h.tail h1; omega
    · have hx := h (by simp)
      have : xs = [] := List.eq_nil_of_length_eq_zero (by omega)
      subst this
      simp [at0_cons_zero] at hx
      omega
theorem form32_unique {xs ys : List Nat} (hx : Hd xs) (hy : Hd ys) (cx : Cn xs) (cy : Cn ys) (h : v32 xs = v32 ys) : xs = ys := by
  induction xs generalizing ys with
  | nil =>
    cases ys with
    | nil => rfl
    | cons y ys => have := cn_v32_pos cy (by simp); simp only [v32] at h; simp only [v32_cons] at this; omega
  | cons x xs ih =>
    cases ys with
    | nil => have := cn_v32_pos cx (by simp); simp only [v32] at h; simp only [v32_cons] at this; omega
    | cons y ys =>
      have h1 := hx.head
      have h2 := hy.head
      simp only [v32_cons] at h
      obtain rfl : x = y := by omega
      rw [ih hx.tail hy.tail cx.tail cy.tail (by omega)]
structure Num32 (zs : List Nat) (n : Nat) : Prop where
  bd : Hd zs
  cn : Cn zs
  vl : v32 zs = n
theorem Num32.unique {xs ys : List Nat} {n : Nat} (h : Num32 xs n) (k : Num32 ys n) : xs = ys := form32_unique h.bd k.bd h.cn k.cn (h.vl.trans k.vl.symm)
theorem num32_fm {xs : List Nat} (h : Hd xs) : Num32 (fm xs) (v32 xs) := ⟨fm_hd h, fm_cn xs, fm_v32 xs⟩
theorem Num32.nil : Num32 [] 0 := ⟨Hd.nil, fun h => by simp at h, rfl⟩
theorem Num32.len_le {zs : List Nat} {n k : Nat} (h : Num32 zs n) : zs.length ≤ k ↔ n < 4294967296 ^ k := by
  constructor
  · intro hk
    rw [← h.vl]
    exact Nat.lt_of_lt_of_le (v32_lt h.bd) (Nat.pow_le_pow_right (by decide) hk)
  · intro hn
    refine Nat.le_of_not_lt fun hk => ?_
    have hpos : 0 < zs.length := by omega
    have hs : zs = zs.take (zs.length - 1) ++ [at0 zs (zs.length - 1)] := by
      rw [← take_succ_at0 (by omega), show zs.length - 1 + 1 = zs.length by omega, List.take_length]
    have hv := h.vl
    rw [hs, v32_append, List.length_take, Nat.min_eq_left (by omega)] at hv
    have hc := h.cn hpos
    have h2 : 4294967296 ^ k ≤ 4294967296 ^ (zs.length - 1) := Nat.pow_le_pow_right (by decide) (by omega)
    have h3 : 4294967296 ^ (zs.length - 1) * 1 ≤ 4294967296 ^ (zs.length - 1) * v32 [at0 zs (zs.length - 1)] := Nat.mul_le_mul_left _ (by simp only [v32]; omega)
    omega
theorem Num32.len_lt {zs : List Nat} {n k : Nat} (h : Num32 zs n) : k < zs.length ↔ 4294967296 ^ k ≤ n := by
  have := h.len_le (k := k); omega
theorem v32_snoc (xs : List Nat) (z : Nat) : v32 (xs ++ [z]) = v32 xs + 4294967296 ^ xs.length * z := by
  rw [v32_append]; simp [v32]
theorem take_v32_snoc {xs : List Nat} {k : Nat} (h : k < xs.length) : v32 (xs.take (k + 1)) = v32 (xs.take k) + 4294967296 ^ k * at0 xs k := by
  rw [take_succ_at0 h, v32_snoc, List.length_take, Nat.min_eq_left (by omega)]
theorem v32_take_drop (xs : List Nat) (k : Nat) (h : k ≤ xs.length) : v32 xs = v32 (xs.take k) + 4294967296 ^ k * v32 (xs.drop k) := by
  rw (config := { occs := .pos [1] }) [← List.take_append_drop k xs]
  rw [v32_append, List.length_take, Nat.min_eq_left h]
theorem Hd.snoc {zs : List Nat} {z : Nat} (h : Hd zs) (hz : z < 4294967296) : Hd (zs ++ [z]) := h.append (Hd.nil.cons hz)
theorem v32_at (xs : List Nat) (k : Nat) (h : k < xs.length) : v32 xs = v32 (xs.take k) + 4294967296 ^ k * (at0 xs k + 4294967296 * v32 (xs.drop (k + 1))) := by
  have h1 : xs = xs.take k ++ (at0 xs k :: xs.drop (k + 1)) := by
    rw [at0_getElem h, ← List.drop_eq_getElem_cons h, List.take_append_drop]
  rw (config := { occs := .pos [1] }) [h1]
  rw [v32_append, List.length_take, Nat.min_eq_left (by omega), v32_cons]
theorem drop_v32 {xs : List Nat} {k : Nat} (h : k < xs.length) : v32 (xs.drop k) = at0 xs k + 4294967296 * v32 (xs.drop (k + 1)) := by
  rw [List.drop_eq_getElem_cons h, v32_cons, ← at0_getElem h]
theorem Hd.bd {xs : List Nat} (h : Hd xs) : Bd xs := fun x hx => Nat.lt_trans (h x hx) (by decide)
end Go.Proofs.YteanpdiceaijhaaDoor
