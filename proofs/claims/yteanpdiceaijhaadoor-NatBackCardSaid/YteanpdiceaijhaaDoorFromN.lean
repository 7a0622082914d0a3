import Derived.Test.YteanpdiceaijhaaDoorRefB
namespace Go.Proofs.YteanpdiceaijhaaDoor
open Go.RowKit

/-- The number of bytes, the highest first. -/
def bval (l : List Nat) : Nat := l.foldl (fun n c => 256 * n + c) 0
def B8 (l : List Nat) : Prop := ∀ x ∈ l, x < 256
theorem bval_snoc (l : List Nat) (c : Nat) : bval (l ++ [c]) = 256 * bval l + c := by simp [bval]
theorem foldl_bval (l : List Nat) (n : Nat) : l.foldl (fun n c => 256 * n + c) n = n * 256 ^ l.length + bval l := by
  induction l generalizing n with
  | nil => simp [bval]
  | cons c l ih =>
    have h1 := ih (256 * n + c)
    have h2 := ih (256 * 0 + c)
    unfold bval
    rw [List.foldl_cons, List.foldl_cons, h1, h2, List.length_cons, Nat.pow_succ]
    generalize 256 ^ l.length = p
    rw [Nat.add_mul, Nat.add_mul, Nat.mul_comm p 256, ← Nat.mul_assoc, Nat.mul_comm n 256]
    omega
theorem bval_append (a b : List Nat) : bval (a ++ b) = bval a * 256 ^ b.length + bval b := by
  show (a ++ b).foldl _ 0 = _
  rw [List.foldl_append, foldl_bval]
  rfl
theorem bval_cons (c : Nat) (l : List Nat) : bval (c :: l) = c * 256 ^ l.length + bval l := by
  have := bval_append [c] l
  simpa [bval] using this
theorem bval_lt {l : List Nat} (h : B8 l) : bval l < 256 ^ l.length := by
  induction l with
  | nil => simp [bval]
  | cons c l ih =>
    have h1 := ih (fun x hx => h x (by simp [hx]))
    have h2 := h c (by simp)
    rw [bval_cons, List.length_cons, Nat.pow_succ]
    generalize 256 ^ l.length = p at *
    have h3 : c * p ≤ 255 * p := Nat.mul_le_mul_right _ (by omega)
    omega
theorem B8.drop {l : List Nat} (h : B8 l) (n : Nat) : B8 (l.drop n) := fun y hy => h y (List.mem_of_mem_drop hy)
theorem B8.take {l : List Nat} (h : B8 l) (n : Nat) : B8 (l.take n) := fun y hy => h y (List.mem_of_mem_take hy)
theorem B8.at0 {l : List Nat} (h : B8 l) (i : Nat) : at0 l i < 256 := by
  unfold Go.Proofs.YteanpdiceaijhaaDoor.at0 List.getD
  by_cases hi : i < l.length
  · rw [List.getElem?_eq_getElem hi]; exact h _ (List.getElem_mem hi)
  · rw [List.getElem?_eq_none (by omega)]; decide
theorem pow_8 (q : Nat) : (18446744073709551616 : Nat) ^ q = 256 ^ (8 * q) := by rw [Nat.pow_mul]
/-- The limb at a place, out of the number. -/
theorem at0_val {ws : List Nat} (h : Bd ws) (q : Nat) (hq : q < ws.length) : at0 ws q = val ws / 18446744073709551616 ^ q % 18446744073709551616 := by
  have h1 := val_at ws q hq
  have h2 := val_lt (h.take q)
  rw [List.length_take, Nat.min_eq_left (by omega)] at h2
  rw [h1, Nat.add_comm, Nat.mul_add_div (Nat.pow_pos (by decide)), Nat.div_eq_of_lt h2, Nat.add_zero, Nat.add_mul_mod_self_left, Nat.mod_eq_of_lt (h.at0 q)]
/-- A limb into which nothing below a byte has been written. -/
theorem limb_free {ws : List Nat} {N p : Nat} (h : Bd ws) (hq : p / 8 < ws.length) (hv : val ws = N * 256 ^ (p + 1)) : ∃ t, at0 ws (p / 8) = t * 2 ^ (8 * (p % 8) + 8) := by
  rw [at0_val h _ hq, hv, pow_8]
  have e1 : 256 ^ (p + 1) = 256 ^ (p % 8 + 1) * 256 ^ (8 * (p / 8)) := by rw [← Nat.pow_add]; congr 1; omega
  have e2 : (18446744073709551616 : Nat) = 256 ^ (p % 8 + 1) * 256 ^ (7 - p % 8) := by rw [← Nat.pow_add, show p % 8 + 1 + (7 - p % 8) = 8 by omega]
  have e3 : 2 ^ (8 * (p % 8) + 8) = 256 ^ (p % 8 + 1) := by rw [show 8 * (p % 8) + 8 = 8 * (p % 8 + 1) by omega, Nat.pow_mul]
  rw [e1, ← Nat.mul_assoc, Nat.mul_div_cancel _ (Nat.pow_pos (by decide)), e2, e3, Nat.mul_comm N, Nat.mul_mod_mul_left, Nat.mul_comm]
  exact ⟨_, rfl⟩
theorem set_val {ws : List Nat} {q y : Nat} (hq : q < ws.length) : val (ws.set q y) + 18446744073709551616 ^ q * at0 ws q = val ws + 18446744073709551616 ^ q * y := by
  have h1 := val_at ws q hq
  have h2 := val_at (ws.set q y) q (by simpa using hq)
  rw [List.take_set_of_le (Nat.le_refl q), drop_set_succ, show at0 (ws.set q y) q = y by rw [at0_getElem (by simpa using hq)]; simp] at h2
  rw [h2]
  rw [h1, Nat.mul_add, Nat.mul_add]
  omega
theorem byte_step {ws : List Nat} {N p x : Nat} (h : Bd ws) (hq : p / 8 < ws.length) (hv : val ws = N * 256 ^ (p + 1)) (hx : x < 256) :
    (at0 ws (p / 8) ||| x * 2 ^ (8 * (p % 8))) = at0 ws (p / 8) + x * 2 ^ (8 * (p % 8)) ∧ at0 ws (p / 8) + x * 2 ^ (8 * (p % 8)) < 18446744073709551616 ∧ x * 2 ^ (8 * (p % 8)) < 18446744073709551616 ∧
    val (ws.set (p / 8) (at0 ws (p / 8) + x * 2 ^ (8 * (p % 8)))) = (256 * N + x) * 256 ^ p := by
  obtain ⟨t, ht⟩ := limb_free h hq hv
  have hb := h.at0 (p / 8)
  have hxs : x * 2 ^ (8 * (p % 8)) < 2 ^ (8 * (p % 8) + 8) := by
    rw [Nat.pow_add, Nat.mul_comm]; exact Nat.mul_lt_mul_of_pos_left hx (Nat.two_pow_pos _)
  have e64 : (18446744073709551616 : Nat) = 2 ^ (56 - 8 * (p % 8)) * 2 ^ (8 * (p % 8) + 8) := by rw [← Nat.pow_add, show 56 - 8 * (p % 8) + (8 * (p % 8) + 8) = 64 by omega]
  have htb : t < 2 ^ (56 - 8 * (p % 8)) := by
    refine Nat.lt_of_mul_lt_mul_right (a := 2 ^ (8 * (p % 8) + 8)) ?_
    rw [← e64, ← ht]; exact hb
  refine ⟨?_, ?_, ?_, ?_⟩
  · rw [ht, Nat.mul_comm t, Nat.two_pow_add_eq_or_of_lt hxs]
  · have h5 : (t + 1) * 2 ^ (8 * (p % 8) + 8) ≤ 2 ^ (56 - 8 * (p % 8)) * 2 ^ (8 * (p % 8) + 8) := Nat.mul_le_mul_right _ htb
    rw [← e64, Nat.add_mul, ← ht] at h5
    omega
  · have h6 : 1 * 2 ^ (8 * (p % 8) + 8) ≤ 2 ^ (56 - 8 * (p % 8)) * 2 ^ (8 * (p % 8) + 8) := Nat.mul_le_mul_right _ (Nat.two_pow_pos _)
    rw [← e64] at h6
    omega
  · have h7 := set_val (y := at0 ws (p / 8) + x * 2 ^ (8 * (p % 8))) hq
    have e8 : 18446744073709551616 ^ (p / 8) * (x * 2 ^ (8 * (p % 8))) = x * 256 ^ p := by
      rw [pow_8, show 2 ^ (8 * (p % 8)) = 256 ^ (p % 8) by rw [Nat.pow_mul], ← Nat.mul_assoc, Nat.mul_comm _ x, Nat.mul_assoc, ← Nat.pow_add, show 8 * (p / 8) + p % 8 = p by omega]
    rw [Nat.mul_add, e8, hv] at h7
    rw [Nat.add_mul, Nat.pow_succ] at *
    rw [show N * (256 ^ p * 256) = 256 * N * 256 ^ p by rw [Nat.mul_comm 256 N, Nat.mul_assoc, Nat.mul_comm 256]] at h7
    omega
/-- The bytes' form: no byte 0 ahead: as many limbs as bytes ask. -/
theorem cn64_of_ge {ws : List Nat} (hh : Bd ws) (h : 0 < ws.length → 18446744073709551616 ^ (ws.length - 1) ≤ val ws) : Cn ws := by
  intro hp e
  have h1 := val_take_drop ws (ws.length - 1) (by omega)
  have h2 : ws.drop (ws.length - 1) = [0] := by
    rw [List.drop_eq_getElem_cons (by omega), List.drop_of_length_le (by omega), ← at0_getElem (by omega), e]
  have h3 := val_lt (hh.take (ws.length - 1))
  rw [List.length_take, Nat.min_eq_left (by omega)] at h3
  have h4 := h hp
  rw [h2] at h1
  simp only [val] at h1
  omega
theorem bytes_cn {ws l : List Nat} (hh : Bd ws) (hl : ws.length = (l.length + 7) / 8) (hv : val ws = bval l) (h0 : at0 l 0 ≠ 0 ∨ l = []) : Cn ws := by
  refine cn64_of_ge hh fun hp => ?_
  rcases h0 with h0 | rfl
  · cases l with
    | nil => simp [at0] at h0
    | cons c l =>
      rw [at0_cons_zero] at h0
      rw [hv, bval_cons, pow_8]
      have h1 : 256 ^ (8 * (ws.length - 1)) ≤ 256 ^ l.length := Nat.pow_le_pow_right (by decide) (by simp at hl; omega)
      have h2 : 1 * 256 ^ l.length ≤ c * 256 ^ l.length := Nat.mul_le_mul_right _ (by omega)
      omega
  · rw [hl] at hp; simp at hp
end Go.Proofs.YteanpdiceaijhaaDoor
