import Derived.Test.YtboebadpohjolaaPtK
namespace Go.Proofs.Ytboebadpohjolaa

/-! Patterns without a program: sets of bytes, trees, what a text is read as. -/
/-- The number of the bits f 0 to f (n - 1). -/
def bitsOf (f : Nat → Bool) : Nat → Nat
  | 0 => 0
  | n + 1 => bitsOf f n ||| (if f n then 2 ^ n else 0)
/-- A set of bytes: four words. -/
structure S4 where
  a : Nat
  b : Nat
  c : Nat
  d : Nat
def S4.word (s : S4) (i : Nat) : Nat := match i with | 0 => s.a | 1 => s.b | 2 => s.c | _ => s.d
def S4.fit (s : S4) : Prop := s.a < 2 ^ 64 ∧ s.b < 2 ^ 64 ∧ s.c < 2 ^ 64 ∧ s.d < 2 ^ 64
def S4.has (s : S4) (c : Nat) : Bool := (s.word (c / 64)).testBit (c % 64)
def S4.of (p : Nat → Bool) : S4 := ⟨bitsOf p 64, bitsOf (fun k => p (64 + k)) 64, bitsOf (fun k => p (128 + k)) 64, bitsOf (fun k => p (192 + k)) 64⟩
def S4.zero : S4 := ⟨0, 0, 0, 0⟩
def S4.or (s t : S4) : S4 := ⟨s.a ||| t.a, s.b ||| t.b, s.c ||| t.c, s.d ||| t.d⟩
theorem S4.zero_fit : S4.zero.fit := by unfold S4.fit S4.zero; decide
theorem word_ext {x y : Nat} (hx : x < 2 ^ 64) (hy : y < 2 ^ 64) (h : ∀ k, k < 64 → x.testBit k = y.testBit k) : x = y := by
  refine Nat.eq_of_testBit_eq fun i => ?_
  by_cases hi : i < 64
  · exact h i hi
  · have hp : 2 ^ 64 ≤ 2 ^ i := Nat.pow_le_pow_right (by decide) (by omega)
    rw [Nat.testBit_lt_two_pow (Nat.lt_of_lt_of_le hx hp), Nat.testBit_lt_two_pow (Nat.lt_of_lt_of_le hy hp)]
theorem S4.ext {s t : S4} (hs : s.fit) (ht : t.fit) (h : ∀ c, c < 256 → s.has c = t.has c) : s = t := by
  obtain ⟨a, b, c, d⟩ := s
  obtain ⟨a', b', c', d'⟩ := t
  have key : ∀ i k, i < 4 → k < 64 → (S4.word ⟨a, b, c, d⟩ i).testBit k = (S4.word ⟨a', b', c', d'⟩ i).testBit k := by
    intro i k hi hk
    have := h (64 * i + k) (by omega)
    unfold S4.has at this
    rwa [show (64 * i + k) / 64 = i by omega, show (64 * i + k) % 64 = k by omega] at this
  obtain rfl : a = a' := word_ext hs.1 ht.1 (fun k hk => key 0 k (by omega) hk)
  obtain rfl : b = b' := word_ext hs.2.1 ht.2.1 (fun k hk => key 1 k (by omega) hk)
  obtain rfl : c = c' := word_ext hs.2.2.1 ht.2.2.1 (fun k hk => key 2 k (by omega) hk)
  obtain rfl : d = d' := word_ext hs.2.2.2 ht.2.2.2 (fun k hk => key 3 k (by omega) hk)
  rfl
def S4.all : S4 := S4.of (fun _ => true)
/-- Trees. -/
inductive PT where
  | mk (k : Int) (s : S4) (m n : Int) (ps : List PT)
/-- What reading a part of a text comes to: what was read and what is left, or an error. -/
inductive Res (α : Type) where
  | ok (v : α) (r : List Nat)
  | no (e : Nat)

/-- Does a text begin with one such letter? -/
def hd (p : Nat → Prop) : List Nat → Prop
  | [] => False
  | c :: _ => p c
def lw (c : Nat) : Bool := decide (97 ≤ c) && decide (c ≤ 122)
end Go.Proofs.Ytboebadpohjolaa
