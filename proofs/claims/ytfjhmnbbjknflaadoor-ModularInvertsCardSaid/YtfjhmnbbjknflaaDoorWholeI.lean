import Derived.Test.YtfjhmnbbjknflaaDoorWholeG
namespace Go.Proofs.YtfjhmnbbjknflaaDoor
open Go.RowKit

theorem sg_at (z : Int) : ∃ i : Nat, i ≤ 2 ∧ sg z + 1 = (i : Int) := ⟨(sg z + 1).toNat, by have := sg_le z; omega, by have := sg_le z; omega⟩

theorem bcell2 {B : Nat} {W W' : World} (hb : Below B W W') (k i : Nat) (hk : k < B) : W'.cell? ⟨k, i, none⟩ = W.cell? ⟨k, i, none⟩ := by
  have := hb.block k hk
  unfold World.cell?
  rw [this]
/-- What a call tells that reckons with two whole numbers. -/
def WTells (P : Prop) (W : Int) (k : Int) (n : Bool) (zs : List Nat) : Prop :=
  (¬ (P ∧ W.natAbs < LIM) ∧ k = 3 ∧ n = false ∧ zs = []) ∨ (P ∧ W.natAbs < LIM ∧ k = 0 ∧ n = decide (W < 0) ∧ Num zs W.natAbs)

theorem WPost.wtold {P : Prop} {W : Int} {w w' : World} {e : Ending} (h : WPost P W w e w') : WTold (WTells P W) w e w' := by
  rcases h.2 with ⟨h1, rfl⟩ | ⟨hP, hl, a, c, zs, rfl, ho, hN⟩
  · exact ⟨h.1, false, none, 0, 3, [], rfl, own64_nil _ _, .inl ⟨h1, rfl, rfl, rfl⟩⟩
  · exact ⟨h.1, _, a, c, 0, zs, rfl, ho, .inr ⟨hP, hl, rfl, rfl, hN⟩⟩
theorem lim_mul {x y : Nat} (h : x < LIM) (k : y < LIM) : x * y < 18446744073709551616 ^ 128 := by
  rw [show (18446744073709551616 : Nat) ^ 128 = LIM * LIM by unfold LIM; rw [← Nat.pow_add]]
  exact Nat.mul_lt_mul'' h k
theorem num_told {n m x y N B : Nat} {w w' : World} {e : Ending} (h : n ≤ 128 ∧ m ≤ 128 ∧ N < 18446744073709551616 ^ 128 ∧ x < LIM ∧ y < LIM)
    (hor : (¬ ((n ≤ 128 ∧ m ≤ 128) ∧ N < 18446744073709551616 ^ 128) ∧ e = .returned (.tuple #[.slice none 0 0, .int .i64 3])) ∨ ((n ≤ 128 ∧ m ≤ 128) ∧ N < 18446744073709551616 ^ 128 ∧ ∃ v zs, e = .returned (.tuple #[v, .int .i64 0]) ∧ own64 w' w.heap.size v zs ∧ Num zs N)) (hB : B ≤ w.heap.size) :
    ∃ v k, e = .returned (.tuple #[v, .int .i64 k]) ∧ ((¬ ((x < LIM ∧ y < LIM) ∧ N < LIM) ∧ v = .slice none 0 0 ∧ k = 3) ∨ ((x < LIM ∧ y < LIM) ∧ k = 0 ∧ ∃ zs, own64 w' B v zs ∧ Num zs N ∧ zs.length ≤ 1048576)) := by
  rcases hor with ⟨h1, _⟩ | ⟨_, h2, v, zs, rfl, ho, hN⟩
  · exact absurd ⟨⟨h.1, h.2.1⟩, h.2.2.1⟩ h1
  · exact ⟨v, 0, rfl, .inr ⟨h.2.2.2, rfl, zs, owns_base ho hB, hN, by have := hN.len_le.2 h2; omega⟩⟩
theorem heap_third (w : World) (o1 o2 o3 : Obj) : (((w.alloc o1).alloc o2).alloc o3).heap[w.heap.size + 1 + 1]? = some o3 := by
  have h := heap_new ((w.alloc o1).alloc o2) o3
  have e : ((w.alloc o1).alloc o2).heap.size = w.heap.size + 1 + 1 := by simp
  rw [e] at h
  exact h
theorem sg_mul (x y : Int) (i j : Nat) (t : Int) (nb : Bool) (hi : sg x + 1 = (i : Int)) (hj : sg y + 1 = (j : Int)) (ht : t = ((i : Int) - 1) * ((j : Int) - 1)) (hn : decide (t < 0) = nb) (N : Nat) (hN : (x * y).natAbs = N) :
    (nb && decide (0 < N)) = decide (x * y < 0) := by
  have e1 : ((i : Int) - 1) = sg x := by omega
  have e2 : ((j : Int) - 1) = sg y := by omega
  rw [e1, e2] at ht
  have key : (sg x * sg y < 0) ↔ (x * y < 0) := by
    unfold sg
    rcases Int.lt_trichotomy x 0 with hx | hx | hx <;> rcases Int.lt_trichotomy y 0 with hy | hy | hy
    · simp [Int.ne_of_lt hx, Int.ne_of_lt hy, hx, hy]; exact Int.le_of_lt (Int.mul_pos_of_neg_of_neg hx hy)
    · simp [hy]
    · simp [Int.ne_of_lt hx, Int.ne_of_gt hy, hx, Int.not_lt.2 (Int.le_of_lt hy)]; exact Int.mul_neg_of_neg_of_pos hx hy
    · simp [hx]
    · simp [hx]
    · simp [hx]
    · simp [Int.ne_of_gt hx, Int.ne_of_lt hy, hy, Int.not_lt.2 (Int.le_of_lt hx)]; exact Int.mul_neg_of_pos_of_neg hx hy
    · simp [hy]
    · simp [Int.ne_of_gt hx, Int.ne_of_gt hy, Int.not_lt.2 (Int.le_of_lt hx), Int.not_lt.2 (Int.le_of_lt hy)]; exact Int.le_of_lt (Int.mul_pos hx hy)
  rw [← ht] at key
  rw [← hn]
  by_cases h : x * y < 0
  · rw [decide_eq_true h, decide_eq_true (key.2 h), decide_eq_true (show 0 < N by omega)]; rfl
  · rw [decide_eq_false h, decide_eq_false (fun h2 => h (key.1 h2))]; rfl

end Go.Proofs.YtfjhmnbbjknflaaDoor
