import Derived.Test.YtclbjmanmkoikaaDoorModG
import Derived.Test.YtclbjmanmkoikaaDoorRc
import Derived.Test.YtclbjmanmkoikaaDoorRe
namespace Go.Proofs.YtclbjmanmkoikaaDoor
open Go.RowKit

/-- Numbers in their form that the call made. -/
def QEnv (B : Nat) (w : World) (L : List (Value × Nat)) : Prop := B ≤ w.heap.size ∧ ∀ p ∈ L, ∃ zs, own64 w B p.1 zs ∧ Num zs p.2 ∧ p.2 < 18446744073709551616 ^ 1000
theorem QEnv.below {B : Nat} {w w' : World} {L : List (Value × Nat)} (h : QEnv B w L) (hb : Below w.heap.size w w') : QEnv B w' L :=
  ⟨Nat.le_trans h.1 hb.size, fun p hp => by
    obtain ⟨zs, h1, h2⟩ := h.2 p hp
    exact ⟨zs, own64.keep h1 hb, h2⟩⟩
theorem QEnv.raw {B : Nat} {w : World} {L : List (Value × Nat)} {v : Value} {n : Nat} (h : QEnv B w L) (hm : (v, n) ∈ L) : Raw w v n := by
  obtain ⟨zs, h1, h2, h3⟩ := h.2 _ hm
  exact raw_of_own h1 h2 h3
theorem QEnv.add {B : Nat} {w w' : World} {L : List (Value × Nat)} {v : Value} {n : Nat} {zs : List Nat} (h : QEnv B w L) (hb : Below w.heap.size w w') (ho : own64 w' w.heap.size v zs) (hN : Num zs n) (hn : n < 18446744073709551616 ^ 1000) : QEnv B w' ((v, n) :: L) :=
  ⟨Nat.le_trans h.1 hb.size, fun p hp => by
    rcases List.mem_cons.1 hp with rfl | hp
    · exact ⟨zs, owns_base ho h.1, hN, hn⟩
    · exact (h.below hb).2 p hp⟩
theorem QEnv.sub {B : Nat} {w : World} {L L' : List (Value × Nat)} (h : QEnv B w L) (hs : ∀ p ∈ L', p ∈ L) : QEnv B w L' := ⟨h.1, fun p hp => h.2 p (hs p hp)⟩
set_option exponentiation.threshold 100000 in
theorem QEnv.nil {B : Nat} {w : World} {L : List (Value × Nat)} (h : QEnv B w L) : QEnv B w ((.slice none 0 0, 0) :: L) :=
  ⟨h.1, fun p hp => by
    rcases List.mem_cons.1 hp with rfl | hp
    · exact ⟨[], own64_nil _ _, Num.nil, Nat.pow_pos (by decide)⟩
    · exact h.2 p hp⟩
theorem QEnv.opens {B : Nat} {w : World} {L : List (Value × Nat)} {v : Value} {n : Nat} (h : QEnv B w L) (hm : (v, n) ∈ L) : ∃ a k c, v = .slice a k c ∧ (k = 0 ↔ n = 0) := by
  obtain ⟨zs, h1, h2, h3⟩ := h.2 _ hm
  obtain ⟨a, c, rfl, _⟩ := own64.form h1
  refine ⟨a, _, c, rfl, ?_⟩
  have h1 := h2.len_le (k := 0)
  rw [Nat.pow_zero] at h1
  omega
theorem MPost.of_q {Q : Int → List Nat → Prop} {w w' : World} {L : List (Value × Nat)} {v : Value} {n : Nat} {k : Int} (hb : Below w.heap.size w w') (hE : QEnv w.heap.size w' L) (hm : (v, n) ∈ L) (hQ : ∀ zs, Num zs n → Q k zs) : MPost Q w (.returned (.tuple #[v, .int .i64 k])) w' := by
  obtain ⟨zs, ho, hN, _⟩ := hE.2 _ hm
  obtain ⟨a, c, rfl, _⟩ := own64.form ho
  exact ⟨hb, a, c, k, zs, rfl, ho, hQ _ hN⟩
/-- What a call answers that tells a number. -/
def QPost (B : Nat) (L : List (Value × Nat)) (n : Nat) (w : World) (e : Ending) (w' : World) : Prop := ∃ v, e = .returned v ∧ QEnv B w' ((v, n) :: L) ∧ Below w.heap.size w w'
set_option exponentiation.threshold 100000 in
/-- Bounds for what is left between. -/
theorem lims_q {A C M : Nat} (hA : A < 18446744073709551616 ^ 128) (hC : C < 18446744073709551616 ^ 128) (hM : M < 18446744073709551616 ^ 64) :
    A < 18446744073709551616 ^ 1000 ∧ A + C < 18446744073709551616 ^ 1000 ∧ A * C < 18446744073709551616 ^ 1000 ∧ M + M < 18446744073709551616 ^ 1000 ∧ M * M < 18446744073709551616 ^ 1000 ∧ M < 18446744073709551616 ^ 1000 := by
  have k1 : A * C ≤ 18446744073709551616 ^ 128 * 18446744073709551616 ^ 128 := Nat.mul_le_mul (Nat.le_of_lt hA) (Nat.le_of_lt hC)
  have k2 : M * M ≤ 18446744073709551616 ^ 64 * 18446744073709551616 ^ 64 := Nat.mul_le_mul (Nat.le_of_lt hM) (Nat.le_of_lt hM)
  rw [← Nat.pow_add] at k1 k2
  have p1 : (18446744073709551616 : Nat) ^ 128 * 4 ≤ 18446744073709551616 ^ 1000 := by decide +kernel
  have p2 : (18446744073709551616 : Nat) ^ (128 + 128) < 18446744073709551616 ^ 1000 := by decide +kernel
  have p3 : (18446744073709551616 : Nat) ^ (64 + 64) < 18446744073709551616 ^ 1000 := by decide +kernel
  have p4 : (18446744073709551616 : Nat) ^ 64 * 4 ≤ 18446744073709551616 ^ 1000 := by decide +kernel
  generalize A * C = ac at *
  generalize M * M = mm at *
  generalize (18446744073709551616 : Nat) ^ 64 = m64 at *
  generalize (18446744073709551616 : Nat) ^ 128 = m128 at *
  generalize (18446744073709551616 : Nat) ^ (128 + 128) = m256 at *
  generalize (18446744073709551616 : Nat) ^ (64 + 64) = m129 at *
  generalize (18446744073709551616 : Nat) ^ 1000 = m at *
  refine ⟨by omega, by omega, by omega, by omega, by omega, by omega⟩
theorem mdiff_ref {x y m : Nat} (hx : x < m) (hy : y < m) : (x + m - y) % m = mdiff x y m := by
  unfold mdiff
  split
  · rw [Nat.mod_eq_of_lt (by omega)]
  · rw [show x + m - y = x - y + m by omega, Nat.add_mod_right, Nat.mod_eq_of_lt (by omega)]
theorem Lv.oneM (A M : Nat) : Lv (1 % M) A A M := by
  obtain ⟨k, h⟩ := mod_int 1 M
  refine ⟨k * A, ?_⟩
  rw [h]
  generalize (A : Int) = a
  generalize (M : Int) = m
  grind
end Go.Proofs.YtclbjmanmkoikaaDoor
