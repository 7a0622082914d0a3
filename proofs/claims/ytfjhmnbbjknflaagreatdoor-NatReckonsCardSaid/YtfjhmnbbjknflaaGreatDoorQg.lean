import Derived.Test.YtfjhmnbbjknflaaGreatDoorQd
namespace Go.Proofs.YtfjhmnbbjknflaaGreatDoor
open Go.RowKit

/-- A list of digits that the call made. -/
def D32 (B : Nat) (w : World) (v : Value) (V : Nat) : Prop := B ≤ w.heap.size ∧ ∃ a c hs, v = .slice a hs.length c ∧ own64 w B (.slice a hs.length c) hs ∧ Num32 hs V ∧ hs.length ≤ 4194304
theorem D32.below {B : Nat} {w w' : World} {v : Value} {V : Nat} (h : D32 B w v V) (hb : Below w.heap.size w w') : D32 B w' v V := by
  obtain ⟨h0, a, c, hs, h1, h2, h3⟩ := h
  exact ⟨Nat.le_trans h0 hb.size, a, c, hs, h1, own64.keep h2 hb, h3⟩
theorem D32.of_own {B V : Nat} {w w' : World} {v : Value} {hs : List Nat} (hB : B ≤ w.heap.size) (hb : Below w.heap.size w w') (ho : own64 w' w.heap.size v hs) (hN : Num32 hs V) (hl : hs.length ≤ 4194304) : D32 B w' v V := by
  obtain ⟨a, c, rfl, _⟩ := own64.form ho
  exact ⟨Nat.le_trans hB hb.size, a, c, hs, rfl, owns_base ho hB, hN, hl⟩
theorem D32.len {B : Nat} {w : World} {v : Value} {V : Nat} (h : D32 B w v V) : ∃ a l c, v = .slice a l c ∧ (l = 0 ↔ V = 0) := by
  obtain ⟨_, a, c, hs, rfl, _, hN, _⟩ := h
  refine ⟨a, _, c, rfl, ?_⟩
  have h1 := hN.len_le (k := 0)
  rw [Nat.pow_zero] at h1
  omega
theorem v32_par (hs : List Nat) (h0 : 0 < hs.length) : ∃ q, v32 hs = at0 hs 0 + 4294967296 * q := by
  cases hs with
  | nil => simp at h0
  | cons x xs => exact ⟨v32 xs, by rw [at0_cons_zero]; rfl⟩
theorem D32.pos {B : Nat} {w : World} {v : Value} {V : Nat} (h : D32 B w v V) (hV : 0 < V) : ∃ g l c x, v = .slice (some ⟨g, 0, none⟩) l c ∧ 0 < l ∧ w.cell? ⟨g, 0, none⟩ = some (.int .u64 (x : Nat)) ∧ x < 18446744073709551616 ∧ x % 2 = V % 2 ∧ (1 < l ∨ 1 < x ↔ 1 < V) := by
  obtain ⟨_, a, c, hs, rfl, ho, hN, _⟩ := h
  have h1 := hN.len_le (k := 0)
  rw [Nat.pow_zero] at h1
  have hp : 0 < hs.length := by omega
  obtain ⟨g, c', hv, _, _⟩ := ho.isAt hp
  have hac : a = some ⟨g, 0, none⟩ ∧ c = c' := by
    simp only [Value.slice.injEq, true_and] at hv
    exact hv
  obtain ⟨rfl, rfl⟩ := hac
  obtain ⟨q, hq⟩ := v32_par hs hp
  rw [hN.vl] at hq
  have hx := hN.bd.at0 0
  have h2 := hN.len_le (k := 1)
  rw [Nat.pow_one] at h2
  refine ⟨g, _, c, at0 hs 0, rfl, hp, ho.cell hp, by omega, by omega, ?_⟩
  constructor
  · rintro (h | h)
    · have : ¬ V < 4294967296 := fun h3 => by have := h2.2 h3; omega
      omega
    · omega
  · intro h
    rcases Nat.lt_or_ge 1 hs.length with h3 | h3
    · exact .inl h3
    · have := h2.1 h3
      exact .inr (by omega)
theorem d_down {B : Nat} {w : World} {v : Value} {V : Nat} (h : D32 B w v V) :
    Calls Tryz.prog 133 #[v] w fun e w' => ∃ u, e = .returned u ∧ D32 B w' u (V / 2) ∧ Below w.heap.size w w' := by
  obtain ⟨hB, a, c, hs, rfl, ho, hN, hl⟩ := h
  refine (down_any a _ c V hs w rfl hl (own64.rd ho).2 hN).mono ?_
  rintro e w' ⟨u, zs, rfl, ho', hN', hb⟩
  refine ⟨u, rfl, D32.of_own hB hb ho' hN' ?_, hb⟩
  have h1 := (hN.len_le (k := 4194304)).1 hl
  exact (hN'.len_le (k := 4194304)).2 (Nat.lt_of_le_of_lt (Nat.div_le_self _ _) h1)
set_option exponentiation.threshold 100000 in
theorem d_halves {B : Nat} {w : World} {va : Value} {A : Nat} (hB : B ≤ w.heap.size) (h1 : Raw w va A) (hA : A < 18446744073709551616 ^ 400) :
    Calls Tryz.prog 102 #[va] w fun e w' => ∃ u, e = .returned u ∧ D32 B w' u A ∧ Below w.heap.size w w' := by
  obtain ⟨a, ca, xs, rfl, _, _, hr1, hb1, rfl, hl1⟩ := h1
  refine (halves_any a _ ca xs w rfl (Nat.le_trans hl1 (by decide)) hr1 hb1).mono ?_
  rintro e w' ⟨u, hs, rfl, ho, hN, hb⟩
  refine ⟨u, rfl, D32.of_own hB hb ho hN ?_, hb⟩
  refine Nat.le_trans ((hN.len_le (k := 800)).2 ?_) (by decide)
  rw [show (4294967296 : Nat) ^ 800 = 18446744073709551616 ^ 400 by rw [show (18446744073709551616 : Nat) = 4294967296 ^ 2 by decide, ← Nat.pow_mul]]
  exact hA
theorem d_minus {B : Nat} {w : World} {v u : Value} {V U : Nat} (h1 : D32 B w v V) (h2 : D32 B w u U) (hle : U ≤ V) :
    Calls Tryz.prog 108 #[v, u] w fun e w' => ∃ x, e = .returned x ∧ D32 B w' x (V - U) ∧ Below w.heap.size w w' := by
  obtain ⟨hB, a, c, hs, rfl, ho, hN, hl⟩ := h1
  obtain ⟨_, b, d, gs, rfl, ho2, hN2, hl2⟩ := h2
  refine (rminus_any a b _ _ c d V U hs gs w rfl rfl hl hl2 (own64.rd ho).2 (own64.rd ho2).2 hN hN2 hle).mono ?_
  rintro e w' ⟨x, zs, rfl, ho', hN', hb⟩
  refine ⟨x, rfl, D32.of_own hB hb ho' hN' ?_, hb⟩
  have h1 := (hN.len_le (k := 4194304)).1 hl
  exact (hN'.len_le (k := 4194304)).2 (Nat.lt_of_le_of_lt (Nat.sub_le _ _) h1)
theorem d_limbs {B : Nat} {w : World} {v : Value} {V : Nat} (h : D32 B w v V) (hV : V < 18446744073709551616 ^ 1000) :
    Calls Tryz.prog 105 #[v] w (QPost B [] V w) := by
  obtain ⟨hB, a, c, hs, rfl, ho, hN, hl⟩ := h
  refine (limbs_any a _ c hs w rfl (Nat.le_trans hl (by decide)) (own64.rd ho).2 hN.bd).mono ?_
  rintro e w' ⟨u, zs, rfl, ho', hN', hb⟩
  rw [hN.vl] at hN'
  exact ⟨u, rfl, QEnv.add ⟨hB, fun _ h => by cases h⟩ hb ho' hN' hV, hb⟩
theorem gcd_two {X Y : Nat} (hx : X % 2 = 0) (hy : Y % 2 = 0) : Nat.gcd X Y = 2 * Nat.gcd (X / 2) (Y / 2) := by
  have h1 : X = 2 * (X / 2) := by omega
  have h2 : Y = 2 * (Y / 2) := by omega
  rw [← Nat.gcd_mul_left, ← h1, ← h2]
theorem gcd_half {X Y : Nat} (hx : X % 2 = 0) (hy : Y % 2 = 1) : Nat.gcd (X / 2) Y = Nat.gcd X Y := by
  have h1 : X = 2 * (X / 2) := by omega
  have h3 : Nat.Coprime 2 Y := by
    unfold Nat.Coprime
    rw [Nat.gcd_rec, hy, Nat.gcd_one_left]
  rw [h1, Nat.mul_div_cancel_left _ (by decide : 0 < 2)]
  exact (Nat.Coprime.gcd_mul_left_cancel _ h3).symm
end Go.Proofs.YtfjhmnbbjknflaaGreatDoor
