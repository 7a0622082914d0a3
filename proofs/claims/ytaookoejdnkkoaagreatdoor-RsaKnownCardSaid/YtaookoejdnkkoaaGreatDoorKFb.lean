import Derived.Test.YtaookoejdnkkoaaGreatDoorKFa
namespace Go.Proofs.YtaookoejdnkkoaaGreatDoor.FF
open Go Ieee

/-- A sum of the first n. -/
def sm : Nat → (Nat → Rat) → Rat
  | 0, _ => 0
  | n + 1, f => sm n f + f n
theorem sm_congr {n : Nat} {f g : Nat → Rat} (h : ∀ i, i < n → f i = g i) : sm n f = sm n g := by
  induction n with
  | zero => rfl
  | succ n ih => simp only [sm]; rw [ih fun i hi => h i (by omega), h n (by omega)]
theorem sm_le {n : Nat} {f g : Nat → Rat} (h : ∀ i, i < n → f i ≤ g i) : sm n f ≤ sm n g := by
  induction n with
  | zero => exact Rat.le_refl
  | succ n ih => simp only [sm]; have := ih fun i hi => h i (by omega); have := h n (by omega); grind
theorem sm_nonneg {n : Nat} {f : Nat → Rat} (h : ∀ i, i < n → 0 ≤ f i) : 0 ≤ sm n f := by
  induction n with
  | zero => exact Rat.le_refl
  | succ n ih => simp only [sm]; have := ih fun i hi => h i (by omega); have := h n (by omega); grind
theorem sm_add (n : Nat) (f g : Nat → Rat) : sm n (fun i => f i + g i) = sm n f + sm n g := by
  induction n with
  | zero => simp only [sm]; grind
  | succ n ih => simp only [sm]; rw [ih]; grind
theorem sm_mul (n : Nat) (c : Rat) (f : Nat → Rat) : sm n (fun i => c * f i) = c * sm n f := by
  induction n with
  | zero => simp [sm]
  | succ n ih => simp only [sm]; rw [ih]; grind
theorem sm_mul_right (n : Nat) (c : Rat) (f : Nat → Rat) : sm n (fun i => f i * c) = sm n f * c := by
  induction n with
  | zero => simp [sm]
  | succ n ih => simp only [sm]; rw [ih]; grind
theorem sm_zero (n : Nat) : sm n (fun _ => 0) = 0 := by
  induction n with
  | zero => rfl
  | succ n ih => simp only [sm]; rw [ih]; grind
theorem sm_split (n m : Nat) (f : Nat → Rat) : sm (n + m) f = sm n f + sm m (fun i => f (i + n)) := by
  induction m with
  | zero => simp only [sm, Nat.add_zero]; grind
  | succ m ih => rw [← Nat.add_assoc]; simp only [sm]; rw [ih, Nat.add_comm m n]; grind
theorem sm_half (s : Nat) (f : Nat → Rat) : sm (2 ^ (s + 1)) f = sm (2 ^ s) (fun i => f i + f (i + 2 ^ s)) := by
  rw [Nat.pow_succ, Nat.mul_two, sm_split, sm_add]
theorem sm_one (n : Nat) {f : Nat → Rat} {i : Nat} (h : ∀ i, i < n → 0 ≤ f i) (hi : i < n) : f i ≤ sm n f := by
  induction n with
  | zero => omega
  | succ n ih =>
    simp only [sm]
    have h1 := sm_nonneg (n := n) fun i hi => h i (by omega)
    have h2 := h n (by omega)
    by_cases e : i = n
    · subst e; grind
    · have := ih (fun i hi => h i (by omega)) (by omega); grind

abbrev Fc := Nat × Nat
/-- The transform, by halves: over floats, and over the rationals. -/
def TF (R : Nat → Fc) : Nat → (Nat → Fc) → Nat → Fc
  | 0, f => f
  | s + 1, f => fun p => if p < 2 ^ s then TF R s (fun i => fadd (f i) (f (i + 2 ^ s))) p else TF R s (fun i => fmul (fsub (f i) (f (i + 2 ^ s))) (R (i * 2 ^ (9 - s)))) (p - 2 ^ s)
def TX (w : Nat → Cx) : Nat → (Nat → Cx) → Nat → Cx
  | 0, f => f
  | s + 1, f => fun p => if p < 2 ^ s then TX w s (fun i => cadd (f i) (f (i + 2 ^ s))) p else TX w s (fun i => cmul (csub (f i) (f (i + 2 ^ s))) (w (i * 2 ^ (9 - s)))) (p - 2 ^ s)
/-- The way back. -/
def BF (R : Nat → Fc) : Nat → (Nat → Fc) → Nat → Fc
  | 0, g => g
  | s + 1, g => fun p => if p < 2 ^ s then fadd (BF R s g p) (fmul (BF R s (fun i => g (i + 2 ^ s)) p) (R (p * 2 ^ (9 - s)))) else fsub (BF R s g (p - 2 ^ s)) (fmul (BF R s (fun i => g (i + 2 ^ s)) (p - 2 ^ s)) (R ((p - 2 ^ s) * 2 ^ (9 - s))))
def BX (w : Nat → Cx) : Nat → (Nat → Cx) → Nat → Cx
  | 0, g => g
  | s + 1, g => fun p => if p < 2 ^ s then cadd (BX w s g p) (cmul (BX w s (fun i => g (i + 2 ^ s)) p) (w (p * 2 ^ (9 - s)))) else csub (BX w s g (p - 2 ^ s)) (cmul (BX w s (fun i => g (i + 2 ^ s)) (p - 2 ^ s)) (w ((p - 2 ^ s) * 2 ^ (9 - s))))

theorem TF_congr (R : Nat → Fc) (s : Nat) : ∀ {f g : Nat → Fc}, (∀ i, i < 2 ^ s → f i = g i) → ∀ p, p < 2 ^ s → TF R s f p = TF R s g p := by
  induction s with
  | zero => exact fun h p hp => h p hp
  | succ s ih =>
    intro f g h p hp
    simp only [TF]
    have e : 2 ^ (s + 1) = 2 ^ s + 2 ^ s := by rw [Nat.pow_succ]; omega
    by_cases hq : p < 2 ^ s
    · rw [if_pos hq, if_pos hq]; exact ih (fun i hi => by rw [h i (by omega), h (i + 2 ^ s) (by omega)]) p hq
    · rw [if_neg hq, if_neg hq]; exact ih (fun i hi => by rw [h i (by omega), h (i + 2 ^ s) (by omega)]) _ (by omega)
theorem BF_congr (R : Nat → Fc) (s : Nat) : ∀ {f g : Nat → Fc}, (∀ i, i < 2 ^ s → f i = g i) → ∀ p, p < 2 ^ s → BF R s f p = BF R s g p := by
  induction s with
  | zero => exact fun h p hp => h p hp
  | succ s ih =>
    intro f g h p hp
    simp only [BF]
    have e : 2 ^ (s + 1) = 2 ^ s + 2 ^ s := by rw [Nat.pow_succ]; omega
    by_cases hq : p < 2 ^ s
    · rw [if_pos hq, if_pos hq, ih (fun i hi => h i (by omega)) p hq, ih (f := fun i => f (i + 2 ^ s)) (g := fun i => g (i + 2 ^ s)) (fun i hi => h _ (by omega)) p hq]
    · rw [if_neg hq, if_neg hq, ih (fun i hi => h i (by omega)) _ (by omega), ih (f := fun i => f (i + 2 ^ s)) (g := fun i => g (i + 2 ^ s)) (fun i hi => h _ (by omega)) _ (by omega)]
theorem BX_congr (R : Nat → Cx) (s : Nat) : ∀ {f g : Nat → Cx}, (∀ i, i < 2 ^ s → f i = g i) → ∀ p, p < 2 ^ s → BX R s f p = BX R s g p := by
  induction s with
  | zero => exact fun h p hp => h p hp
  | succ s ih =>
    intro f g h p hp
    simp only [BX]
    have e : 2 ^ (s + 1) = 2 ^ s + 2 ^ s := by rw [Nat.pow_succ]; omega
    by_cases hq : p < 2 ^ s
    · rw [if_pos hq, if_pos hq, ih (fun i hi => h i (by omega)) p hq, ih (f := fun i => f (i + 2 ^ s)) (g := fun i => g (i + 2 ^ s)) (fun i hi => h _ (by omega)) p hq]
    · rw [if_neg hq, if_neg hq, ih (fun i hi => h i (by omega)) _ (by omega), ih (f := fun i => f (i + 2 ^ s)) (g := fun i => g (i + 2 ^ s)) (fun i hi => h _ (by omega)) _ (by omega)]

def ca : Nat → Rat
  | 0 => 1
  | s + 1 => 22 / 10 * ca s
def cm : Nat → Rat
  | 0 => 1
  | s + 1 => 2002 / 1000 * cm s
def cb : Nat → Rat
  | 0 => 0
  | s + 1 => 5200 * p2 (-105) * ca s + 2002 / 1000 * cb s
theorem ca_nonneg (s : Nat) : 0 ≤ ca s := by
  induction s with
  | zero => simp only [ca]; decide
  | succ s ih => simp only [ca]; grind
theorem cm_one (s : Nat) : 1 ≤ cm s := by
  induction s with
  | zero => exact Rat.le_refl
  | succ s ih => simp only [cm]; grind
theorem cb_nonneg (s : Nat) : 0 ≤ cb s := by
  induction s with
  | zero => exact Rat.le_refl
  | succ s ih =>
    simp only [cb]
    have := Rat.mul_nonneg (Rat.le_of_lt (p2_pos (-105))) (ca_nonneg s)
    grind

/-- Roots: as floats, and as rationals. -/
def Roots (R : Nat → Fc) (w : Nat → Cx) : Prop := ∀ k, k < 512 → Root (R k) (w k)
theorem root_lt {s i : Nat} (hs : s ≤ 9) (hi : i < 2 ^ s) : i * 2 ^ (9 - s) < 512 := by
  have h1 : i * 2 ^ (9 - s) < 2 ^ s * 2 ^ (9 - s) := Nat.mul_lt_mul_of_pos_right hi (Nat.two_pow_pos _)
  rw [← Nat.pow_add, show s + (9 - s) = 9 by omega] at h1
  exact h1

/-- The transform over floats: its answers are numbers, their squares' sum, and the sum of the squares of the faults. -/
theorem there_err {R : Nat → Fc} {w : Nat → Cx} (hR : Roots R w) (s : Nat) : s ≤ 10 → ∀ (f : Nat → Fc) (F : Nat → Cx), (∀ i, i < 2 ^ s → cfin (f i)) → cm s * sm (2 ^ s) (fun i => mass (f i)) ≤ p2 300 →
    (∀ p, p < 2 ^ s → cfin (TF R s f p)) ∧ sm (2 ^ s) (fun i => mass (TF R s f i)) ≤ cm s * sm (2 ^ s) (fun i => mass (f i)) ∧
    sm (2 ^ s) (fun i => N (csub (cv (TF R s f i)) (TX w s F i))) ≤ ca s * sm (2 ^ s) (fun i => N (csub (cv (f i)) (F i))) + cb s * sm (2 ^ s) (fun i => mass (f i)) := by
  induction s with
  | zero =>
    intro _ f F hf _
    refine ⟨hf, ?_, ?_⟩
    · simp only [TF, cm]; grind
    · simp only [TF, TX, ca, cb]; grind
  | succ s ih =>
    intro hs f F hf hM
    have e : 2 ^ (s + 1) = 2 ^ s + 2 ^ s := by rw [Nat.pow_succ]; omega
    have hm0 : 0 ≤ sm (2 ^ (s + 1)) (fun i => mass (f i)) := sm_nonneg fun i _ => Rat.le_of_lt (mass_pos _)
    have hM1 : sm (2 ^ (s + 1)) (fun i => mass (f i)) ≤ p2 300 := by
      have := Rat.mul_le_mul_of_nonneg_right (cm_one (s + 1)) hm0; grind
    have hst : ∀ i, i < 2 ^ s → _ := fun i hi => step_there (hf i (by omega)) (hf (i + 2 ^ s) (by omega)) (hR (i * 2 ^ (9 - s)) (root_lt (by omega) hi)) (by
      have h := sm_one (2 ^ s) (f := fun i => mass (f i) + mass (f (i + 2 ^ s))) (i := i) (fun j _ => Rat.add_nonneg (Rat.le_of_lt (mass_pos _)) (Rat.le_of_lt (mass_pos _))) hi
      rw [sm_half] at hM1
      grind)
    -- the two halves
    have hmass : sm (2 ^ s) (fun i => mass (fadd (f i) (f (i + 2 ^ s)))) + sm (2 ^ s) (fun i => mass (fmul (fsub (f i) (f (i + 2 ^ s))) (R (i * 2 ^ (9 - s))))) ≤ 2002 / 1000 * sm (2 ^ (s + 1)) (fun i => mass (f i)) := by
      rw [← sm_add, sm_half, ← sm_mul]
      refine sm_le fun i hi => ?_
      have := (hst i hi).2.2.2.2.2.1
      grind
    have herr : sm (2 ^ s) (fun i => N (csub (cv (fadd (f i) (f (i + 2 ^ s)))) (cadd (F i) (F (i + 2 ^ s))))) + sm (2 ^ s) (fun i => N (csub (cv (fmul (fsub (f i) (f (i + 2 ^ s))) (R (i * 2 ^ (9 - s))))) (cmul (csub (F i) (F (i + 2 ^ s))) (w (i * 2 ^ (9 - s)))))) ≤ 22 / 10 * sm (2 ^ (s + 1)) (fun i => N (csub (cv (f i)) (F i))) + 5200 * p2 (-105) * sm (2 ^ (s + 1)) (fun i => mass (f i)) := by
      rw [← sm_add, sm_half, sm_half, ← sm_mul, ← sm_mul, ← sm_add]
      refine sm_le fun i hi => ?_
      have := (hst i hi).2.2.2.2.2.2 (F i) (F (i + 2 ^ s))
      grind
    have m1 : 0 ≤ sm (2 ^ s) (fun i => mass (fadd (f i) (f (i + 2 ^ s)))) := sm_nonneg fun i _ => Rat.le_of_lt (mass_pos _)
    have m2 : 0 ≤ sm (2 ^ s) (fun i => mass (fmul (fsub (f i) (f (i + 2 ^ s))) (R (i * 2 ^ (9 - s))))) := sm_nonneg fun i _ => Rat.le_of_lt (mass_pos _)
    have c0 : 0 ≤ cm s := by have := cm_one s; grind
    have g0 := Rat.mul_le_mul_of_nonneg_left hmass c0
    simp only [cm] at hM ⊢
    obtain ⟨i1, i2, i3⟩ := ih (by omega) (fun i => fadd (f i) (f (i + 2 ^ s))) (fun i => cadd (F i) (F (i + 2 ^ s))) (fun i hi => (hst i hi).2.2.2.1) (by have := Rat.mul_nonneg c0 m2; grind)
    obtain ⟨j1, j2, j3⟩ := ih (by omega) (fun i => fmul (fsub (f i) (f (i + 2 ^ s))) (R (i * 2 ^ (9 - s)))) (fun i => cmul (csub (F i) (F (i + 2 ^ s))) (w (i * 2 ^ (9 - s)))) (fun i hi => (hst i hi).2.2.2.2.1) (by have := Rat.mul_nonneg c0 m1; grind)
    have lo : ∀ i, i < 2 ^ s → TF R (s + 1) f i = TF R s (fun i => fadd (f i) (f (i + 2 ^ s))) i := fun i hi => by simp only [TF]; rw [if_pos hi]
    have hi' : ∀ i, TF R (s + 1) f (i + 2 ^ s) = TF R s (fun i => fmul (fsub (f i) (f (i + 2 ^ s))) (R (i * 2 ^ (9 - s)))) i := fun i => by simp only [TF]; rw [if_neg (by omega), Nat.add_sub_cancel]
    have loX : ∀ i, i < 2 ^ s → TX w (s + 1) F i = TX w s (fun i => cadd (F i) (F (i + 2 ^ s))) i := fun i hi => by simp only [TX]; rw [if_pos hi]
    have hiX : ∀ i, TX w (s + 1) F (i + 2 ^ s) = TX w s (fun i => cmul (csub (F i) (F (i + 2 ^ s))) (w (i * 2 ^ (9 - s)))) i := fun i => by simp only [TX]; rw [if_neg (by omega), Nat.add_sub_cancel]
    refine ⟨?_, ?_, ?_⟩
    · intro p hp
      by_cases hq : p < 2 ^ s
      · rw [lo p hq]; exact i1 p hq
      · have := hi' (p - 2 ^ s)
        rw [Nat.sub_add_cancel (by omega)] at this
        rw [this]; exact j1 _ (by omega)
    · have k1 : sm (2 ^ s) (fun i => mass (TF R (s + 1) f i)) = sm (2 ^ s) (fun i => mass (TF R s (fun i => fadd (f i) (f (i + 2 ^ s))) i)) := sm_congr fun i hi => by rw [lo i hi]
      have k2 : sm (2 ^ s) (fun i => mass (TF R (s + 1) f (i + 2 ^ s))) = sm (2 ^ s) (fun i => mass (TF R s (fun i => fmul (fsub (f i) (f (i + 2 ^ s))) (R (i * 2 ^ (9 - s)))) i)) := sm_congr fun i _ => by rw [hi' i]
      rw [sm_half, sm_add, k1, k2]
      grind
    · have k1 : sm (2 ^ s) (fun i => N (csub (cv (TF R (s + 1) f i)) (TX w (s + 1) F i))) = sm (2 ^ s) (fun i => N (csub (cv (TF R s (fun i => fadd (f i) (f (i + 2 ^ s))) i)) (TX w s (fun i => cadd (F i) (F (i + 2 ^ s))) i))) := sm_congr fun i hi => by rw [lo i hi, loX i hi]
      have k2 : sm (2 ^ s) (fun i => N (csub (cv (TF R (s + 1) f (i + 2 ^ s))) (TX w (s + 1) F (i + 2 ^ s)))) = sm (2 ^ s) (fun i => N (csub (cv (TF R s (fun i => fmul (fsub (f i) (f (i + 2 ^ s))) (R (i * 2 ^ (9 - s)))) i)) (TX w s (fun i => cmul (csub (F i) (F (i + 2 ^ s))) (w (i * 2 ^ (9 - s)))) i))) := sm_congr fun i _ => by rw [hi' i, hiX i]
      rw [sm_half, sm_add, k1, k2]
      have g1 := Rat.mul_le_mul_of_nonneg_left herr (ca_nonneg s)
      have g2 := Rat.mul_le_mul_of_nonneg_left hmass (cb_nonneg s)
      simp only [ca, cb]
      grind

def ck : Nat → Rat
  | 0 => 1
  | s + 1 => 1001 / 1000 * ck s
def cl : Nat → Rat
  | 0 => 0
  | s + 1 => 1001 / 1000 * cl s + p2 (-49) * ck s
theorem ck_one (s : Nat) : 1 ≤ ck s := by
  induction s with
  | zero => exact Rat.le_refl
  | succ s ih => simp only [ck]; grind
theorem cl_nonneg (s : Nat) : 0 ≤ cl s := by
  induction s with
  | zero => exact Rat.le_refl
  | succ s ih =>
    simp only [cl]
    have := Rat.mul_nonneg (Rat.le_of_lt (p2_pos (-49))) (show 0 ≤ ck s by have := ck_one s; grind)
    grind

/-- The way back over floats: its answers are numbers, how great, and how far from the true ones. -/
theorem back_err {R : Nat → Fc} {w : Nat → Cx} (hR : Roots R w) (s : Nat) : s ≤ 10 → ∀ (g : Nat → Fc) (G : Nat → Cx) (W D : Nat → Rat), (∀ i, i < 2 ^ s → cfin (g i) ∧ Le (cv (g i)) (W i) ∧ Le (csub (cv (g i)) (G i)) (D i) ∧ p2 (-900) ≤ W i) → ck s * sm (2 ^ s) W ≤ p2 200 →
    ∀ p, p < 2 ^ s → cfin (BF R s g p) ∧ Le (cv (BF R s g p)) (ck s * sm (2 ^ s) W) ∧ Le (csub (cv (BF R s g p)) (BX w s G p)) (ck s * sm (2 ^ s) D + cl s * sm (2 ^ s) W) := by
  induction s with
  | zero =>
    intro _ g G W D h _ p hp
    have e : p = 0 := by simpa using hp
    subst e
    obtain ⟨h1, h2, h3, h4⟩ := h 0 (by decide)
    have e1 : sm (2 ^ 0) W = W 0 := by show sm 0 W + W 0 = W 0; simp only [sm]; grind
    have e2 : sm (2 ^ 0) D = D 0 := by show sm 0 D + D 0 = D 0; simp only [sm]; grind
    rw [e1, e2]
    simp only [BF, BX, ck, cl]
    refine ⟨h1, ?_, ?_⟩
    · rw [show 1 * W 0 = W 0 by grind]; exact h2
    · rw [show 1 * D 0 + 0 * W 0 = D 0 by grind]; exact h3
  | succ s ih =>
    intro hs g G W D h hz p hp
    have e : 2 ^ (s + 1) = 2 ^ s + 2 ^ s := by rw [Nat.pow_succ]; omega
    have eW : sm (2 ^ (s + 1)) W = sm (2 ^ s) W + sm (2 ^ s) (fun i => W (i + 2 ^ s)) := by rw [e, sm_split]
    have eD : sm (2 ^ (s + 1)) D = sm (2 ^ s) D + sm (2 ^ s) (fun i => D (i + 2 ^ s)) := by rw [e, sm_split]
    have k9 := p2_pos (-900)
    have a1 : ∀ i, i < 2 ^ (s + 1) → 0 ≤ W i := fun i hi => by have := (h i hi).2.2.2; grind
    have n1 : 0 ≤ sm (2 ^ s) W := sm_nonneg fun i hi => a1 i (by omega)
    have n2 : 0 ≤ sm (2 ^ s) (fun i => W (i + 2 ^ s)) := sm_nonneg fun i hi => a1 _ (by omega)
    have b1 : p2 (-900) ≤ sm (2 ^ s) W := by
      have := sm_one (2 ^ s) (f := W) (i := 0) (fun i hi => a1 i (by omega)) (Nat.two_pow_pos _)
      have := (h 0 (Nat.two_pow_pos _)).2.2.2
      grind
    have b2 : p2 (-900) ≤ sm (2 ^ s) (fun i => W (i + 2 ^ s)) := by
      have := sm_one (2 ^ s) (f := fun i => W (i + 2 ^ s)) (i := 0) (fun i hi => a1 _ (by omega)) (Nat.two_pow_pos _)
      have := (h (0 + 2 ^ s) (by have := Nat.two_pow_pos s; omega)).2.2.2
      grind
    have c1 := ck_one s
    have c2 := cl_nonneg s
    have m1 := Rat.mul_nonneg (show 0 ≤ ck s by grind) n1
    have m2 := Rat.mul_nonneg (show 0 ≤ ck s by grind) n2
    have g1 := Rat.mul_le_mul_of_nonneg_right c1 n1
    have g2 := Rat.mul_le_mul_of_nonneg_right c1 n2
    rw [eW] at hz ⊢
    rw [eD]
    simp only [ck, cl] at hz ⊢
    have key : ∀ q, q < 2 ^ s → _ := fun q hq => by
      obtain ⟨i1, i2, i3⟩ := ih (by omega) g G W D (fun i hi => h i (by omega)) (by grind) q hq
      obtain ⟨j1, j2, j3⟩ := ih (by omega) (fun i => g (i + 2 ^ s)) (fun i => G (i + 2 ^ s)) (fun i => W (i + 2 ^ s)) (fun i => D (i + 2 ^ s)) (fun i hi => h _ (by omega)) (by grind) q hq
      exact step_back i1 j1 (hR (q * 2 ^ (9 - s)) (root_lt (by omega) hq)) i2 j2 i3 j3 (by grind) (by grind) (by grind)
    by_cases hq : p < 2 ^ s
    · obtain ⟨_, _, _, o1, _, o2, _, o3, _⟩ := key p hq
      simp only [BF, BX]
      rw [if_pos hq, if_pos hq]
      refine ⟨o1, o2.mono (by grind), o3.mono (by grind)⟩
    · obtain ⟨_, _, _, _, o1, _, o2, _, o3⟩ := key (p - 2 ^ s) (by omega)
      simp only [BF, BX]
      rw [if_neg hq, if_neg hq]
      refine ⟨o1, o2.mono (by grind), o3.mono (by grind)⟩

def c0 : Cx := ⟨0, 0⟩
def cs (c : Rat) (z : Cx) : Cx := ⟨c * z.re, c * z.im⟩
/-- A sum of complex numbers. -/
def csm (n : Nat) (f : Nat → Cx) : Cx := ⟨sm n (fun i => (f i).re), sm n (fun i => (f i).im)⟩
theorem le_c0 : Le c0 0 := ⟨Rat.le_refl, by show (0 : Rat) * 0 + 0 * 0 ≤ 0 * 0; decide +kernel⟩
theorem Le.cs {z : Cx} {A c : Rat} (h : Le z A) (hc : 0 ≤ c) : Le (cs c z) (c * A) := by
  refine ⟨Rat.mul_nonneg hc h.1, ?_⟩
  have h2 := Rat.mul_le_mul_of_nonneg_left h.2 (Rat.mul_nonneg hc hc)
  unfold N FF.cs at *; dsimp only; grind
theorem csm_succ (n : Nat) (f : Nat → Cx) : csm (n + 1) f = cadd (csm n f) (f n) := rfl
theorem csm_le {n : Nat} {f : Nat → Cx} {A : Nat → Rat} (h : ∀ i, i < n → Le (f i) (A i)) : Le (csm n f) (sm n A) := by
  induction n with
  | zero => exact le_c0
  | succ n ih => rw [csm_succ]; exact (ih fun i hi => h i (by omega)).add (h n (by omega))
theorem csm_congr {n : Nat} {f g : Nat → Cx} (h : ∀ i, i < n → f i = g i) : csm n f = csm n g := by
  unfold csm
  have h1 : sm n (fun i => (f i).re) = sm n (fun i => (g i).re) := sm_congr fun i hi => by rw [h i hi]
  have h2 : sm n (fun i => (f i).im) = sm n (fun i => (g i).im) := sm_congr fun i hi => by rw [h i hi]
  rw [h1, h2]
theorem csm_add (n : Nat) (f g : Nat → Cx) : csm n (fun i => cadd (f i) (g i)) = cadd (csm n f) (csm n g) := by
  unfold csm cadd; dsimp only; rw [sm_add, sm_add]
theorem csm_split (n m : Nat) (f : Nat → Cx) : csm (n + m) f = cadd (csm n f) (csm m (fun i => f (i + n))) := by
  unfold csm cadd; dsimp only; rw [sm_split, sm_split]
theorem sm_lin2 (n : Nat) (f g : Nat → Rat) (c d : Rat) : sm n (fun i => f i * c + g i * d) = sm n f * c + sm n g * d := by
  rw [sm_add, sm_mul_right, sm_mul_right]
theorem csm_mul (n : Nat) (f : Nat → Cx) (c : Cx) : csm n (fun i => cmul (f i) c) = cmul (csm n f) c := by
  unfold csm cmul; dsimp only
  rw [sm_lin2]
  have : (fun i => (f i).re * c.re - (f i).im * c.im) = fun i => (f i).re * c.re + (f i).im * (-c.im) := by funext i; grind
  rw [this, sm_lin2]
  congr 1
  grind
theorem csm_cs (n : Nat) (f : Nat → Cx) (c : Rat) : csm n (fun i => cs c (f i)) = cs c (csm n f) := by
  unfold csm cs; dsimp only; rw [sm_mul, sm_mul]
/-- A sum over two. -/
def ds (n : Nat) (F : Nat → Nat → Cx) : Cx := csm n (fun a => csm n (fun b => F a b))
theorem ds_add (n : Nat) (F G : Nat → Nat → Cx) : ds n (fun a b => cadd (F a b) (G a b)) = cadd (ds n F) (ds n G) := by
  unfold ds; rw [← csm_add]; exact csm_congr fun a _ => csm_add n _ _
theorem ds_mul (n : Nat) (F : Nat → Nat → Cx) (c : Cx) : ds n (fun a b => cmul (F a b) c) = cmul (ds n F) c := by
  unfold ds; rw [← csm_mul]; exact csm_congr fun a _ => csm_mul n _ _
theorem ds_cs (n : Nat) (F : Nat → Nat → Cx) (c : Rat) : ds n (fun a b => cs c (F a b)) = cs c (ds n F) := by
  unfold ds; rw [← csm_cs]; exact csm_congr fun a _ => csm_cs n _ _
theorem ds_le {n : Nat} {F : Nat → Nat → Cx} {A B : Nat → Rat} {c : Rat} (h : ∀ a b, a < n → b < n → Le (F a b) (c * (A a * B b))) : Le (ds n F) (c * (sm n A * sm n B)) := by
  have h1 : Le (ds n F) (sm n (fun a => sm n (fun b => c * (A a * B b)))) := csm_le fun a ha => csm_le fun b hb => h a b ha hb
  have h2 : sm n (fun a => sm n (fun b => c * (A a * B b))) = c * (sm n A * sm n B) := by
    have : ∀ a, sm n (fun b => c * (A a * B b)) = A a * (c * sm n B) := fun a => by
      rw [sm_mul, sm_mul]; grind
    rw [sm_congr fun a _ => this a, sm_mul_right]; grind
  rwa [h2] at h1
theorem ds_split (n : Nat) (F : Nat → Nat → Cx) : ds (n + n) F = ds n (fun a b => cadd (cadd (F a b) (F a (b + n))) (cadd (F (a + n) b) (F (a + n) (b + n)))) := by
  unfold ds
  rw [csm_split, csm_congr fun a _ => csm_split n n (F a), csm_congr (f := fun i => csm (n + n) (fun b => F (i + n) b)) fun a _ => csm_split n n (F (a + n)), ← csm_add]
  refine csm_congr fun a _ => ?_
  rw [csm_add, csm_add, csm_add]

/-- The product of two polynomials, turned back at n. -/
def conv (n : Nat) (f g : Nat → Cx) (j : Nat) : Cx := ds n (fun a b => if a + b = j ∨ a + b = j + n then cmul (f a) (g b) else c0)

/-- The roots of the exact side: a turn that is almost a root of 1. -/
structure Unit' (w v : Nat → Cx) (d : Rat) : Prop where
  pos : 0 ≤ d
  w1 : ∀ k, k < 512 → Le (w k) (10001 / 10000)
  v1 : ∀ k, k < 512 → Le (v k) (10001 / 10000)
  same : ∀ a b, a + b < 512 → Le (csub (cmul (cmul (w a) (w b)) (v (a + b))) ⟨1, 0⟩) d
  turn : ∀ a b c, a < 512 → b < 512 → a + b = c + 512 → Le (csub (cmul (cmul (w a) (w b)) (v c)) ⟨-1, 0⟩) d

def cg (d : Rat) : Nat → Rat
  | 0 => 0
  | s + 1 => 3 * cg d s + ((2 ^ s : Nat) : Rat) * d
theorem cg_nonneg {d : Rat} (hd : 0 ≤ d) (s : Nat) : 0 ≤ cg d s := by
  induction s with
  | zero => exact Rat.le_refl
  | succ s ih =>
    simp only [cg]
    have := Rat.mul_nonneg (show (0 : Rat) ≤ ((2 ^ s : Nat) : Rat) from Rat.natCast_nonneg) hd
    grind

theorem Le.sub3 {x y z : Cx} {A B : Rat} (h1 : Le (csub x y) A) (h2 : Le (csub y z) B) : Le (csub x z) (A + B) := by
  have := h1.add h2
  rwa [show cadd (csub x y) (csub y z) = csub x z from by unfold cadd csub; apply Cx.ext' <;> dsimp only <;> grind] at this

theorem Le.of_eq {x y : Cx} {A : Rat} (h : Le x A) (e : y = x) : Le y A := by rw [e]; exact h
theorem lin1 (x y z : Cx) : csub (cadd x y) (cs 2 z) = cadd (cadd x y) (cs (-2) z) := by
  unfold csub cadd cs; apply Cx.ext' <;> dsimp only <;> grind
theorem lin2 (x y z : Cx) : csub (csub x y) (cs 2 z) = cadd (cadd x (cs (-1) y)) (cs (-2) z) := by
  unfold csub cadd cs; apply Cx.ext' <;> dsimp only <;> grind
/-- What the two halves of the way back come to. -/
theorem conv_step {w v : Nat → Cx} {d : Rat} (hU : Unit' w v d) (s : Nat) (hs : s ≤ 9) (f g : Nat → Cx) (A B : Nat → Rat) (hf : ∀ i, i < 2 ^ (s + 1) → Le (f i) (A i)) (hg : ∀ i, i < 2 ^ (s + 1) → Le (g i) (B i)) (j : Nat) (hj : j < 2 ^ s) :
    let E := conv (2 ^ s) (fun i => cadd (f i) (f (i + 2 ^ s))) (fun i => cadd (g i) (g (i + 2 ^ s))) j
    let O := cmul (conv (2 ^ s) (fun i => cmul (csub (f i) (f (i + 2 ^ s))) (w (i * 2 ^ (9 - s)))) (fun i => cmul (csub (g i) (g (i + 2 ^ s))) (w (i * 2 ^ (9 - s)))) j) (v (j * 2 ^ (9 - s)))
    Le (csub (cadd E O) (cs 2 (conv (2 ^ (s + 1)) f g j))) (d * (sm (2 ^ (s + 1)) A * sm (2 ^ (s + 1)) B)) ∧ Le (csub (csub E O) (cs 2 (conv (2 ^ (s + 1)) f g (j + 2 ^ s)))) (d * (sm (2 ^ (s + 1)) A * sm (2 ^ (s + 1)) B)) := by
  intro E O
  have e : 2 ^ (s + 1) = 2 ^ s + 2 ^ s := by rw [Nat.pow_succ]; omega
  have hq : 2 ^ s * 2 ^ (9 - s) = 512 := by rw [← Nat.pow_add, show s + (9 - s) = 9 by omega]
  have hqp : 0 < 2 ^ (9 - s) := Nat.two_pow_pos _
  have hlt : ∀ i, i < 2 ^ s → i * 2 ^ (9 - s) < 512 := fun i hi => by rw [← hq]; exact Nat.mul_lt_mul_of_pos_right hi hqp
  rw [sm_half s A, sm_half s B]
  -- the unit factor of a pair
  have hunit : ∀ a b, a < 2 ^ s → b < 2 ^ s → (a + b = j → Le (csub (cmul (cmul (w (a * 2 ^ (9 - s))) (w (b * 2 ^ (9 - s)))) (v (j * 2 ^ (9 - s)))) ⟨1, 0⟩) d) ∧ (a + b = j + 2 ^ s → Le (csub (cmul (cmul (w (a * 2 ^ (9 - s))) (w (b * 2 ^ (9 - s)))) (v (j * 2 ^ (9 - s)))) ⟨-1, 0⟩) d) := by
    intro a b ha hb
    constructor
    · intro h
      subst h
      rw [Nat.add_mul]
      exact hU.same _ _ (by rw [← Nat.add_mul]; exact hlt _ hj)
    · intro h
      refine hU.turn _ _ _ (hlt a ha) (hlt b hb) ?_
      rw [← Nat.add_mul, h, Nat.add_mul, hq]
  have hpair : ∀ a b, a < 2 ^ s → b < 2 ^ s → Le (cmul (csub (f a) (f (a + 2 ^ s))) (csub (g b) (g (b + 2 ^ s)))) ((A a + A (a + 2 ^ s)) * (B b + B (b + 2 ^ s))) := fun a b ha hb =>
    ((hf a (by omega)).sub (hf _ (by omega))).mul ((hg b (by omega)).sub (hg _ (by omega)))
  have hOeq : O = ds (2 ^ s) (fun a b => cmul (if a + b = j ∨ a + b = j + 2 ^ s then cmul (cmul (csub (f a) (f (a + 2 ^ s))) (w (a * 2 ^ (9 - s)))) (cmul (csub (g b) (g (b + 2 ^ s))) (w (b * 2 ^ (9 - s)))) else c0) (v (j * 2 ^ (9 - s)))) := by
    show cmul (conv _ _ _ _) _ = _
    unfold conv
    rw [← ds_mul]
  constructor
  · have hP : csub (cadd E O) (cs 2 (conv (2 ^ (s + 1)) f g j)) = ds (2 ^ s) (fun a b =>
        cadd (cadd (if a + b = j ∨ a + b = j + 2 ^ s then cmul (cadd (f a) (f (a + 2 ^ s))) (cadd (g b) (g (b + 2 ^ s))) else c0)
          (cmul (if a + b = j ∨ a + b = j + 2 ^ s then cmul (cmul (csub (f a) (f (a + 2 ^ s))) (w (a * 2 ^ (9 - s)))) (cmul (csub (g b) (g (b + 2 ^ s))) (w (b * 2 ^ (9 - s)))) else c0) (v (j * 2 ^ (9 - s)))))
          (cs (-2) (cadd (cadd (if a + b = j ∨ a + b = j + 2 ^ (s + 1) then cmul (f a) (g b) else c0) (if a + (b + 2 ^ s) = j ∨ a + (b + 2 ^ s) = j + 2 ^ (s + 1) then cmul (f a) (g (b + 2 ^ s)) else c0))
            (cadd (if (a + 2 ^ s) + b = j ∨ (a + 2 ^ s) + b = j + 2 ^ (s + 1) then cmul (f (a + 2 ^ s)) (g b) else c0) (if (a + 2 ^ s) + (b + 2 ^ s) = j ∨ (a + 2 ^ s) + (b + 2 ^ s) = j + 2 ^ (s + 1) then cmul (f (a + 2 ^ s)) (g (b + 2 ^ s)) else c0))))) := by
      rw [ds_add, ds_add, ds_cs, ← ds_split (2 ^ s) (fun a b => if a + b = j ∨ a + b = j + 2 ^ (s + 1) then cmul (f a) (g b) else c0), hOeq]
      show _ = cadd _ (cs (-2) (ds (2 ^ s + 2 ^ s) _))
      rw [← e]
      exact lin1 _ _ _
    rw [hP]
    refine ds_le fun a b ha hb => ?_
    have hd := hpair a b ha hb
    by_cases h1 : a + b = j
    · have hu := (hunit a b ha hb).1 h1
      have hm := hd.mul hu
      rw [if_pos (Or.inl h1), if_pos (Or.inl h1), if_pos (Or.inl h1), if_neg (by omega), if_neg (by omega), if_pos (Or.inr (by omega))]
      have hx := hm.mono (show (A a + A (a + 2 ^ s)) * (B b + B (b + 2 ^ s)) * d ≤ d * ((A a + A (a + 2 ^ s)) * (B b + B (b + 2 ^ s))) by grind)
      generalize w (a * 2 ^ (9 - s)) = wa at *
      generalize w (b * 2 ^ (9 - s)) = wb at *
      generalize v (j * 2 ^ (9 - s)) = vj at *
      refine Le.of_eq hx ?_
      unfold csub cadd cs cmul c0
      apply Cx.ext' <;> dsimp only <;> grind
    · by_cases h2 : a + b = j + 2 ^ s
      · have hu := (hunit a b ha hb).2 h2
        have hm := hd.mul hu
        rw [if_pos (Or.inr h2), if_pos (Or.inr h2), if_neg (by omega), if_pos (Or.inr (by omega)), if_pos (Or.inr (by omega)), if_neg (by omega)]
        have hx := hm.mono (show (A a + A (a + 2 ^ s)) * (B b + B (b + 2 ^ s)) * d ≤ d * ((A a + A (a + 2 ^ s)) * (B b + B (b + 2 ^ s))) by grind)
        generalize w (a * 2 ^ (9 - s)) = wa at *
        generalize w (b * 2 ^ (9 - s)) = wb at *
        generalize v (j * 2 ^ (9 - s)) = vj at *
        refine Le.of_eq hx ?_
        unfold csub cadd cs cmul c0
        apply Cx.ext' <;> dsimp only <;> grind
      · rw [if_neg (by omega), if_neg (by omega), if_neg (by omega), if_neg (by omega), if_neg (by omega), if_neg (by omega)]
        have hx := le_c0.mono (show 0 ≤ d * ((A a + A (a + 2 ^ s)) * (B b + B (b + 2 ^ s))) from Rat.mul_nonneg hU.pos hd.1)
        refine Le.of_eq hx ?_
        unfold cadd cs cmul c0
        apply Cx.ext' <;> dsimp only <;> grind
  · have hP : csub (csub E O) (cs 2 (conv (2 ^ (s + 1)) f g (j + 2 ^ s))) = ds (2 ^ s) (fun a b =>
        cadd (cadd (if a + b = j ∨ a + b = j + 2 ^ s then cmul (cadd (f a) (f (a + 2 ^ s))) (cadd (g b) (g (b + 2 ^ s))) else c0)
          (cs (-1) (cmul (if a + b = j ∨ a + b = j + 2 ^ s then cmul (cmul (csub (f a) (f (a + 2 ^ s))) (w (a * 2 ^ (9 - s)))) (cmul (csub (g b) (g (b + 2 ^ s))) (w (b * 2 ^ (9 - s)))) else c0) (v (j * 2 ^ (9 - s))))))
          (cs (-2) (cadd (cadd (if a + b = j + 2 ^ s ∨ a + b = j + 2 ^ s + 2 ^ (s + 1) then cmul (f a) (g b) else c0) (if a + (b + 2 ^ s) = j + 2 ^ s ∨ a + (b + 2 ^ s) = j + 2 ^ s + 2 ^ (s + 1) then cmul (f a) (g (b + 2 ^ s)) else c0))
            (cadd (if (a + 2 ^ s) + b = j + 2 ^ s ∨ (a + 2 ^ s) + b = j + 2 ^ s + 2 ^ (s + 1) then cmul (f (a + 2 ^ s)) (g b) else c0) (if (a + 2 ^ s) + (b + 2 ^ s) = j + 2 ^ s ∨ (a + 2 ^ s) + (b + 2 ^ s) = j + 2 ^ s + 2 ^ (s + 1) then cmul (f (a + 2 ^ s)) (g (b + 2 ^ s)) else c0))))) := by
      rw [ds_add, ds_add, ds_cs, ds_cs, ← ds_split (2 ^ s) (fun a b => if a + b = j + 2 ^ s ∨ a + b = j + 2 ^ s + 2 ^ (s + 1) then cmul (f a) (g b) else c0), hOeq]
      show _ = cadd _ (cs (-2) (ds (2 ^ s + 2 ^ s) _))
      rw [← e]
      exact lin2 _ _ _
    rw [hP]
    refine ds_le fun a b ha hb => ?_
    have hd := hpair a b ha hb
    by_cases h1 : a + b = j
    · have hu := (hunit a b ha hb).1 h1
      have hm := (hd.mul hu).neg
      rw [if_pos (Or.inl h1), if_pos (Or.inl h1), if_neg (by omega), if_pos (Or.inl (by omega)), if_pos (Or.inl (by omega)), if_neg (by omega)]
      have hx := hm.mono (show (A a + A (a + 2 ^ s)) * (B b + B (b + 2 ^ s)) * d ≤ d * ((A a + A (a + 2 ^ s)) * (B b + B (b + 2 ^ s))) by grind)
      generalize w (a * 2 ^ (9 - s)) = wa at *
      generalize w (b * 2 ^ (9 - s)) = wb at *
      generalize v (j * 2 ^ (9 - s)) = vj at *
      refine Le.of_eq hx ?_
      unfold csub cadd cs cmul c0
      apply Cx.ext' <;> dsimp only <;> grind
    · by_cases h2 : a + b = j + 2 ^ s
      · have hu := (hunit a b ha hb).2 h2
        have hm := (hd.mul hu).neg
        rw [if_pos (Or.inr h2), if_pos (Or.inr h2), if_pos (Or.inl h2), if_neg (by omega), if_neg (by omega), if_pos (Or.inr (by omega))]
        have hx := hm.mono (show (A a + A (a + 2 ^ s)) * (B b + B (b + 2 ^ s)) * d ≤ d * ((A a + A (a + 2 ^ s)) * (B b + B (b + 2 ^ s))) by grind)
        generalize w (a * 2 ^ (9 - s)) = wa at *
        generalize w (b * 2 ^ (9 - s)) = wb at *
        generalize v (j * 2 ^ (9 - s)) = vj at *
        refine Le.of_eq hx ?_
        unfold csub cadd cs cmul c0
        apply Cx.ext' <;> dsimp only <;> grind
      · rw [if_neg (by omega), if_neg (by omega), if_neg (by omega), if_neg (by omega), if_neg (by omega), if_neg (by omega)]
        have hx := le_c0.mono (show 0 ≤ d * ((A a + A (a + 2 ^ s)) * (B b + B (b + 2 ^ s))) from Rat.mul_nonneg hU.pos hd.1)
        refine Le.of_eq hx ?_
        unfold cadd cs cmul c0
        apply Cx.ext' <;> dsimp only <;> grind

theorem conv_err {w v : Nat → Cx} {d : Rat} (hU : Unit' w v d) (s : Nat) : s ≤ 10 → ∀ (f g : Nat → Cx) (A B : Nat → Rat), (∀ i, i < 2 ^ s → Le (f i) (A i)) → (∀ i, i < 2 ^ s → Le (g i) (B i)) → ∀ j, j < 2 ^ s →
    Le (csub (BX v s (fun p => cmul (TX w s f p) (TX w s g p)) j) (cs ((2 ^ s : Nat) : Rat) (conv (2 ^ s) f g j))) (cg d s * (sm (2 ^ s) A * sm (2 ^ s) B)) := by
  induction s with
  | zero =>
    intro _ f g A B hf hg j hj
    have e : j = 0 := by simpa using hj
    subst e
    have h0 := le_c0
    simp only [cg]
    refine Le.of_eq (h0.mono (by grind)) ?_
    simp only [BX, TX]
    show csub (cmul (f 0) (g 0)) (cs ((1 : Nat) : Rat) (cadd c0 (cadd c0 (if 0 + 0 = 0 ∨ 0 + 0 = 0 + 1 then cmul (f 0) (g 0) else c0)))) = c0
    rw [if_pos (Or.inl rfl)]
    have e1 : (((1 : Nat)) : Rat) = 1 := rfl
    rw [e1]
    unfold csub cs cadd c0
    apply Cx.ext' <;> dsimp only <;> grind
  | succ s ih =>
    intro hs f g A B hf hg j hj
    have e : 2 ^ (s + 1) = 2 ^ s + 2 ^ s := by rw [Nat.pow_succ]; omega
    have hq : 2 ^ s * 2 ^ (9 - s) = 512 := by rw [← Nat.pow_add, show s + (9 - s) = 9 by omega]
    have hlt : ∀ i, i < 2 ^ s → i * 2 ^ (9 - s) < 512 := fun i hi => by rw [← hq]; exact Nat.mul_lt_mul_of_pos_right hi (Nat.two_pow_pos _)
    -- the halves
    have lo : ∀ q, q < 2 ^ s → BX v s (fun p => cmul (TX w (s + 1) f p) (TX w (s + 1) g p)) q = BX v s (fun p => cmul (TX w s (fun i => cadd (f i) (f (i + 2 ^ s))) p) (TX w s (fun i => cadd (g i) (g (i + 2 ^ s))) p)) q :=
      fun q hq => BX_congr v s (fun p hp => by simp only [TX]; rw [if_pos hp, if_pos hp]) q hq
    have hi : ∀ q, q < 2 ^ s → BX v s (fun i => cmul (TX w (s + 1) f (i + 2 ^ s)) (TX w (s + 1) g (i + 2 ^ s))) q = BX v s (fun p => cmul (TX w s (fun i => cmul (csub (f i) (f (i + 2 ^ s))) (w (i * 2 ^ (9 - s)))) p) (TX w s (fun i => cmul (csub (g i) (g (i + 2 ^ s))) (w (i * 2 ^ (9 - s)))) p)) q :=
      fun q hq => BX_congr v s (fun p hp => by simp only [TX]; rw [if_neg (by omega), if_neg (by omega), Nat.add_sub_cancel]) q hq
    have key : ∀ q, q < 2 ^ s → _ := fun q hq => conv_step hU s (by omega) f g A B hf hg q hq
    have I1 := ih (by omega) (fun i => cadd (f i) (f (i + 2 ^ s))) (fun i => cadd (g i) (g (i + 2 ^ s))) (fun i => A i + A (i + 2 ^ s)) (fun i => B i + B (i + 2 ^ s)) (fun i hi => (hf i (by omega)).add (hf _ (by omega))) (fun i hi => (hg i (by omega)).add (hg _ (by omega)))
    have I2 := ih (by omega) (fun i => cmul (csub (f i) (f (i + 2 ^ s))) (w (i * 2 ^ (9 - s)))) (fun i => cmul (csub (g i) (g (i + 2 ^ s))) (w (i * 2 ^ (9 - s)))) (fun i => (A i + A (i + 2 ^ s)) * (10001 / 10000)) (fun i => (B i + B (i + 2 ^ s)) * (10001 / 10000)) (fun i hi => ((hf i (by omega)).sub (hf _ (by omega))).mul (hU.w1 _ (hlt i hi))) (fun i hi => ((hg i (by omega)).sub (hg _ (by omega))).mul (hU.w1 _ (hlt i hi)))
    rw [sm_mul_right, sm_mul_right] at I2
    rw [← sm_half, ← sm_half] at I1 I2
    have hSA : 0 ≤ sm (2 ^ (s + 1)) A := sm_nonneg fun i hi => (hf i hi).1
    have hSB : 0 ≤ sm (2 ^ (s + 1)) B := sm_nonneg fun i hi => (hg i hi).1
    have hP := Rat.mul_nonneg hSA hSB
    have hc := cg_nonneg hU.pos s
    have hcP := Rat.mul_nonneg hc hP
    have hN0 : (0 : Rat) ≤ ((2 ^ s : Nat) : Rat) := Rat.natCast_nonneg
    have e2 : (((2 ^ (s + 1) : Nat)) : Rat) = 2 * ((2 ^ s : Nat) : Rat) := by rw [Nat.pow_succ, Nat.mul_comm, Rat.natCast_mul]; rfl
    rw [e2]
    simp only [cg]
    generalize sm (2 ^ (s + 1)) A = SA at *
    generalize sm (2 ^ (s + 1)) B = SB at *
    generalize hcg : cg d s = G at *
    have bound : G * (SA * SB) + (G * (SA * (10001 / 10000) * (SB * (10001 / 10000))) * (10001 / 10000) + ((2 ^ s : Nat) : Rat) * (d * (SA * SB))) ≤ (3 * G + ((2 ^ s : Nat) : Rat) * d) * (SA * SB) := by
      generalize (((2 ^ s : Nat)) : Rat) = n at *
      have : G * (SA * (10001 / 10000) * (SB * (10001 / 10000))) * (10001 / 10000) = (10001 / 10000) * (10001 / 10000) * (10001 / 10000) * (G * (SA * SB)) := by grind
      rw [this]
      have : n * (d * (SA * SB)) = n * d * (SA * SB) := by grind
      grind
    by_cases hj2 : j < 2 ^ s
    · simp only [BX]
      rw [if_pos hj2, lo j hj2, hi j hj2]
      have h1 := I1 j hj2
      have h2 := (I2 j hj2).mul (hU.v1 _ (hlt j hj2))
      have h3 := ((key j hj2).1).cs hN0
      refine Le.of_eq ((h1.add (h2.add h3)).mono bound) ?_
      unfold csub cadd cs cmul
      apply Cx.ext' <;> dsimp only <;> grind
    · simp only [BX]
      rw [if_neg hj2, lo (j - 2 ^ s) (by omega), hi (j - 2 ^ s) (by omega)]
      have h1 := I1 (j - 2 ^ s) (by omega)
      have h2 := (I2 (j - 2 ^ s) (by omega)).mul (hU.v1 _ (hlt (j - 2 ^ s) (by omega)))
      have h3 := ((key (j - 2 ^ s) (by omega)).2).cs hN0
      rw [Nat.sub_add_cancel (by omega)] at h3
      refine Le.of_eq ((h1.add (h2.neg.add h3)).mono bound) ?_
      unfold csub cadd cs cmul
      apply Cx.ext' <;> dsimp only <;> grind

/-- Powers of a turn. -/
def zp (z : Cx) : Nat → Cx
  | 0 => ⟨1, 0⟩
  | k + 1 => cmul (zp z k) z
theorem cmul_assoc (x y z : Cx) : cmul (cmul x y) z = cmul x (cmul y z) := by unfold cmul; apply Cx.ext' <;> dsimp only <;> grind
theorem cmul_comm (x y : Cx) : cmul x y = cmul y x := by unfold cmul; apply Cx.ext' <;> dsimp only <;> grind
theorem cmul_one (x : Cx) : cmul x ⟨1, 0⟩ = x := by unfold cmul; apply Cx.ext' <;> dsimp only <;> grind
theorem zp_add (z : Cx) (a b : Nat) : zp z (a + b) = cmul (zp z a) (zp z b) := by
  induction b with
  | zero => rw [Nat.add_zero]; exact (cmul_one _).symm
  | succ b ih => rw [← Nat.add_assoc]; simp only [zp]; rw [ih, cmul_assoc]
theorem N_zp (z : Cx) (k : Nat) : N (zp z k) = (N z) ^ k := by
  induction k with
  | zero => simp only [zp]; unfold N; rw [Rat.pow_zero]; dsimp only; grind
  | succ k ih => simp only [zp]; rw [N_mul, ih, Rat.pow_succ]
theorem pow_near {x t : Rat} (h1 : 1 - t ≤ x) (h2 : x ≤ 1 + t) (ht : 0 ≤ t) (hs : 2000 * t ≤ 1) (k : Nat) (hk : k ≤ 1000) : 1 - 2 * (((k : Nat)) : Rat) * t ≤ x ^ k ∧ x ^ k ≤ 1 + 2 * (((k : Nat)) : Rat) * t := by
  induction k with
  | zero => rw [Rat.pow_zero]; have : (((0 : Nat)) : Rat) = 0 := rfl; rw [this]; constructor <;> grind
  | succ k ih =>
    obtain ⟨i1, i2⟩ := ih (by omega)
    rw [Rat.pow_succ]
    have hk2 : (((k + 1 : Nat)) : Rat) = ((k : Nat) : Rat) + 1 := by rw [Rat.natCast_add]; rfl
    rw [hk2]
    have hkr : ((k : Nat) : Rat) ≤ 999 := by
      have : ((k : Nat) : Rat) ≤ ((999 : Nat) : Rat) := Rat.natCast_le_natCast.2 (by omega)
      exact this
    have hk0 : (0 : Rat) ≤ ((k : Nat) : Rat) := Rat.natCast_nonneg
    generalize ((k : Nat) : Rat) = q at *
    have hqt := Rat.mul_nonneg hk0 ht
    have hqt2 := Rat.mul_le_mul_of_nonneg_right hkr ht
    have g1 : 0 ≤ x := by grind
    have g0 : 0 ≤ x ^ k := by grind
    have m1 := mul_mono g0 g1 i2 h2
    have m2 := mul_mono (show 0 ≤ 1 - 2 * q * t by grind) (show 0 ≤ 1 - t by grind) i1 h1
    have m3 := Rat.mul_le_mul_of_nonneg_right (show 2 * (q * t) ≤ 1 by grind) ht
    have m4 := Rat.mul_nonneg hqt ht
    constructor <;> grind
theorem conj_cmul (x : Cx) : cmul x (conj x) = ⟨N x, 0⟩ := by unfold cmul conj N; apply Cx.ext' <;> dsimp only <;> grind

/-- A turn whose 512th power is almost -1 serves. -/
theorem unit_of {z : Cx} (h1 : 1 - p2 (-180) ≤ N z) (h2 : N z ≤ 1 + p2 (-180)) (h3 : Le (csub (zp z 512) ⟨-1, 0⟩) (p2 (-160))) : Unit' (zp z) (fun k => conj (zp z k)) (p2 (-150)) := by
  have ht := p2_pos (-180)
  have hs : 2000 * p2 (-180) ≤ 1 := by decide +kernel
  have hN : ∀ k, k ≤ 1000 → 1 - p2 (-165) ≤ N (zp z k) ∧ N (zp z k) ≤ 1 + p2 (-165) := by
    intro k hk
    rw [N_zp]
    obtain ⟨a, b⟩ := pow_near h1 h2 (Rat.le_of_lt ht) hs k hk
    have hkr : ((k : Nat) : Rat) ≤ 1000 := by
      have : ((k : Nat) : Rat) ≤ ((1000 : Nat) : Rat) := Rat.natCast_le_natCast.2 hk
      exact this
    have := Rat.mul_le_mul_of_nonneg_right hkr (Rat.le_of_lt ht)
    have hc : 2 * (1000 * p2 (-180)) ≤ p2 (-165) := by decide +kernel
    constructor <;> grind
  have h165 : p2 (-165) ≤ 1 / 100000 := by decide +kernel
  have p165 := p2_pos (-165)
  have hw : ∀ k, k < 512 → Le (zp z k) (10001 / 10000) := fun k hk => ⟨by grind, by have := (hN k (by omega)).2; grind⟩
  have hone : ∀ k, k ≤ 1000 → Le (csub ⟨N (zp z k), 0⟩ ⟨1, 0⟩) (p2 (-165)) := fun k hk => by
    refine ⟨Rat.le_of_lt p165, ?_⟩
    obtain ⟨a, b⟩ := hN k hk
    have := sq_le (a := N (zp z k) - 1) (b := p2 (-165)) (by grind) (by grind)
    unfold csub
    show (N (zp z k) - 1) * (N (zp z k) - 1) + (0 - 0) * (0 - 0) ≤ _
    grind
  refine ⟨Rat.le_of_lt (p2_pos _), hw, fun k hk => (hw k hk).conj, ?_, ?_⟩
  · intro a b hab
    have hc : p2 (-165) ≤ p2 (-150) := by decide +kernel
    refine Le.of_eq ((hone (a + b) (by omega)).mono hc) ?_
    rw [← zp_add, conj_cmul]
  · intro a b c ha hb hab
    have hcb : p2 (-160) * (10001 / 10000) + p2 (-165) ≤ p2 (-150) := by decide +kernel
    have l1 : Le (⟨N (zp z c), 0⟩ : Cx) (10001 / 10000) := by
      refine ⟨by grind, ?_⟩
      have := (hN c (by omega)).2
      have h0 := N_nonneg (zp z c)
      have := mul_mono h0 h0 (show N (zp z c) ≤ 10001 / 10000 by grind) (show N (zp z c) ≤ 10001 / 10000 by grind)
      show N (zp z c) * N (zp z c) + 0 * 0 ≤ _
      grind
    have h := (h3.mul l1).add (hone c (by omega)).neg
    refine Le.of_eq (h.mono hcb) ?_
    rw [← zp_add, hab, Nat.add_comm, zp_add, cmul_assoc, conj_cmul]
    unfold csub cadd cmul
    apply Cx.ext' <;> dsimp only <;> grind
end Go.Proofs.YtaookoejdnkkoaaGreatDoor.FF
