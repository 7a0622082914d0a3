import Derived.Test.YtaookoejdnkkoaaGreatDoorKFc
namespace Go.Proofs.YtaookoejdnkkoaaGreatDoor.FF
open Go Ieee

open Go Ieee

/-- A number that the format has is kept. -/
theorem nearest_exact (neg : Bool) (mag : Nat) (place : Int) (k : Nat) (j : Int) (hk : k < 2 ^ 53) (hj : -1074 ≤ j) (hj2 : j ≤ 900) (hv : ((mag : Nat) : Rat) * p2 place = ((k : Nat) : Rat) * p2 j) :
    fin (double.nearest neg mag place) ∧ fv (double.nearest neg mag place) = (if neg then -1 else 1) * (((k : Nat) : Rat) * p2 j) := by
  by_cases h0 : mag = 0
  · subst h0
    obtain ⟨m, e, hr, hval⟩ := read_rung neg 0 0 (by decide) (Or.inl rfl) (by decide)
    have e0 : min (0 * double.binade + 0) double.infRung = 0 := rfl
    rw [e0] at hr
    have en : double.nearest neg 0 place = double.word neg 0 := rfl
    rw [en]
    unfold fin fv
    rw [hr]
    refine ⟨trivial, ?_⟩
    rw [dval_num, Rat.mul_assoc, hval, ← hv]
    have z1 : (((0 : Nat)) : Rat) = 0 := rfl
    rw [z1]; grind
  -- the place of the highest digit
  have hk0 : k ≠ 0 := by
    intro hk0; subst hk0
    have z1 : (((0 : Nat)) : Rat) = 0 := rfl
    rw [z1, Rat.zero_mul] at hv
    rcases Rat.mul_eq_zero.1 hv with h | h
    · exact h0 (Rat.natCast_eq_zero_iff.1 h)
    · have := p2_pos place; grind
  have hlog : place + (mag.log2 : Int) = j + (k.log2 : Int) := by
    have m1 : ((2 ^ mag.log2 : Nat) : Rat) ≤ ((mag : Nat) : Rat) := Rat.natCast_le_natCast.2 (Nat.log2_self_le h0)
    have m2 : ((mag : Nat) : Rat) < ((2 ^ (mag.log2 + 1) : Nat) : Rat) := Rat.natCast_lt_natCast.2 Nat.lt_log2_self
    have k1 : ((2 ^ k.log2 : Nat) : Rat) ≤ ((k : Nat) : Rat) := Rat.natCast_le_natCast.2 (Nat.log2_self_le hk0)
    have k2 : ((k : Nat) : Rat) < ((2 ^ (k.log2 + 1) : Nat) : Rat) := Rat.natCast_lt_natCast.2 Nat.lt_log2_self
    rw [← p2_nat] at m1 m2 k1 k2
    have n1 := Rat.mul_le_mul_of_nonneg_right m1 (Rat.le_of_lt (p2_pos place))
    have n2 := Rat.mul_lt_mul_of_pos_right m2 (p2_pos place)
    have l1 := Rat.mul_le_mul_of_nonneg_right k1 (Rat.le_of_lt (p2_pos j))
    have l2 := Rat.mul_lt_mul_of_pos_right k2 (p2_pos j)
    rw [← p2_add] at n1 n2 l1 l2
    have q1 : p2 ((mag.log2 : Int) + place) < p2 (((k.log2 + 1 : Nat) : Int) + j) := by grind
    have q2 : p2 ((k.log2 : Int) + j) < p2 (((mag.log2 + 1 : Nat) : Int) + place) := by grind
    have := p2_lt_exp q1
    have := p2_lt_exp q2
    omega
  have hkl : k.log2 ≤ 52 := by
    have := Nat.log2_self_le hk0
    apply Decidable.byContradiction; intro hc
    have : 2 ^ 53 ≤ 2 ^ k.log2 := Nat.pow_le_pow_right (by decide) (by omega)
    omega
  unfold Format.nearest
  rw [if_neg h0]
  have hlp : double.leastPlace = -1074 := rfl
  have hfb : (double.fractionBits : Int) = 52 := rfl
  simp only [hlp, hfb]
  generalize hlast : max (place + (mag.log2 : Int) - 52) (-1074) = last
  have hl1 : -1074 ≤ last := by omega
  have hl2 : last ≤ j := by omega
  have hl3 : last = -1074 ∨ last = place + (mag.log2 : Int) - 52 := by omega
  generalize hcut : Toward.even.cut neg (mag <<< (place - last).toNat) (last - place).toNat = kept
  have hc := cut_err neg (mag <<< (place - last).toNat) (last - place).toNat
  rw [hcut, Nat.shiftLeft_eq] at hc
  -- in units of the last place it is whole
  obtain ⟨q, hq⟩ : ∃ q : Nat, q = k * 2 ^ (j - last).toNat := ⟨_, rfl⟩
  have hqv : ((q : Nat) : Rat) * p2 last = ((k : Nat) : Rat) * p2 j := by
    rw [hq, Rat.natCast_mul, ← p2_nat, Rat.mul_assoc, ← p2_add]
    congr 2; omega
  have hn : mag * 2 ^ (place - last).toNat = q * 2 ^ (last - place).toNat := by
    apply Rat.natCast_inj.1
    rw [Rat.natCast_mul, Rat.natCast_mul, ← p2_nat, ← p2_nat]
    have hu := p2_pos (last - (last - place).toNat)
    have e1 : p2 ((last - place).toNat : Int) * p2 (last - (last - place).toNat) = p2 last := by rw [← p2_add]; congr 1; omega
    have e2 : p2 ((place - last).toNat : Int) * p2 (last - (last - place).toNat) = p2 place := by rw [← p2_add]; congr 1; omega
    have h5 : ((mag : Nat) : Rat) * p2 ((place - last).toNat : Int) * p2 (last - (last - place).toNat) = ((q : Nat) : Rat) * p2 ((last - place).toNat : Int) * p2 (last - (last - place).toNat) := by
      rw [Rat.mul_assoc, Rat.mul_assoc, e1, e2, hv, hqv]
    have hne : p2 (last - (last - place).toNat) ≠ 0 := by grind
    generalize p2 (last - (last - place).toNat) = u at *
    have h6 : (((mag : Nat) : Rat) * p2 ((place - last).toNat : Int) - ((q : Nat) : Rat) * p2 ((last - place).toNat : Int)) * u = 0 := by grind
    rcases Rat.mul_eq_zero.1 h6 with h | h
    · grind
    · exact absurd h hne
  rw [hn] at hc
  have hkq : kept = q := by
    have hp : 0 < 2 ^ (last - place).toNat := Nat.two_pow_pos _
    generalize 2 ^ (last - place).toNat = g at *
    have c1 : (2 * kept) * g ≤ (2 * q + 1) * g := by rw [Nat.add_mul, Nat.mul_assoc, Nat.mul_assoc]; omega
    have c2 : (2 * q) * g ≤ (2 * kept + 1) * g := by rw [Nat.add_mul, Nat.mul_assoc, Nat.mul_assoc]; omega
    have := Nat.le_of_mul_le_mul_right c1 hp
    have := Nat.le_of_mul_le_mul_right c2 hp
    omega
  have hqlt : q ≤ 2 ^ 53 ∧ (last = -1074 ∨ 2 ^ 52 ≤ q) := by
    have hkl1 := Nat.log2_self_le hk0
    have hkl2 : k < 2 ^ (k.log2 + 1) := Nat.lt_log2_self
    rcases hl3 with h | h
    · refine ⟨?_, Or.inl h⟩
      have h7 : k * 2 ^ (j - last).toNat < 2 ^ (k.log2 + 1) * 2 ^ (j - last).toNat := Nat.mul_lt_mul_of_pos_right hkl2 (Nat.two_pow_pos _)
      rw [← Nat.pow_add] at h7
      have : 2 ^ (k.log2 + 1 + (j - last).toNat) ≤ 2 ^ 53 := Nat.pow_le_pow_right (by decide) (by omega)
      omega
    · have e9 : (j - last).toNat = 52 - k.log2 := by omega
      rw [e9] at hq
      constructor
      · have h7 : k * 2 ^ (52 - k.log2) < 2 ^ (k.log2 + 1) * 2 ^ (52 - k.log2) := Nat.mul_lt_mul_of_pos_right hkl2 (Nat.two_pow_pos _)
        rw [← Nat.pow_add, show k.log2 + 1 + (52 - k.log2) = 53 by omega] at h7
        omega
      · right
        have h7 : 2 ^ k.log2 * 2 ^ (52 - k.log2) ≤ k * 2 ^ (52 - k.log2) := Nat.mul_le_mul_right _ hkl1
        rw [← Nat.pow_add, show k.log2 + (52 - k.log2) = 52 by omega] at h7
        omega
  rw [hkq]
  obtain ⟨m, e, hr, hval⟩ := read_rung neg (last - -1074).toNat q hqlt.1 (by rcases hqlt.2 with h | h; exact Or.inl (by omega); exact Or.inr h) (by omega)
  rw [show (((last - -1074).toNat : Int) - 1074) = last by omega] at hval
  unfold fin fv
  rw [hr]
  refine ⟨trivial, ?_⟩
  rw [dval_num, Rat.mul_assoc, hval, hqv]

/-- The float of a whole number. -/
def fi (n : Nat) : Nat := double.nearest false n 0
theorem fi_val {n : Nat} (h : n < 2 ^ 53) : fin (fi n) ∧ fv (fi n) = ((n : Nat) : Rat) := by
  obtain ⟨h1, h2⟩ := nearest_exact false n 0 n 0 h (by decide) (by decide) rfl
  refine ⟨h1, ?_⟩
  show fv (double.nearest false n 0) = _
  rw [h2, p2_zero]; simp
theorem fi_of_int (n : Nat) : floatOfInt .f64 (n : Int) = fi n := by
  unfold fi floatOfInt
  show double.nearest (decide ((n : Int) < 0)) (n : Int).natAbs 0 = _
  rw [decide_eq_false (by omega)]
  rfl
/-- A sum that the format has is kept. -/
theorem add_exact {x y n : Nat} (hx : fin x) (hy : fin y) (hn : n < 2 ^ 53) (hz : fv x + fv y = ((n : Nat) : Rat)) : ∃ r, double.add x y = some r ∧ fin r ∧ fv r = ((n : Nat) : Rat) := by
  obtain ⟨s, m, i, ex⟩ := num_of_fin hx
  obtain ⟨t, m', j, ey⟩ := num_of_fin hy
  obtain ⟨d, h1, h2, u, k, l, rfl⟩ := sum_val s t m m' i j
  have h3 : dval (.number u k l) = ((n : Nat) : Rat) := by rw [h2, ← hz]; unfold fv; rw [ex, ey]
  refine ⟨double.write (.number u k l), ?_, ?_⟩
  · unfold Format.add; rw [ex, ey, h1]; rfl
  · rw [dval_num] at h3
    have hkl : (0 : Rat) ≤ ((k : Nat) : Rat) * p2 l := Rat.mul_nonneg Rat.natCast_nonneg (Rat.le_of_lt (p2_pos l))
    have hn0 : (0 : Rat) ≤ ((n : Nat) : Rat) := Rat.natCast_nonneg
    have e1 : ((k : Nat) : Rat) * p2 l = ((n : Nat) : Rat) * p2 0 := by
      rw [p2_zero]
      cases u
      · simp at h3; grind
      · simp at h3; grind
    obtain ⟨g1, g2⟩ := nearest_exact u k l n 0 hn (by decide) (by decide) e1
    refine ⟨g1, ?_⟩
    show fv (double.nearest u k l) = _
    rw [g2, ← e1, ← Rat.mul_assoc]; exact h3
theorem zero_val : fin 0 ∧ fv 0 = 0 := by
  have e : double.read 0 = .number false 0 (-1074) := rfl
  unfold fin fv; rw [e]
  refine ⟨trivial, ?_⟩
  rw [dval_num, show (((0 : Nat)) : Rat) = 0 from rfl]; grind
/-- Two digits, one in the real, one in the imaginary part. -/
theorem place_val {a b : Nat} (ha : a ≤ 65535) (hb : b ≤ 65535) :
    cSumBits .add .f64 (fi a) 0 0 (fi b) = some (fadd (fi a, 0) (0, fi b)) ∧ cfin (fadd (fi a, 0) (0, fi b)) ∧ cv (fadd (fi a, 0) (0, fi b)) = ⟨((a : Nat) : Rat), ((b : Nat) : Rat)⟩ := by
  obtain ⟨a1, a2⟩ := fi_val (show a < 2 ^ 53 by omega)
  obtain ⟨b1, b2⟩ := fi_val (show b < 2 ^ 53 by omega)
  obtain ⟨z1, z2⟩ := zero_val
  obtain ⟨r, r1, r2, r3⟩ := add_exact (n := a) a1 z1 (by omega) (by rw [a2, z2]; grind)
  obtain ⟨s, s1, s2, s3⟩ := add_exact (n := b) z1 b1 (by omega) (by rw [b2, z2]; grind)
  have he : cSumBits .add .f64 (fi a) 0 0 (fi b) = some (r, s) := by
    unfold cSumBits floatBits
    show (Ieee.double.add (fi a) 0).bind _ = _
    rw [r1]; show (Ieee.double.add 0 (fi b)).bind _ = _; rw [s1]; rfl
  have hf : fadd (fi a, 0) (0, fi b) = (r, s) := by unfold fadd; rw [he]; rfl
  rw [hf]
  exact ⟨he, ⟨r2, s2⟩, by unfold cv; rw [r3, s3]⟩
theorem place_half {a : Nat} (ha : a ≤ 65535) : cfin (fi a, 0) ∧ cv (fi a, 0) = ⟨((a : Nat) : Rat), ((0 : Nat) : Rat)⟩ := by
  obtain ⟨a1, a2⟩ := fi_val (show a < 2 ^ 53 by omega)
  obtain ⟨z1, z2⟩ := zero_val
  exact ⟨⟨a1, z1⟩, by unfold cv; rw [a2, z2]; rfl⟩
open Go Ieee

theorem read_lt {b : Nat} {s : Bool} {m : Nat} {e : Int} (h : double.read b = .number s m e) : m < 2 ^ 53 := by
  unfold Format.read at h
  have hb : double.binade = 4503599627370496 := rfl
  dsimp only at h
  split at h
  · rename_i g; cases h; rw [hb] at g; omega
  · split at h
    · cases h
      have := Nat.mod_lt (b % double.signWeight) (show 0 < double.binade by rw [hb]; decide)
      rw [hb] at this ⊢; omega
    · split at h <;> cases h
theorem read_pow {s : Nat} (h : s ≤ 11) : double.read (fi (2 ^ s)) = .number false (2 ^ 52) ((s : Int) - 52) := by
  have h : s = 0 ∨ s = 1 ∨ s = 2 ∨ s = 3 ∨ s = 4 ∨ s = 5 ∨ s = 6 ∨ s = 7 ∨ s = 8 ∨ s = 9 ∨ s = 10 ∨ s = 11 := by omega
  rcases h with h | h | h | h | h | h | h | h | h | h | h | h <;> subst h <;> decide +kernel
theorem scale_mul {s : Nat} (h : s ≤ 10) : double.mul (fi 2) (fi (2 ^ s)) = some (fi (2 ^ (s + 1))) := by
  have h : s = 0 ∨ s = 1 ∨ s = 2 ∨ s = 3 ∨ s = 4 ∨ s = 5 ∨ s = 6 ∨ s = 7 ∨ s = 8 ∨ s = 9 ∨ s = 10 := by omega
  rcases h with h | h | h | h | h | h | h | h | h | h | h <;> subst h <;> decide +kernel
/-- A quotient by a power of two. -/
theorem div_near {x s : Nat} (hx : fin x) (hs : s ≤ 11) (hz : (fv x * p2 (-(s : Int))) * (fv x * p2 (-(s : Int))) < p2 1998) : ∃ r, double.div x (fi (2 ^ s)) = some r ∧ fin r ∧ Near (fv r) (fv x * p2 (-(s : Int))) := by
  obtain ⟨sg, m, i, ex⟩ := num_of_fin hx
  have hm := read_lt ex
  have hlog : m.log2 ≤ 52 := by
    by_cases h0 : m = 0
    · subst h0; decide
    · have := Nat.log2_self_le h0
      apply Decidable.byContradiction; intro hc
      have : 2 ^ 53 ≤ 2 ^ m.log2 := Nat.pow_le_pow_right (by decide) (by omega)
      omega
  have hl52 : (2 ^ 52 : Nat).log2 = 52 := by decide +kernel
  obtain ⟨k, hk⟩ : ∃ k, 54 + 52 - m.log2 = k + 52 := ⟨54 - m.log2, by omega⟩
  have hdiv : (m <<< (k + 52)) / 2 ^ 52 = m * 2 ^ k := by
    rw [Nat.shiftLeft_eq, Nat.pow_add, ← Nat.mul_assoc, Nat.mul_div_cancel _ (Nat.two_pow_pos _)]
  have hmod : (m <<< (k + 52)) % 2 ^ 52 = 0 := by
    rw [Nat.shiftLeft_eq, Nat.pow_add, ← Nat.mul_assoc, Nat.mul_mod_left]
  have hq : Datum.quotient (double.fractionBits + 2) (.number sg m i) (.number false (2 ^ 52) ((s : Int) - 52)) = some (.number (sg ^^ false) (2 * (m * 2 ^ k)) (i - ((s : Int) - 52) - ((k + 52 : Nat) : Int) - 1)) := by
    have hfb : double.fractionBits = 52 := rfl
    unfold Datum.quotient
    rw [hfb]
    simp only
    rw [if_neg (by decide), hl52, show 52 + 2 + 52 - m.log2 = k + 52 by omega, hdiv, hmod]
    rfl
  have hv : dval (.number (sg ^^ false) (2 * (m * 2 ^ k)) (i - ((s : Int) - 52) - ((k + 52 : Nat) : Int) - 1)) = fv x * p2 (-(s : Int)) := by
    unfold fv
    rw [ex, dval_num, dval_num, Rat.natCast_mul, Rat.natCast_mul, ← p2_nat]
    have e1 : p2 i * p2 (-(s : Int)) = 2 * (p2 (k : Int) * p2 (i - ((s : Int) - 52) - ((k + 52 : Nat) : Int) - 1)) := by
      rw [← p2_add, ← p2_add, ← p2_succ]; congr 1; omega
    have e2 : (((2 : Nat)) : Rat) = 2 := rfl
    rw [e2, Bool.xor_false]
    grind
  have hw := write_near (sg ^^ false) (2 * (m * 2 ^ k)) (i - ((s : Int) - 52) - ((k + 52 : Nat) : Int) - 1) (by rw [hv]; exact hz)
  rw [hv] at hw
  refine ⟨_, ?_, hw⟩
  unfold Format.div
  rw [ex, read_pow hs, hq]; rfl

/-- Go's Round, on words. -/
def rnd (b : Nat) : Nat :=
  let e := b / 2 ^ 52 % 2048
  if e < 1022 then b / 2 ^ 63 * 2 ^ 63
  else if e = 1022 then b / 2 ^ 63 * 2 ^ 63 + 4607182418800017408
  else if e < 1075 then (b + 2 ^ (1074 - e)) - (b + 2 ^ (1074 - e)) % 2 ^ (1075 - e)
  else b

theorem read_parts {b : Nat} (hb : b < 2 ^ 64) (hf : fin b) : (b % 2 ^ 63 < 2 ^ 52 ∧ fv b = (if b / 2 ^ 63 = 1 then -1 else 1) * (((b % 2 ^ 63 : Nat) : Rat) * p2 (-1074))) ∨ (2 ^ 52 ≤ b % 2 ^ 63 ∧ fv b = (if b / 2 ^ 63 = 1 then -1 else 1) * (((2 ^ 52 + b % 2 ^ 52 : Nat) : Rat) * p2 (((b / 2 ^ 52 % 2048 : Nat) : Int) - 1075))) := by
  have hs : double.signWeight = 2 ^ 63 := rfl
  have hbi : double.binade = 2 ^ 52 := rfl
  have hir : double.infRung = 9218868437227405312 := rfl
  have hlp : double.leastPlace = -1074 := rfl
  unfold fin at hf
  unfold fv
  unfold Format.read at hf ⊢
  dsimp only at hf ⊢
  rw [hs, hbi, hir] at hf
  rw [hs, hbi, hir, hlp]
  have hsg : ((b / 2 ^ 63 % 2 == 1) = true) = (b / 2 ^ 63 = 1) := by
    have : b / 2 ^ 63 < 2 := by omega
    simp only [beq_iff_eq]
    exact propext ⟨fun h => by omega, fun h => by omega⟩
  by_cases h1 : b % 2 ^ 63 < 2 ^ 52
  · left
    refine ⟨h1, ?_⟩
    rw [if_pos h1, dval_num]
    simp only [hsg]
    rw [Rat.mul_assoc]
  · right
    refine ⟨by omega, ?_⟩
    rw [if_neg h1] at hf ⊢
    by_cases h2 : b % 2 ^ 63 < 9218868437227405312
    · rw [if_pos h2, dval_num]
      simp only [hsg]
      rw [Rat.mul_assoc]
      have e1 : b % 2 ^ 63 % 2 ^ 52 = b % 2 ^ 52 := by omega
      have e2 : (-1074 : Int) + ((b % 2 ^ 63 / 2 ^ 52 - 1 : Nat) : Int) = ((b / 2 ^ 52 % 2048 : Nat) : Int) - 1075 := by omega
      rw [e1, e2]
    · rw [if_neg h2] at hf
      split at hf <;> exact hf.elim

theorem rlt {a b c : Rat} (h1 : a ≤ b) (h2 : b < c) : a < c := by grind
theorem rn1 {c f x : Rat} (h1 : c - 1 / 4 ≤ f) (hc : 0 ≤ c) (hr : f = -1 * x) (hx : 1 / 2 ≤ x) : False := by grind
theorem rn2 {c f x : Rat} (h1 : c - 1 / 4 ≤ f) (h2 : f ≤ c + 1 / 4) (hr : f = 1 * x) (hx : 1 / 2 ≤ x) (hy : x < 1) : c < 2 ∧ 0 < c := by constructor <;> grind
theorem rn3 {c f x p y : Rat} (h2 : f ≤ c + 1 / 4) (hr : f = 1 * x) (hp : c ≤ p) (hy : p + 1 / 4 < y) (hx : y ≤ x) : False := by grind
theorem rn4 {f x s : Rat} (hs : s = -1 ∨ s = 1) (hr : f = s * x) (h0 : 0 ≤ x) (h1 : x < 1 / 2) : f < 1 / 2 := by rcases hs with rfl | rfl <;> grind
theorem rn5 {c f : Rat} (h1 : c - 1 / 4 ≤ f) (h : f < 1 / 2) (h2 : 1 ≤ c) : False := by grind
theorem rn6 {M x P c : Rat} (h1 : c - 1 / 4 ≤ 1 * (M * x)) (h2 : 1 * (M * x) ≤ c + 1 / 4) (hP : 0 ≤ P) (he : x * P = 1) : 4 * (c * P) ≤ 4 * M + P ∧ 4 * M ≤ 4 * (c * P) + P := by
  have q1 := Rat.mul_le_mul_of_nonneg_right h1 hP
  have q2 := Rat.mul_le_mul_of_nonneg_right h2 hP
  have e : 1 * (M * x) * P = M := by
    have : M * (x * P) = M := by rw [he]; grind
    grind
  rw [e] at q1 q2
  constructor <;> grind
theorem sgn_or (p : Prop) [Decidable p] : (if p then (-1 : Rat) else 1) = -1 ∨ (if p then (-1 : Rat) else 1) = 1 := by
  by_cases h : p
  · left; rw [if_pos h]
  · right; rw [if_neg h]
theorem kept_eq {b E M c Q P g : Nat} (hb : b = E * 2 ^ 52 + M) (hg : (2 : Nat) ^ 52 = g * P) (hP : P = 2 * Q) (hQ : 0 < Q) (i1 : 4 * (c * P) ≤ 4 * M + P) (i2 : 4 * M ≤ 4 * (c * P) + P) : (b + Q) - (b + Q) % P = E * 2 ^ 52 + c * P := by
  have hEg : E * 2 ^ 52 = P * (E * g) := by rw [hg, Nat.mul_comm P, Nat.mul_assoc]
  have hcP : c * P = P * c := Nat.mul_comm _ _
  rw [hEg] at hb ⊢
  rw [hcP] at i1 i2 ⊢
  have e5 : b + Q = (M + Q - P * c) + P * (E * g + c) := by rw [Nat.mul_add]; omega
  have hmod : (b + Q) % P = M + Q - P * c := by
    rw [e5, Nat.add_mul_mod_self_left, Nat.mod_eq_of_lt (by omega)]
  rw [hmod]; omega
theorem kept_le {M c P g : Nat} (hg : (2 : Nat) ^ 52 = g * P) (h1 : 2 ^ 52 ≤ M) (h2 : M < 2 ^ 53) (hP : 0 < P) (i1 : 4 * (c * P) ≤ 4 * M + P) (i2 : 4 * M ≤ 4 * (c * P) + P) : c * P ≤ 2 ^ 53 ∧ 2 ^ 52 ≤ c * P := by
  have e6 : (2 : Nat) ^ 53 = (2 * g) * P := by rw [Nat.mul_assoc, ← hg]
  constructor
  · rw [e6]
    apply Nat.mul_le_mul_right
    apply Decidable.byContradiction; intro hn
    have : (2 * g + 1) * P ≤ c * P := Nat.mul_le_mul_right _ (by omega)
    rw [Nat.add_mul, ← e6] at this
    omega
  · rw [hg]
    apply Nat.mul_le_mul_right
    apply Decidable.byContradiction; intro hn
    have : (c + 1) * P ≤ g * P := Nat.mul_le_mul_right _ (by omega)
    rw [Nat.add_mul, ← hg] at this
    omega
theorem min_rung {E k : Nat} (hE : E < 1074) (hk : k ≤ 2 ^ 53) : min (E * double.binade + k) double.infRung = E * 2 ^ 52 + k ∧ E * 2 ^ 52 + k < 2 ^ 64 := by
  have hbi : double.binade = 2 ^ 52 := rfl
  have hir : double.infRung = 9218868437227405312 := rfl
  rw [hbi, hir]
  constructor <;> omega
theorem word_false (r : Nat) : double.word false r = r := rfl
theorem rnd_near {b c : Nat} (hb : b < 2 ^ 64) (hf : fin b) (h1 : ((c : Nat) : Rat) - 1 / 4 ≤ fv b) (h2 : fv b ≤ ((c : Nat) : Rat) + 1 / 4) (hc : c < 2 ^ 50) : fin (rnd b) ∧ fv (rnd b) = ((c : Nat) : Rat) ∧ rnd b < 2 ^ 64 := by
  have hc0 : (0 : Rat) ≤ ((c : Nat) : Rat) := Rat.natCast_nonneg
  have hcr : ((c : Nat) : Rat) ≤ p2 50 := by
    have h := Rat.natCast_le_natCast.2 (Nat.le_of_lt hc)
    rwa [← p2_nat 50] at h
  have hzero : ∀ sg : Nat, sg < 2 → fin (sg * 2 ^ 63) ∧ fv (sg * 2 ^ 63) = 0 := by
    intro sg hsg
    have : sg = 0 ∨ sg = 1 := by omega
    rcases this with rfl | rfl
    · exact zero_val
    · have e : double.read (1 * 2 ^ 63) = .number true 0 (-1074) := by decide +kernel
      unfold fin fv; rw [e]
      refine ⟨trivial, ?_⟩
      rw [dval_num, show (((0 : Nat)) : Rat) = 0 from rfl]; grind
  have hsg2 : b / 2 ^ 63 < 2 := by omega
  -- a whole number that is within a half of 0 is 0
  have hc00 : fv b < 1 / 2 → c = 0 := fun h => by
    apply Decidable.byContradiction; intro h0
    have : ((1 : Nat) : Rat) ≤ ((c : Nat) : Rat) := Rat.natCast_le_natCast.2 (by omega)
    exact rn5 h1 h this
  unfold rnd
  dsimp only
  generalize he : b / 2 ^ 52 % 2048 = e
  have heq : b % 2 ^ 63 = e * 2 ^ 52 + b % 2 ^ 52 := by omega
  have hfr : b % 2 ^ 52 < 2 ^ 52 := Nat.mod_lt _ (Nat.two_pow_pos _)
  rcases read_parts hb hf with ⟨r1, r2⟩ | ⟨r1, r2⟩
  · -- below all normal numbers
    have e0 : e = 0 := by omega
    rw [if_pos (by omega)]
    have hlt : fv b < 1 / 2 := by
      have hm : ((b % 2 ^ 63 : Nat) : Rat) ≤ ((2 ^ 52 : Nat) : Rat) := Rat.natCast_le_natCast.2 (by omega)
      have m := Rat.mul_le_mul_of_nonneg_right hm (Rat.le_of_lt (p2_pos (-1074)))
      have c1 : ((2 ^ 52 : Nat) : Rat) * p2 (-1074) < 1 / 2 := by decide +kernel
      exact rn4 (sgn_or _) r2 (Rat.mul_nonneg Rat.natCast_nonneg (Rat.le_of_lt (p2_pos (-1074)))) (rlt m c1)
    have := hc00 hlt
    subst this
    obtain ⟨z1, z2⟩ := hzero _ hsg2
    exact ⟨z1, by rw [z2]; rfl, by omega⟩
  · rw [he] at r2
    have he1 : 1 ≤ e := by omega
    have hM1 : ((2 ^ 52 : Nat) : Rat) ≤ ((2 ^ 52 + b % 2 ^ 52 : Nat) : Rat) := Rat.natCast_le_natCast.2 (by omega)
    have hM2 : ((2 ^ 52 + b % 2 ^ 52 : Nat) : Rat) ≤ ((2 ^ 53 - 1 : Nat) : Rat) := Rat.natCast_le_natCast.2 (by omega)
    have hpp := p2_pos ((e : Int) - 1075)
    have m1 := Rat.mul_le_mul_of_nonneg_right hM1 (Rat.le_of_lt hpp)
    have m2 := Rat.mul_le_mul_of_nonneg_right hM2 (Rat.le_of_lt hpp)
    rw [← p2_nat, ← p2_add] at m1
    by_cases hA : e < 1022
    · rw [if_pos hA]
      have hle : p2 ((e : Int) - 1075) ≤ p2 (-54) := p2_le (by omega)
      have hlt : fv b < 1 / 2 := by
        have c1 : ((2 ^ 53 - 1 : Nat) : Rat) * p2 (-54) < 1 / 2 := by decide +kernel
        have m3 := Rat.mul_le_mul_of_nonneg_left hle (show (0 : Rat) ≤ ((2 ^ 53 - 1 : Nat) : Rat) from Rat.natCast_nonneg)
        exact rn4 (sgn_or _) r2 (Rat.mul_nonneg Rat.natCast_nonneg (Rat.le_of_lt hpp)) (rlt (Rat.le_trans m2 m3) c1)
      have := hc00 hlt
      subst this
      obtain ⟨z1, z2⟩ := hzero _ hsg2
      exact ⟨z1, by rw [z2]; rfl, by omega⟩
    · rw [if_neg hA]
      -- at least a half: so above 0
      have hge : p2 (-1) ≤ ((2 ^ 52 + b % 2 ^ 52 : Nat) : Rat) * p2 ((e : Int) - 1075) := by
        have : p2 (-1) ≤ p2 (((52 : Nat) : Int) + ((e : Int) - 1075)) := p2_le (by omega)
        exact Rat.le_trans this m1
      have ph : p2 (-1) = 1 / 2 := by decide +kernel
      have hsg : b / 2 ^ 63 = 0 := by
        apply Decidable.byContradiction; intro hn
        rw [if_pos (by omega)] at r2
        rw [ph] at hge
        exact rn1 h1 hc0 r2 hge
      rw [if_neg (by omega)] at r2
      by_cases hB : e = 1022
      · rw [if_pos hB, hsg]
        subst hB
        have hc1 : c = 1 := by
          have e1 : ((2 ^ 53 - 1 : Nat) : Rat) * p2 (((1022 : Nat) : Int) - 1075) < 1 := by decide +kernel
          rw [ph] at hge
          obtain ⟨n1, n2⟩ := rn2 h1 h2 r2 hge (rlt m2 e1)
          have n1 : ((c : Nat) : Rat) < ((2 : Nat) : Rat) := n1
          have n2 : ((0 : Nat) : Rat) < ((c : Nat) : Rat) := n2
          have := Rat.natCast_lt_natCast.1 n1
          have := Rat.natCast_lt_natCast.1 n2
          omega
        subst hc1
        have e : double.read (0 * 2 ^ 63 + 4607182418800017408) = .number false (2 ^ 52) (-52) := by decide +kernel
        unfold fin fv; rw [e]
        refine ⟨trivial, ?_, by decide⟩
        rw [dval_num]
        decide +kernel
      · rw [if_neg hB]
        have hC : e < 1075 := by
          apply Decidable.byContradiction; intro hn
          have : p2 52 ≤ p2 (((52 : Nat) : Int) + ((e : Int) - 1075)) := p2_le (by omega)
          have c1 : p2 50 + 1 / 4 < p2 52 := by decide +kernel
          exact rn3 h2 r2 hcr c1 (Rat.le_trans this m1)
        rw [if_pos hC]
        obtain ⟨d, hd⟩ : ∃ d, d + 1 = 1075 - e := ⟨1074 - e, by omega⟩
        rw [← hd, show 1074 - e = d by omega]
        have hd52 : d + 1 ≤ 52 := by omega
        obtain ⟨g, hg⟩ : ∃ g, (2 : Nat) ^ 52 = g * 2 ^ (d + 1) := ⟨2 ^ (52 - (d + 1)), by rw [← Nat.pow_add]; congr 1; omega⟩
        have hb2 : b = (e - 1) * 2 ^ 52 + (2 ^ 52 + b % 2 ^ 52) := by omega
        have he3 : (((e - 1 : Nat) : Int) - 1074) = (e : Int) - 1075 := by omega
        have he4 : e - 1 < 1074 := by omega
        have he5 : e - 1 + 2 < 2047 := by omega
        -- M / 2^(d+1) is within a quarter of c
        have ep : p2 ((e : Int) - 1075) * ((2 ^ (d + 1) : Nat) : Rat) = 1 := by
          rw [← p2_nat, ← p2_add, show (e : Int) - 1075 + ((d + 1 : Nat) : Int) = 0 by omega, p2_zero]
        have hP : (0 : Rat) ≤ ((2 ^ (d + 1) : Nat) : Rat) := Rat.natCast_nonneg
        rw [r2] at h1 h2
        obtain ⟨q1, q2⟩ := rn6 h1 h2 hP ep
        generalize hM : 2 ^ 52 + b % 2 ^ 52 = M at *
        have i1 : 4 * (c * 2 ^ (d + 1)) ≤ 4 * M + 2 ^ (d + 1) := by
          apply Rat.natCast_le_natCast.1
          rw [Rat.natCast_add, Rat.natCast_mul, Rat.natCast_mul, Rat.natCast_mul]
          exact q1
        have i2 : 4 * M ≤ 4 * (c * 2 ^ (d + 1)) + 2 ^ (d + 1) := by
          apply Rat.natCast_le_natCast.1
          rw [Rat.natCast_add, Rat.natCast_mul, Rat.natCast_mul, Rat.natCast_mul]
          exact q2
        have hkept := kept_eq hb2 hg (by rw [Nat.pow_succ, Nat.mul_comm]) (Nat.two_pow_pos d) i1 i2
        rw [hkept]
        obtain ⟨hk53, hk52⟩ := kept_le hg (by rw [← hM]; exact Nat.le_add_right _ _) (by rw [← hM]; omega) (Nat.two_pow_pos _) i1 i2
        obtain ⟨m, ee, hr, hv⟩ := read_rung false (e - 1) (c * 2 ^ (d + 1)) hk53 (Or.inr hk52) he5
        obtain ⟨hmin, hlt64⟩ := min_rung he4 hk53
        rw [hmin] at hr
        rw [word_false] at hr
        unfold fin fv
        rw [hr]
        refine ⟨trivial, ?_, hlt64⟩
        rw [dval_num, Rat.mul_assoc, hv]
        have e8 : ((2 ^ (d + 1) : Nat) : Rat) * p2 (((e - 1 : Nat) : Int) - 1074) = 1 := by rw [he3, Rat.mul_comm]; exact ep
        rw [Rat.natCast_mul, Rat.mul_assoc, e8]
        simp

/-- A whole float as a whole number. -/
theorem to_int {b c : Nat} (hf : fin b) (hv : fv b = ((c : Nat) : Rat)) (hc : c < 2 ^ 50) : floatToIntVal .f64 b .u64 = some (c : Int) := by
  obtain ⟨s, m, e, hr⟩ := num_of_fin hf
  have hlt := read_lt hr
  unfold fv at hv
  rw [hr, dval_num] at hv
  have hmag : ((m : Nat) : Rat) * p2 e = ((c : Nat) : Rat) ∧ (s = true → c = 0) := by
    have h0 : (0 : Rat) ≤ ((m : Nat) : Rat) * p2 e := Rat.mul_nonneg Rat.natCast_nonneg (Rat.le_of_lt (p2_pos e))
    have hc0 : (0 : Rat) ≤ ((c : Nat) : Rat) := Rat.natCast_nonneg
    cases s
    · simp at hv; exact ⟨hv, fun h => by cases h⟩
    · simp at hv
      have : ((c : Nat) : Rat) = 0 := by grind
      exact ⟨by grind, fun _ => Rat.natCast_eq_zero_iff.1 this⟩
  have hn : m <<< e.toNat = c * 2 ^ (-e).toNat := by
    rw [Nat.shiftLeft_eq]
    apply Rat.natCast_inj.1
    rw [Rat.natCast_mul, Rat.natCast_mul, ← p2_nat, ← p2_nat, ← hmag.1, Rat.mul_assoc, ← p2_add]
    congr 2; omega
  have hcut : Toward.zero.cut s (m <<< e.toNat) (-e).toNat = c := by
    unfold Toward.cut
    simp only [Nat.shiftLeft_eq, Nat.one_mul, Bool.toNat_false, Nat.add_zero]
    rw [Nat.shiftLeft_eq] at hn
    rw [hn]
    by_cases hd : (-e).toNat ≤ (c * 2 ^ (-e).toNat).log2 + 2
    · rw [Nat.min_eq_left hd, Nat.mul_div_cancel _ (Nat.two_pow_pos _)]
    · have hc0 : c = 0 := by
        apply Decidable.byContradiction; intro h0
        have h1 : 2 ^ (-e).toNat ≤ c * 2 ^ (-e).toNat := Nat.le_mul_of_pos_left _ (by omega)
        have h2 : c * 2 ^ (-e).toNat < 2 ^ ((c * 2 ^ (-e).toNat).log2 + 1) := Nat.lt_log2_self
        have h3 : 2 ^ ((c * 2 ^ (-e).toNat).log2 + 1) ≤ 2 ^ (-e).toNat := Nat.pow_le_pow_right (by decide) (by omega)
        omega
      subst hc0
      rw [Nat.zero_mul, Nat.zero_div]
  unfold floatToIntVal
  have hdec : FloatKind.decode .f64 b = .number s m e := hr
  rw [hdec]
  have hti : Datum.toInt .zero (.number s m e) = some (c : Int) := by
    unfold Datum.toInt Datum.integral
    simp only
    rw [hcut]
    unfold signed
    cases s
    · simp
    · have := hmag.2 rfl; subst this; simp
  rw [hti]
  have h1 : IntKind.min .u64 = 0 := rfl
  have h2 : IntKind.max .u64 = 18446744073709551615 := rfl
  simp only
  rw [h1, h2, if_pos (by omega)]

open Go Ieee

theorem qu1 {f z c N : Rat} (h1 : -(2 / 5 * N) ≤ f - 2 * N * c) (h2 : f - 2 * N * c ≤ 2 / 5 * N) (hN : 0 < N) (hz : z * (2 * N) = f) : c - 1 / 5 ≤ z ∧ z ≤ c + 1 / 5 := by
  constructor
  · apply Rat.not_lt.1; intro hc
    have := Rat.mul_pos (show 0 < c - 1 / 5 - z by grind) hN
    grind
  · apply Rat.not_lt.1; intro hc
    have := Rat.mul_pos (show 0 < z - (c + 1 / 5) by grind) hN
    grind
theorem qu2 {f z c P E H : Rat} (h1 : c - 1 / 5 ≤ z) (h2 : z ≤ c + 1 / 5) (hc0 : 0 ≤ c) (hc : c ≤ P) (hP : 1 ≤ P) (hE : 0 ≤ E) (hEP : E * (P * P) ≤ 1 / 100000) (hH : H ≤ 1 / 100000) (h : (f - z) * (f - z) ≤ E * (z * z) + H) : c - 1 / 4 ≤ f ∧ f ≤ c + 1 / 4 := by
  have hz := sq_le (a := z) (b := 2 * P) (by grind) (by grind)
  have m := Rat.mul_le_mul_of_nonneg_left hz hE
  have hs : (f - z) * (f - z) < (1 / 20) * (1 / 20) := by grind
  obtain ⟨a, b⟩ := abs_lt_of_sq (show (0 : Rat) < 1 / 20 by decide +kernel) hs
  constructor <;> grind
/-- What the way back leaves, over twice the number of places: within a quarter of the digit's sum. -/
theorem quot_ok {b s c : Nat} (hf : fin b) (hs : s ≤ 10) (hc : c < 2 ^ 43) (h1 : -(2 / 5 * ((2 ^ s : Nat) : Rat)) ≤ fv b - 2 * ((2 ^ s : Nat) : Rat) * ((c : Nat) : Rat)) (h2 : fv b - 2 * ((2 ^ s : Nat) : Rat) * ((c : Nat) : Rat) ≤ 2 / 5 * ((2 ^ s : Nat) : Rat)) :
    ∃ r, double.div b (fi (2 ^ (s + 1))) = some r ∧ fin r ∧ ((c : Nat) : Rat) - 1 / 4 ≤ fv r ∧ fv r ≤ ((c : Nat) : Rat) + 1 / 4 := by
  have hN : (0 : Rat) < ((2 ^ s : Nat) : Rat) := Rat.natCast_pos.2 (Nat.two_pow_pos s)
  have hz : fv b * p2 (-((s + 1 : Nat) : Int)) * (2 * ((2 ^ s : Nat) : Rat)) = fv b := by
    rw [Rat.mul_assoc, ← p2_nat, ← p2_succ, ← p2_add, show -((s + 1 : Nat) : Int) + ((s : Int) + 1) = 0 by omega, p2_zero, Rat.mul_one]
  obtain ⟨z1, z2⟩ := qu1 h1 h2 hN hz
  have hc0 : (0 : Rat) ≤ ((c : Nat) : Rat) := Rat.natCast_nonneg
  have hcr : ((c : Nat) : Rat) ≤ p2 43 := by
    have h := Rat.natCast_le_natCast.2 (Nat.le_of_lt hc)
    rwa [← p2_nat 43] at h
  have p43 : 1 ≤ p2 43 := by decide +kernel
  have hsq : (fv b * p2 (-((s + 1 : Nat) : Int))) * (fv b * p2 (-((s + 1 : Nat) : Int))) < p2 1998 := by
    have q := sq_le (a := fv b * p2 (-((s + 1 : Nat) : Int))) (b := 2 * p2 43) (by grind) (by grind)
    have k : (2 * p2 43) * (2 * p2 43) < p2 1998 := by decide +kernel
    exact rlt q k
  obtain ⟨r, r1, r2, r3⟩ := div_near (s := s + 1) hf (by omega) hsq
  refine ⟨r, r1, r2, ?_⟩
  exact qu2 z1 z2 hc0 hcr p43 (Rat.le_of_lt (p2_pos _)) (by decide +kernel) (by decide +kernel) r3
theorem rn7 {c f x s : Rat} (h1 : c - 1 / 4 ≤ f) (hc : 0 ≤ c) (hs : s = -1 ∨ s = 1) (hr : f = s * x) (hx : 1 ≤ x) : s = 1 := by
  rcases hs with rfl | rfl
  · grind
  · rfl
/-- Such a float may be rounded by Go's Round. -/
theorem round_pre {b c : Nat} (hb : b < 2 ^ 64) (hf : fin b) (h1 : ((c : Nat) : Rat) - 1 / 4 ≤ fv b) (h2 : fv b ≤ ((c : Nat) : Rat) + 1 / 4) (hc : c < 2 ^ 50) : b / 4503599627370496 % 2048 < 1023 ∨ (b < 2 ^ 63 ∧ b / 4503599627370496 % 2048 < 1075) := by
  have hc0 : (0 : Rat) ≤ ((c : Nat) : Rat) := Rat.natCast_nonneg
  have hcr : ((c : Nat) : Rat) ≤ p2 50 := by
    have h := Rat.natCast_le_natCast.2 (Nat.le_of_lt hc)
    rwa [← p2_nat 50] at h
  by_cases he : b / 4503599627370496 % 2048 < 1023
  · exact Or.inl he
  · right
    have e3 : (2 : Nat) ^ 52 = 4503599627370496 := rfl
    rcases read_parts hb hf with ⟨r1, r2⟩ | ⟨r1, r2⟩
    · exfalso; omega
    · have hM1 : ((2 ^ 52 : Nat) : Rat) ≤ ((2 ^ 52 + b % 2 ^ 52 : Nat) : Rat) := Rat.natCast_le_natCast.2 (by omega)
      rw [e3] at r2 hM1
      generalize hE : b / 4503599627370496 % 2048 = e at *
      have m1 := Rat.mul_le_mul_of_nonneg_right hM1 (Rat.le_of_lt (p2_pos ((e : Int) - 1075)))
      rw [← e3, ← p2_nat, ← p2_add, e3] at m1
      have one : p2 0 ≤ p2 (((52 : Nat) : Int) + ((e : Int) - 1075)) := p2_le (by omega)
      rw [p2_zero] at one
      have hs := rn7 h1 hc0 (sgn_or _) r2 (Rat.le_trans one m1)
      rw [hs] at r2
      constructor
      · apply Decidable.byContradiction; intro hn
        rw [if_pos (by omega)] at hs
        exact absurd hs (by decide +kernel)
      · apply Decidable.byContradiction; intro hn
        have k : p2 52 ≤ p2 (((52 : Nat) : Int) + ((e : Int) - 1075)) := p2_le (by omega)
        have c1 : p2 50 + 1 / 4 < p2 52 := by decide +kernel
        exact rn3 h2 r2 hcr c1 (Rat.le_trans k m1)
theorem div_lt64 {x y r : Nat} (h : double.div x y = some r) : r < 2 ^ 64 := Format.div_lt double h

theorem ns_congr {n : Nat} {f g : Nat → Nat} (h : ∀ i, i < n → f i = g i) : ns n f = ns n g := by
  induction n with
  | zero => rfl
  | succ n ih => simp only [ns]; rw [ih fun i hi => h i (by omega), h n (by omega)]
theorem ns_add (n : Nat) (f g : Nat → Nat) : ns n (fun i => f i + g i) = ns n f + ns n g := by
  induction n with
  | zero => rfl
  | succ n ih => simp only [ns]; rw [ih]; omega
theorem ns_mul (n c : Nat) (f : Nat → Nat) : ns n (fun i => c * f i) = c * ns n f := by
  induction n with
  | zero => rfl
  | succ n ih => simp only [ns]; rw [ih, Nat.mul_add]
theorem ns_zero (n : Nat) : ns n (fun _ => 0) = 0 := by
  induction n with
  | zero => rfl
  | succ n ih => simp only [ns]; rw [ih]
theorem ns_swap (n m : Nat) (F : Nat → Nat → Nat) : ns n (fun a => ns m (fun b => F a b)) = ns m (fun b => ns n (fun a => F a b)) := by
  induction n with
  | zero => simp only [ns]; exact (ns_zero m).symm
  | succ n ih => simp only [ns]; rw [ih, ← ns_add]
theorem ns_single (m i : Nat) (g : Nat → Nat) : ns m (fun j => if i = j then g j else 0) = if i < m then g i else 0 := by
  induction m with
  | zero => rfl
  | succ m ih =>
    simp only [ns]; rw [ih]
    by_cases h1 : i = m
    · subst h1; rw [if_neg (by omega), if_pos rfl, if_pos (by omega), Nat.zero_add]
    · rw [if_neg h1]
      by_cases h2 : i < m
      · rw [if_pos h2, if_pos (by omega), Nat.add_zero]
      · rw [if_neg h2, if_neg (by omega)]
theorem ns_le {n : Nat} {f : Nat → Nat} {C : Nat} (h : ∀ i, i < n → f i ≤ C) : ns n f ≤ n * C := by
  induction n with
  | zero => simp [ns]
  | succ n ih => simp only [ns]; rw [Nat.add_mul, Nat.one_mul]; have := ih fun i hi => h i (by omega); have := h n (by omega); omega
/-- A digit's sum is not great. -/
theorem cj_lt {n j : Nat} {a b : Nat → Nat} (hn : n ≤ 1024) (ha : ∀ i, a i ≤ 65535) (hb : ∀ i, b i ≤ 65535) : cj n a b j < 2 ^ 43 := by
  have h : cj n a b j ≤ n * 4294836225 := by
    unfold cj
    refine ns_le fun i _ => ?_
    have e : ns n (fun k => if i + k = j then a i * b k else 0) ≤ 65535 * 65535 := by
      by_cases hij : i ≤ j
      · have e1 : ns n (fun k => if i + k = j then a i * b k else 0) = ns n (fun k => if j - i = k then a i * b k else 0) := ns_congr fun k _ => by
          by_cases h : i + k = j
          · rw [if_pos h, if_pos (by omega)]
          · rw [if_neg h, if_neg (by omega)]
        rw [e1, ns_single]
        split
        · exact Nat.mul_le_mul (ha _) (hb _)
        · exact Nat.zero_le _
      · have e1 : ns n (fun k => if i + k = j then a i * b k else 0) = ns n (fun _ => 0) := ns_congr fun k _ => by rw [if_neg (by omega)]
        rw [e1, ns_zero]; exact Nat.zero_le _
    exact e
  have := Nat.mul_le_mul_right 4294836225 hn
  omega
/-- The digits' sums, each in its place, are the product. -/
theorem sums_mul {n m P : Nat} {a b : Nat → Nat} (h0 : ∀ i k, n ≤ i + k ∨ m ≤ i + k → a i * b k = 0) :
    ns m (fun j => P ^ j * (if j < n then cj n a b j else 0)) = ns n (fun i => P ^ i * a i) * ns n (fun k => P ^ k * b k) := by
  have e1 : ns m (fun j => P ^ j * (if j < n then cj n a b j else 0)) = ns m (fun j => ns n (fun i => ns n (fun k => if i + k = j then P ^ (i + k) * (a i * b k) else 0))) := by
    refine ns_congr fun j _ => ?_
    by_cases hj : j < n
    · rw [if_pos hj]
      unfold cj
      rw [← ns_mul]
      refine ns_congr fun i _ => ?_
      rw [← ns_mul]
      refine ns_congr fun k _ => ?_
      by_cases h : i + k = j
      · rw [if_pos h, if_pos h, h]
      · rw [if_neg h, if_neg h, Nat.mul_zero]
    · rw [if_neg hj, Nat.mul_zero]
      refine Eq.symm ((ns_congr fun i _ => (ns_congr fun k _ => ?_).trans (ns_zero n)).trans (ns_zero n))
      by_cases h : i + k = j
      · rw [if_pos h, h0 i k (Or.inl (by omega)), Nat.mul_zero]
      · rw [if_neg h]
  rw [e1, ns_swap]
  have e2 : ns n (fun i => P ^ i * a i) * ns n (fun k => P ^ k * b k) = ns n (fun i => ns n (fun k => P ^ (i + k) * (a i * b k))) := by
    rw [Nat.mul_comm, ← ns_mul]
    refine ns_congr fun i _ => ?_
    rw [Nat.mul_comm, ← ns_mul]
    refine ns_congr fun k _ => ?_
    rw [Nat.pow_add]
    rw [Nat.mul_mul_mul_comm]
  rw [e2]
  refine ns_congr fun i _ => ?_
  rw [ns_swap]
  refine ns_congr fun k _ => ?_
  rw [ns_single m (i + k) (fun _ => P ^ (i + k) * (a i * b k))]
  by_cases h : i + k < m
  · rw [if_pos h]
  · rw [if_neg h, h0 i k (Or.inr (by omega)), Nat.mul_zero]
/-- A number out of its digits. -/
theorem digits_sum (P v : Nat) (n : Nat) : ns n (fun i => P ^ i * (v / P ^ i % P)) = v % P ^ n := by
  induction n with
  | zero => simp [ns, Nat.mod_one]
  | succ n ih =>
    simp only [ns]
    rw [ih, Nat.pow_succ, Nat.mod_mul]
end Go.Proofs.YtaookoejdnkkoaaGreatDoor.FF
