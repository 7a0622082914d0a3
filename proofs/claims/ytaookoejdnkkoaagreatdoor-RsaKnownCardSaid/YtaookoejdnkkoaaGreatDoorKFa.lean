import Derived.Laws.ComplexArith
namespace Go.Proofs.YtaookoejdnkkoaaGreatDoor.FF
open Go Ieee

/-- A power of two. -/
def p2 (e : Int) : Rat := (2 : Rat) ^ e
theorem p2_pos (e : Int) : 0 < p2 e := Rat.zpow_pos (by decide)
theorem p2_add (a b : Int) : p2 (a + b) = p2 a * p2 b := Rat.zpow_add (by decide) a b
theorem p2_nat (n : Nat) : p2 n = ((2 ^ n : Nat) : Rat) := by
  unfold p2; rw [Rat.zpow_natCast, Rat.natCast_pow]; rfl
theorem p2_zero : p2 0 = 1 := Rat.zpow_zero 2
theorem p2_le {a b : Int} (h : a ≤ b) : p2 a ≤ p2 b := by
  obtain ⟨n, hn⟩ := Int.eq_ofNat_of_zero_le (show 0 ≤ b - a by omega)
  have hb : b = a + n := by omega
  rw [hb, p2_add, p2_nat]
  have h1 : (1 : Rat) ≤ ((2 ^ n : Nat) : Rat) := by
    rw [show (1 : Rat) = ((1 : Nat) : Rat) from rfl, Rat.natCast_le_natCast]; exact Nat.two_pow_pos n
  have := Rat.mul_le_mul_of_nonneg_left h1 (Rat.le_of_lt (p2_pos a))
  grind

/-- What a datum stands for, where it is a number. -/
def dval : Datum → Rat
  | .number s m e => (if s then -1 else 1) * ((m : Nat) : Rat) * p2 e
  | _ => 0
theorem dval_num (s : Bool) (m : Nat) (e : Int) : dval (.number s m e) = (if s then -1 else 1) * ((m : Nat) : Rat) * p2 e := rfl
def isNum : Datum → Prop
  | .number .. => True
  | _ => False
/-- What a word stands for. -/
def fv (b : Nat) : Rat := dval (double.read b)
/-- It is a number. -/
def fin (b : Nat) : Prop := isNum (double.read b)

theorem cut_err (neg : Bool) (n drop : Nat) : 2 * (Toward.even.cut neg n drop * 2 ^ drop) ≤ 2 * n + 2 ^ drop ∧ 2 * n ≤ 2 * (Toward.even.cut neg n drop * 2 ^ drop) + 2 ^ drop := by
  unfold Toward.cut
  simp only [Nat.shiftLeft_eq, Nat.one_mul]
  by_cases hd : drop ≤ n.log2 + 2
  · rw [Nat.min_eq_left hd]
    have hg : 0 < 2 ^ drop := Nat.two_pow_pos _
    generalize 2 ^ drop = g at *
    have h1 := Nat.div_add_mod n g
    have h2 := Nat.mod_lt n hg
    generalize n / g = q at *
    generalize n % g = r at *
    by_cases hm : (decide (g < 2 * r) || (g == 2 * r && q % 2 == 1)) = true
    · rw [hm]
      have h3 : g ≤ 2 * r := by
        simp only [Bool.or_eq_true, decide_eq_true_eq, Bool.and_eq_true, beq_iff_eq] at hm
        omega
      simp only [Bool.toNat_true]
      rw [Nat.add_mul, Nat.one_mul, Nat.mul_comm q g]
      omega
    · rw [Bool.not_eq_true] at hm
      rw [hm]
      have h3 : 2 * r ≤ g := by
        simp only [Bool.or_eq_false_iff, decide_eq_false_iff_not] at hm
        omega
      simp only [Bool.toNat_false, Nat.add_zero]
      rw [Nat.mul_comm q g]
      omega
  · rw [Nat.min_eq_right (by omega)]
    have hlog : n < 2 ^ (n.log2 + 1) := Nat.lt_log2_self
    have hg : 2 ^ (n.log2 + 2) = 2 * 2 ^ (n.log2 + 1) := by rw [Nat.pow_succ]; omega
    have hlt : n < 2 ^ (n.log2 + 2) := by omega
    rw [Nat.div_eq_of_lt hlt, Nat.mod_eq_of_lt hlt]
    have hmore : (decide (2 ^ (n.log2 + 2) < 2 * n) || (2 ^ (n.log2 + 2) == 2 * n && 0 % 2 == 1)) = false := by
      simp only [Bool.or_eq_false_iff, decide_eq_false_iff_not]
      constructor
      · omega
      · simp
    rw [hmore]
    have : 2 ^ (n.log2 + 2) ≤ 2 ^ drop := Nat.pow_le_pow_right (by decide) (by omega)
    simp only [Bool.toNat_false]
    omega

theorem p2_succ (e : Int) : p2 (e + 1) = 2 * p2 e := by
  rw [p2_add, show p2 1 = 2 from Rat.zpow_one 2, Rat.mul_comm]

/-- The word of the rung that a cut gives stands for the cut. -/
theorem read_rung (neg : Bool) (L kept : Nat) (hk : kept ≤ 2 ^ 53) (hl : L = 0 ∨ 2 ^ 52 ≤ kept) (hL : L + 2 < 2047) :
    ∃ m e, double.read (double.word neg (min (L * double.binade + kept) double.infRung)) = .number neg m e ∧ ((m : Nat) : Rat) * p2 e = ((kept : Nat) : Rat) * p2 (L - 1074) := by
  have hb : double.binade = 4503599627370496 := rfl
  have hi : double.infRung = 9218868437227405312 := rfl
  have hs : double.signWeight = 9223372036854775808 := rfl
  have hlp : double.leastPlace = -1074 := rfl
  have hr : L * double.binade + kept < double.infRung := by rw [hb, hi]; omega
  rw [Nat.min_eq_left (Nat.le_of_lt hr)]
  generalize hR : L * double.binade + kept = r at *
  have h1 : (double.word neg r) / double.signWeight % 2 = if neg then 1 else 0 := by
    unfold Format.word; rw [hs]; rw [hi] at hr
    cases neg
    · simp only [Bool.false_eq_true, if_false]; omega
    · simp only [if_true]; omega
  have h2 : (double.word neg r) % double.signWeight = r := by
    unfold Format.word; rw [hs]; rw [hi] at hr
    cases neg
    · simp only [Bool.false_eq_true, if_false]; omega
    · simp only [if_true]; omega
  unfold Format.read
  simp only [h1, h2]
  have hn : ((if neg = true then 1 else 0 : Nat) == 1) = neg := by cases neg <;> rfl
  rw [hn, hlp]
  by_cases ha : r < double.binade
  · rw [if_pos ha]
    refine ⟨r, -1074, rfl, ?_⟩
    have h0 : L = 0 := by rw [hb] at ha hR; omega
    subst h0
    have : r = kept := by rw [hb] at hR; omega
    subst this
    rfl
  · rw [if_neg ha, if_pos hr]
    refine ⟨_, _, rfl, ?_⟩
    rw [hb] at *
    by_cases hk2 : kept = 2 ^ 53
    · have e1 : r / 4503599627370496 = L + 2 := by omega
      have e2 : r % 4503599627370496 = 0 := by omega
      rw [e1, e2, hk2]
      have e3 : (-1074 : Int) + ((L + 2 - 1 : Nat) : Int) = (L - 1074) + 1 := by omega
      rw [e3, p2_succ]
      have e4 : (((4503599627370496 + 0 : Nat)) : Rat) * 2 = ((2 ^ 53 : Nat) : Rat) := by decide +kernel
      rw [← e4]
      grind
    · have e1 : r / 4503599627370496 = L + 1 := by omega
      have e2 : 4503599627370496 + r % 4503599627370496 = kept := by omega
      rw [e1, e2]
      have e3 : (-1074 : Int) + ((L + 1 - 1 : Nat) : Int) = (L - 1074) := by omega
      rw [e3]

/-- What is lost by rounding: at most one part in 2^53, or half of the least step. -/
theorem nearest_err (neg : Bool) (mag : Nat) (place : Int) (hbig : mag ≠ 0 → place + mag.log2 < 1000) :
    ∃ m e, double.read (double.nearest neg mag place) = .number neg m e ∧
      2 * (((m : Nat) : Rat) * p2 e) ≤ 2 * (((mag : Nat) : Rat) * p2 place) + (p2 (-52) * (((mag : Nat) : Rat) * p2 place) + p2 (-1074)) ∧
      2 * (((mag : Nat) : Rat) * p2 place) ≤ 2 * (((m : Nat) : Rat) * p2 e) + (p2 (-52) * (((mag : Nat) : Rat) * p2 place) + p2 (-1074)) := by
  have hP := p2_pos (-1074)
  unfold Format.nearest
  by_cases h0 : mag = 0
  · rw [if_pos h0]
    subst h0
    obtain ⟨m, e, hr, hv⟩ := read_rung neg 0 0 (by decide) (Or.inl rfl) (by decide)
    have : min (0 * double.binade + 0) double.infRung = 0 := by rfl
    rw [this] at hr
    refine ⟨m, e, hr, ?_⟩
    rw [hv]
    have : (((0 : Nat)) : Rat) = 0 := rfl
    rw [this]
    constructor <;> grind
  · rw [if_neg h0]
    have hbig := hbig h0
    have hlp : double.leastPlace = -1074 := rfl
    have hfb : (double.fractionBits : Int) = 52 := rfl
    simp only [hlp, hfb]
    generalize hlast : max (place + (mag.log2 : Int) - 52) (-1074) = last
    have hl1 : -1074 ≤ last := by omega
    have hl2 : place + (mag.log2 : Int) - 52 ≤ last := by omega
    have hl3 : last = -1074 ∨ last = place + (mag.log2 : Int) - 52 := by omega
    -- the number, in units of the last place
    generalize hk : Toward.even.cut neg (mag <<< (place - last).toNat) (last - place).toNat = kept
    have hc := cut_err neg (mag <<< (place - last).toNat) (last - place).toNat
    rw [hk, Nat.shiftLeft_eq] at hc
    have hlog1 : 2 ^ mag.log2 ≤ mag := Nat.log2_self_le h0
    have hlog2 : mag < 2 ^ (mag.log2 + 1) := Nat.lt_log2_self
    -- bounds on the cut
    have hkept : kept ≤ 2 ^ 53 ∧ (last = -1074 ∨ 2 ^ 52 ≤ kept) := by
      by_cases hpl : last ≤ place
      · have e1 : (last - place).toNat = 0 := by omega
        rw [e1] at hc
        have hkk : kept = mag * 2 ^ (place - last).toNat := by
          rw [Nat.pow_zero] at hc; omega
        have hb : mag.log2 + (place - last).toNat ≤ 52 := by omega
        constructor
        · have h3 : mag * 2 ^ (place - last).toNat < 2 ^ (mag.log2 + 1) * 2 ^ (place - last).toNat := Nat.mul_lt_mul_of_pos_right hlog2 (Nat.two_pow_pos _)
          rw [← Nat.pow_add] at h3
          have h4 : 2 ^ (mag.log2 + 1 + (place - last).toNat) ≤ 2 ^ 53 := Nat.pow_le_pow_right (by decide) (by omega)
          omega
        · rcases hl3 with h | h
          · exact Or.inl h
          · right
            have h3 : 2 ^ mag.log2 * 2 ^ (place - last).toNat ≤ mag * 2 ^ (place - last).toNat := Nat.mul_le_mul_right _ hlog1
            rw [← Nat.pow_add, show mag.log2 + (place - last).toNat = 52 by omega] at h3
            omega
      · have e1 : (place - last).toNat = 0 := by omega
        rw [e1, Nat.pow_zero, Nat.mul_one] at hc
        generalize hd : (last - place).toNat = d at *
        have hdp : 0 < 2 ^ d := Nat.two_pow_pos _
        have hb : mag.log2 ≤ 52 + d := by omega
        constructor
        · have h4 : 2 ^ (mag.log2 + 1) ≤ 2 ^ 53 * 2 ^ d := by rw [← Nat.pow_add]; exact Nat.pow_le_pow_right (by decide) (by omega)
          apply Decidable.byContradiction
          intro hgt
          have h5 : (2 ^ 53 + 1) * 2 ^ d ≤ kept * 2 ^ d := Nat.mul_le_mul_right _ (by omega)
          rw [Nat.add_mul, Nat.one_mul] at h5
          omega
        · rcases hl3 with h | h
          · exact Or.inl h
          · right
            have hb2 : mag.log2 = 52 + d := by omega
            rw [hb2, Nat.pow_add] at hlog1
            apply Decidable.byContradiction
            intro hgt
            have h5 : (kept + 1) * 2 ^ d ≤ 2 ^ 52 * 2 ^ d := Nat.mul_le_mul_right _ (by omega)
            rw [Nat.add_mul, Nat.one_mul] at h5
            omega
    obtain ⟨m, e, hr, hv⟩ := read_rung neg (last - -1074).toNat kept hkept.1 (by rcases hkept.2 with h | h; exact Or.inl (by omega); exact Or.inr h) (by omega)
    refine ⟨m, e, hr, ?_⟩
    rw [hv, show (((last - -1074).toNat : Int) - 1074) = last by omega]
    -- the exact number in units of the last place
    have hz : 2 * (((kept : Nat) : Rat) * p2 last) ≤ 2 * (((mag : Nat) : Rat) * p2 place) + p2 last ∧ 2 * (((mag : Nat) : Rat) * p2 place) ≤ 2 * (((kept : Nat) : Rat) * p2 last) + p2 last := by
      have hcr1 : ((2 * (kept * 2 ^ (last - place).toNat) : Nat) : Rat) ≤ ((2 * (mag * 2 ^ (place - last).toNat) + 2 ^ (last - place).toNat : Nat) : Rat) := Rat.natCast_le_natCast.2 hc.1
      have hcr2 : ((2 * (mag * 2 ^ (place - last).toNat) : Nat) : Rat) ≤ ((2 * (kept * 2 ^ (last - place).toNat) + 2 ^ (last - place).toNat : Nat) : Rat) := Rat.natCast_le_natCast.2 hc.2
      simp only [Rat.natCast_mul, Rat.natCast_add, ← p2_nat] at hcr1 hcr2
      -- multiply by the unit
      have hu := p2_pos (last - (last - place).toNat)
      have m1 := Rat.mul_le_mul_of_nonneg_right hcr1 (Rat.le_of_lt hu)
      have m2 := Rat.mul_le_mul_of_nonneg_right hcr2 (Rat.le_of_lt hu)
      have q1 : p2 ((last - place).toNat : Int) * p2 (last - (last - place).toNat) = p2 last := by
        rw [← p2_add]; congr 1; omega
      have q2 : p2 ((place - last).toNat : Int) * p2 (last - (last - place).toNat) = p2 place := by
        rw [← p2_add]; congr 1; omega
      have q3 : (((2 : Nat)) : Rat) = 2 := rfl
      rw [q3] at m1 m2
      generalize p2 ((last - place).toNat : Int) = A at *
      generalize p2 ((place - last).toNat : Int) = B at *
      generalize p2 (last - (last - place).toNat) = U at *
      rw [← q1, ← q2]
      constructor <;> grind
    have hunit : p2 last ≤ p2 (-52) * (((mag : Nat) : Rat) * p2 place) + p2 (-1074) := by
      have hm : (0 : Rat) ≤ ((mag : Nat) : Rat) := Rat.natCast_nonneg
      have h52 := p2_pos (-52)
      have hpp := p2_pos place
      have hnn : 0 ≤ p2 (-52) * (((mag : Nat) : Rat) * p2 place) := Rat.mul_nonneg (Rat.le_of_lt h52) (Rat.mul_nonneg hm (Rat.le_of_lt hpp))
      rcases hl3 with h | h
      · rw [h]; grind
      · have h5 : ((2 ^ mag.log2 : Nat) : Rat) ≤ ((mag : Nat) : Rat) := Rat.natCast_le_natCast.2 hlog1
        rw [← p2_nat] at h5
        have h6 := Rat.mul_le_mul_of_nonneg_right h5 (Rat.le_of_lt hpp)
        have h7 := Rat.mul_le_mul_of_nonneg_left h6 (Rat.le_of_lt h52)
        rw [← p2_add, ← p2_add] at h7
        rw [h, show place + (mag.log2 : Int) - 52 = -52 + ((mag.log2 : Int) + place) by omega]
        grind
    constructor
    · have := hz.1; grind
    · have := hz.2; grind

theorem sq_nonneg (a : Rat) : 0 ≤ a * a := by
  rcases Rat.nonneg_total a with h | h
  · exact Rat.mul_nonneg h h
  · have := Rat.mul_nonneg h h; grind
theorem sq_le {a b : Rat} (h1 : -b ≤ a) (h2 : a ≤ b) : a * a ≤ b * b := by
  have h3 : 0 ≤ b - a := by grind
  have h4 : 0 ≤ b + a := by grind
  have := Rat.mul_nonneg h3 h4; grind
theorem abs_lt_of_sq {a b : Rat} (hb : 0 < b) (h : a * a < b * b) : -b < a ∧ a < b := by
  constructor
  · apply Rat.not_le.1; intro hc
    have := Rat.mul_nonneg (show 0 ≤ -b - a by grind) (show 0 ≤ b - a by grind)
    grind
  · apply Rat.not_le.1; intro hc
    have := Rat.mul_nonneg (show 0 ≤ a - b by grind) (show 0 ≤ a + b by grind)
    grind

/-- f is z, rounded. -/
def Near (f z : Rat) : Prop := (f - z) * (f - z) ≤ p2 (-105) * (z * z) + p2 (-2149)

theorem p2_lt_exp {a b : Int} (h : p2 a < p2 b) : a < b := by
  apply Decidable.byContradiction; intro hc
  exact absurd (p2_le (show b ≤ a by omega)) (by grind)

theorem write_near (neg : Bool) (mag : Nat) (place : Int) (hz : (dval (.number neg mag place)) * (dval (.number neg mag place)) < p2 1998) :
    fin (double.write (.number neg mag place)) ∧ Near (fv (double.write (.number neg mag place))) (dval (.number neg mag place)) := by
  have hm : (0 : Rat) ≤ ((mag : Nat) : Rat) := Rat.natCast_nonneg
  have hpp := p2_pos place
  have ha : 0 ≤ ((mag : Nat) : Rat) * p2 place := Rat.mul_nonneg hm (Rat.le_of_lt hpp)
  have hsq : (dval (.number neg mag place)) * (dval (.number neg mag place)) = (((mag : Nat) : Rat) * p2 place) * (((mag : Nat) : Rat) * p2 place) := by
    unfold dval; cases neg <;> simp <;> grind
  have hbig : mag ≠ 0 → place + mag.log2 < 1000 := by
    intro h0
    rw [hsq, show (1998 : Int) = 999 + 999 from rfl, p2_add] at hz
    have h1 := (abs_lt_of_sq (p2_pos 999) hz).2
    have h5 : ((2 ^ mag.log2 : Nat) : Rat) ≤ ((mag : Nat) : Rat) := Rat.natCast_le_natCast.2 (Nat.log2_self_le h0)
    rw [← p2_nat] at h5
    have h6 := Rat.mul_le_mul_of_nonneg_right h5 (Rat.le_of_lt hpp)
    rw [← p2_add] at h6
    have : p2 ((mag.log2 : Int) + place) < p2 999 := by grind
    have := p2_lt_exp this
    omega
  obtain ⟨m, e, hr, h1, h2⟩ := nearest_err neg mag place hbig
  have hw : double.write (.number neg mag place) = double.nearest neg mag place := rfl
  rw [hw]
  refine ⟨?_, ?_⟩
  · unfold fin; rw [hr]; trivial
  unfold Near
  have hfv : fv (double.nearest neg mag place) = (if neg then -1 else 1) * ((m : Nat) : Rat) * p2 e := by unfold fv; rw [hr]; rfl
  rw [hsq]
  have hdd : (fv (double.nearest neg mag place) - dval (.number neg mag place)) * (fv (double.nearest neg mag place) - dval (.number neg mag place)) = (((m : Nat) : Rat) * p2 e - ((mag : Nat) : Rat) * p2 place) * (((m : Nat) : Rat) * p2 e - ((mag : Nat) : Rat) * p2 place) := by
    rw [hfv]; unfold dval; cases neg <;> simp <;> grind
  rw [hdd]
  generalize ((m : Nat) : Rat) * p2 e = f at *
  generalize ((mag : Nat) : Rat) * p2 place = a at *
  have e1 : p2 (-105) * 8 = 4 * (p2 (-52) * p2 (-52)) := by
    rw [← p2_add, show (8 : Rat) = p2 3 from by decide +kernel, ← p2_add, show (4 : Rat) = p2 2 from by decide +kernel, ← p2_add]
    congr 1
  have e2 : p2 (-2149) * 8 = 4 * (p2 (-1074) * p2 (-1074)) := by
    rw [← p2_add, show (8 : Rat) = p2 3 from by decide +kernel, ← p2_add, show (4 : Rat) = p2 2 from by decide +kernel, ← p2_add]
    congr 1
  have h3 := sq_le (a := 2 * (f - a)) (b := p2 (-52) * a + p2 (-1074)) (by grind) (by grind)
  have h4 := sq_nonneg (p2 (-52) * a - p2 (-1074))
  generalize p2 (-52) = ep at *
  generalize p2 (-1074) = et at *
  generalize p2 (-105) = E at *
  generalize p2 (-2149) = H at *
  have e1' : E = (ep * ep) / 2 := by grind
  have e2' : H = (et * et) / 2 := by grind
  rw [e1', e2']
  grind

theorem num_of_fin {x : Nat} (h : fin x) : ∃ s m e, double.read x = .number s m e := by
  unfold fin at h
  cases hd : double.read x with
  | number s m e => exact ⟨s, m, e, rfl⟩
  | infinity s => rw [hd] at h; exact h.elim
  | nan s f => rw [hd] at h; exact h.elim

theorem signed_val (s : Bool) (m up : Nat) : ((signed s m up : Int) : Rat) = (if s then -1 else 1) * ((m : Nat) : Rat) * p2 up := by
  unfold signed
  rw [Nat.shiftLeft_eq, p2_nat]
  cases s
  · simp [Rat.intCast_natCast]
  · simp [Rat.intCast_neg, Rat.intCast_natCast]; grind

theorem sum_val (s t : Bool) (m n : Nat) (i j : Int) : ∃ d, Datum.sum (.number s m i) (.number t n j) = some d ∧ dval d = dval (.number s m i) + dval (.number t n j) ∧ ∃ u k l, d = .number u k l := by
  refine ⟨_, rfl, ?_, _, _, _, rfl⟩
  generalize hT : signed s m (i - min i j).toNat + signed t n (j - min i j).toNat = T
  have hv : ((T : Int) : Rat) * p2 (min i j) = dval (.number s m i) + dval (.number t n j) := by
    rw [← hT, Rat.intCast_add, signed_val, signed_val, dval_num, dval_num]
    have q1 : p2 ((i - min i j).toNat : Int) * p2 (min i j) = p2 i := by rw [← p2_add]; congr 1; omega
    have q2 : p2 ((j - min i j).toNat : Int) * p2 (min i j) = p2 j := by rw [← p2_add]; congr 1; omega
    rw [← q1, ← q2]
    grind
  rw [← hv, dval_num]
  by_cases h0 : T = 0
  · subst h0; simp
  · rw [if_neg h0]
    by_cases hn : T < 0
    · have : (T.natAbs : Int) = -T := by omega
      have h2 : ((T.natAbs : Nat) : Rat) = -((T : Int) : Rat) := by rw [← Rat.intCast_natCast, this, Rat.intCast_neg]
      simp [hn, h2]; grind
    · have : (T.natAbs : Int) = T := by omega
      have h2 : ((T.natAbs : Nat) : Rat) = ((T : Int) : Rat) := by rw [← Rat.intCast_natCast, this]
      simp [hn, h2]

theorem opp_val (d : Datum) : dval d.opposite = - dval d := by
  cases d with
  | number s m e => unfold dval Datum.opposite; cases s <;> simp <;> grind
  | infinity s => simp [dval, Datum.opposite]
  | nan s f => simp [dval, Datum.opposite]

theorem add_near {x y : Nat} (hx : fin x) (hy : fin y) (hz : (fv x + fv y) * (fv x + fv y) < p2 1998) : ∃ r, double.add x y = some r ∧ fin r ∧ Near (fv r) (fv x + fv y) := by
  obtain ⟨s, m, i, ex⟩ := num_of_fin hx
  obtain ⟨t, n, j, ey⟩ := num_of_fin hy
  obtain ⟨d, h1, h2, u, k, l, rfl⟩ := sum_val s t m n i j
  have h3 : dval (.number u k l) = fv x + fv y := by rw [h2]; unfold fv; rw [ex, ey]
  refine ⟨double.write (.number u k l), ?_, ?_⟩
  · unfold Format.add; rw [ex, ey, h1]; rfl
  · have := write_near u k l (by rw [h3]; exact hz)
    rw [h3] at this; exact this

theorem sub_near {x y : Nat} (hx : fin x) (hy : fin y) (hz : (fv x - fv y) * (fv x - fv y) < p2 1998) : ∃ r, double.sub x y = some r ∧ fin r ∧ Near (fv r) (fv x - fv y) := by
  obtain ⟨s, m, i, ex⟩ := num_of_fin hx
  obtain ⟨t, n, j, ey⟩ := num_of_fin hy
  obtain ⟨d, h1, h2, u, k, l, rfl⟩ := sum_val s (!t) m n i j
  have h3 : dval (.number u k l) = fv x - fv y := by
    rw [h2]; unfold fv; rw [ex, ey]
    have := opp_val (.number t n j)
    rw [show Datum.opposite (.number t n j) = .number (!t) n j from rfl] at this
    rw [this]; grind
  refine ⟨double.write (.number u k l), ?_, ?_⟩
  · unfold Format.sub; rw [ex, ey]
    rw [show Datum.opposite (.number t n j) = .number (!t) n j from rfl, h1]; rfl
  · have := write_near u k l (by rw [h3]; exact hz)
    rw [h3] at this; exact this

theorem mul_near {x y : Nat} (hx : fin x) (hy : fin y) (hz : (fv x * fv y) * (fv x * fv y) < p2 1998) : ∃ r, double.mul x y = some r ∧ fin r ∧ Near (fv r) (fv x * fv y) := by
  obtain ⟨s, m, i, ex⟩ := num_of_fin hx
  obtain ⟨t, n, j, ey⟩ := num_of_fin hy
  have h3 : dval (.number (s ^^ t) (m * n) (i + j)) = fv x * fv y := by
    unfold fv; rw [ex, ey, dval_num, dval_num, dval_num]
    rw [p2_add, Rat.natCast_mul]
    cases s <;> cases t <;> simp <;> grind
  refine ⟨double.write (.number (s ^^ t) (m * n) (i + j)), ?_, ?_⟩
  · unfold Format.mul; rw [ex, ey]; rfl
  · have := write_near (s ^^ t) (m * n) (i + j) (by rw [h3]; exact hz)
    rw [h3] at this; exact this

/-- A complex number over the rationals. -/
structure Cx where
  re : Rat
  im : Rat
theorem Cx.ext' {x y : Cx} (h1 : x.re = y.re) (h2 : x.im = y.im) : x = y := by
  cases x; cases y; simp_all
def cadd (x y : Cx) : Cx := ⟨x.re + y.re, x.im + y.im⟩
def csub (x y : Cx) : Cx := ⟨x.re - y.re, x.im - y.im⟩
def cmul (x y : Cx) : Cx := ⟨x.re * y.re - x.im * y.im, x.re * y.im + x.im * y.re⟩
def conj (x : Cx) : Cx := ⟨x.re, -x.im⟩
/-- The square of its worth. -/
def N (x : Cx) : Rat := x.re * x.re + x.im * x.im
theorem N_nonneg (x : Cx) : 0 ≤ N x := Rat.add_nonneg (sq_nonneg _) (sq_nonneg _)
theorem N_mul (x y : Cx) : N (cmul x y) = N x * N y := by unfold N cmul; grind
theorem N_conj (x : Cx) : N (conj x) = N x := by unfold N conj; grind

def cv (p : Nat × Nat) : Cx := ⟨fv p.1, fv p.2⟩
def cfin (p : Nat × Nat) : Prop := fin p.1 ∧ fin p.2
def fadd (x y : Nat × Nat) : Nat × Nat := (cSumBits .add .f64 x.1 x.2 y.1 y.2).getD (0, 0)
def fsub (x y : Nat × Nat) : Nat × Nat := (cSumBits .sub .f64 x.1 x.2 y.1 y.2).getD (0, 0)
def fmul (x y : Nat × Nat) : Nat × Nat := (cMulBits x.1 x.2 y.1 y.2).getD (0, 0)

theorem fadd_near {x y : Nat × Nat} (hx : cfin x) (hy : cfin y) (hz : N (cadd (cv x) (cv y)) < p2 1998) :
    cSumBits .add .f64 x.1 x.2 y.1 y.2 = some (fadd x y) ∧ cfin (fadd x y) ∧ N (csub (cv (fadd x y)) (cadd (cv x) (cv y))) ≤ p2 (-105) * N (cadd (cv x) (cv y)) + 2 * p2 (-2149) := by
  have n1 := sq_nonneg (fv x.1 + fv y.1)
  have n2 := sq_nonneg (fv x.2 + fv y.2)
  have hz' : (fv x.1 + fv y.1) * (fv x.1 + fv y.1) + (fv x.2 + fv y.2) * (fv x.2 + fv y.2) < p2 1998 := hz
  obtain ⟨r, h1, h2, h3⟩ := add_near hx.1 hy.1 (by grind)
  obtain ⟨s, k1, k2, k3⟩ := add_near hx.2 hy.2 (by grind)
  have he : cSumBits .add .f64 x.1 x.2 y.1 y.2 = some (r, s) := by
    unfold cSumBits floatBits
    show (Ieee.double.add x.1 y.1).bind _ = _
    rw [h1]; show (Ieee.double.add x.2 y.2).bind _ = _; rw [k1]; rfl
  have hf : fadd x y = (r, s) := by unfold fadd; rw [he]; rfl
  rw [hf]
  refine ⟨he, ⟨h2, k2⟩, ?_⟩
  unfold Near at h3 k3
  unfold N csub cadd cv
  dsimp only
  grind

theorem fsub_near {x y : Nat × Nat} (hx : cfin x) (hy : cfin y) (hz : N (csub (cv x) (cv y)) < p2 1998) :
    cSumBits .sub .f64 x.1 x.2 y.1 y.2 = some (fsub x y) ∧ cfin (fsub x y) ∧ N (csub (cv (fsub x y)) (csub (cv x) (cv y))) ≤ p2 (-105) * N (csub (cv x) (cv y)) + 2 * p2 (-2149) := by
  have n1 := sq_nonneg (fv x.1 - fv y.1)
  have n2 := sq_nonneg (fv x.2 - fv y.2)
  have hz' : (fv x.1 - fv y.1) * (fv x.1 - fv y.1) + (fv x.2 - fv y.2) * (fv x.2 - fv y.2) < p2 1998 := hz
  obtain ⟨r, h1, h2, h3⟩ := sub_near hx.1 hy.1 (by grind)
  obtain ⟨s, k1, k2, k3⟩ := sub_near hx.2 hy.2 (by grind)
  have he : cSumBits .sub .f64 x.1 x.2 y.1 y.2 = some (r, s) := by
    unfold cSumBits floatBits
    show (Ieee.double.sub x.1 y.1).bind _ = _
    rw [h1]; show (Ieee.double.sub x.2 y.2).bind _ = _; rw [k1]; rfl
  have hf : fsub x y = (r, s) := by unfold fsub; rw [he]; rfl
  rw [hf]
  refine ⟨he, ⟨h2, k2⟩, ?_⟩
  unfold Near at h3 k3
  unfold N csub cv
  dsimp only
  grind

/-- Two products, each rounded, and their difference, rounded. -/
theorem two_err {u v p q r E H : Rat} (hE0 : 0 ≤ E) (hE1 : E ≤ 1 / 100) (hH : 0 ≤ H) (hp : (p - u) * (p - u) ≤ E * (u * u) + H) (hq : (q - v) * (q - v) ≤ E * (v * v) + H) (hr : (r - (p - q)) * (r - (p - q)) ≤ E * ((p - q) * (p - q)) + H) :
    (r - (u - v)) * (r - (u - v)) ≤ 9 * (E * ((u - v) * (u - v))) + 4 * (E * (u * u)) + 4 * (E * (v * v)) + 10 * H := by
  have h1 : (p - q) * (p - q) ≤ 3 * ((u - v) * (u - v)) + 3 * ((p - u) * (p - u)) + 3 * ((q - v) * (q - v)) := by
    have := sq_nonneg ((u - v) - (p - u))
    have := sq_nonneg ((u - v) + (q - v))
    have := sq_nonneg ((p - u) + (q - v))
    grind
  have h2 : (r - (u - v)) * (r - (u - v)) ≤ 3 * ((r - (p - q)) * (r - (p - q))) + 3 * ((p - u) * (p - u)) + 3 * ((q - v) * (q - v)) := by
    have := sq_nonneg ((r - (p - q)) - (p - u))
    have := sq_nonneg ((r - (p - q)) + (q - v))
    have := sq_nonneg ((p - u) + (q - v))
    grind
  have h3 := Rat.mul_le_mul_of_nonneg_left h1 hE0
  have a1 : (p - u) * (p - u) + (q - v) * (q - v) ≤ E * (u * u) + E * (v * v) + 2 * H := by grind
  have h4 := Rat.mul_le_mul_of_nonneg_left a1 hE0
  have h5 := Rat.mul_le_mul_of_nonneg_right hE1 (show 0 ≤ E * (u * u) + E * (v * v) + 2 * H from Rat.add_nonneg (Rat.add_nonneg (Rat.mul_nonneg hE0 (sq_nonneg _)) (Rat.mul_nonneg hE0 (sq_nonneg _))) (by grind))
  have n1 := Rat.mul_nonneg hE0 (sq_nonneg u)
  have n2 := Rat.mul_nonneg hE0 (sq_nonneg v)
  generalize (r - (u - v)) * (r - (u - v)) = T at *
  generalize (r - (p - q)) * (r - (p - q)) = R at *
  generalize (p - q) * (p - q) = PQ at *
  generalize (p - u) * (p - u) = P at *
  generalize (q - v) * (q - v) = Q at *
  generalize (u - v) * (u - v) = UV at *
  generalize u * u = U at *
  generalize v * v = V at *
  grind

theorem sq_two (a b : Rat) : (a - b) * (a - b) ≤ 2 * (a * a) + 2 * (b * b) := by
  have := sq_nonneg (a + b); grind
theorem near_sq {f z : Rat} (h : Near f z) : f * f ≤ 3 * (z * z) + 1 := by
  unfold Near at h
  have h1 : p2 (-105) ≤ 1 / 4 := by decide +kernel
  have h2 : p2 (-2149) ≤ 1 / 4 := by decide +kernel
  have h3 := Rat.mul_le_mul_of_nonneg_right h1 (sq_nonneg z)
  have h4 := sq_two (f - z) (-z)
  have h5 := sq_nonneg z
  generalize p2 (-105) = E at *
  generalize p2 (-2149) = H at *
  grind

theorem fmul_near {x y : Nat × Nat} (hx : cfin x) (hy : cfin y) (hz : N (cv x) * N (cv y) < p2 1990) :
    cMulBits x.1 x.2 y.1 y.2 = some (fmul x y) ∧ cfin (fmul x y) ∧ N (csub (cv (fmul x y)) (cmul (cv x) (cv y))) ≤ 13 * (p2 (-105) * (N (cv x) * N (cv y))) + 20 * p2 (-2149) := by
  have hE0 : 0 ≤ p2 (-105) := Rat.le_of_lt (p2_pos _)
  have hE1 : p2 (-105) ≤ 1 / 100 := by decide +kernel
  have hH : 0 ≤ p2 (-2149) := Rat.le_of_lt (p2_pos _)
  have hbig : 16 * p2 1990 + 4 < p2 1998 := by decide +kernel
  have hbig2 : p2 1990 < p2 1998 := by decide +kernel
  have hNN : N (cv x) * N (cv y) = (fv x.1 * fv y.1) * (fv x.1 * fv y.1) + (fv x.2 * fv y.2) * (fv x.2 * fv y.2) + (fv x.1 * fv y.2) * (fv x.1 * fv y.2) + (fv x.2 * fv y.1) * (fv x.2 * fv y.1) := by
    unfold N cv; grind
  have s1 := sq_nonneg (fv x.1 * fv y.1)
  have s2 := sq_nonneg (fv x.2 * fv y.2)
  have s3 := sq_nonneg (fv x.1 * fv y.2)
  have s4 := sq_nonneg (fv x.2 * fv y.1)
  obtain ⟨ac, a1, a2, a3⟩ := mul_near hx.1 hy.1 (by grind)
  obtain ⟨bd, b1, b2, b3⟩ := mul_near hx.2 hy.2 (by grind)
  obtain ⟨ad, c1, c2, c3⟩ := mul_near hx.1 hy.2 (by grind)
  obtain ⟨bc, d1, d2, d3⟩ := mul_near hx.2 hy.1 (by grind)
  have qa := near_sq a3
  have qb := near_sq b3
  have qc := near_sq c3
  have qd := near_sq d3
  have ts := sq_two (fv ac) (fv bd)
  have ta := sq_two (fv ad) (-fv bc)
  obtain ⟨re, e1, e2, e3⟩ := sub_near a2 b2 (by grind)
  obtain ⟨im, f1, f2, f3⟩ := add_near c2 d2 (by grind)
  have he : cMulBits x.1 x.2 y.1 y.2 = some (re, im) := by
    unfold cMulBits floatBits
    show (Ieee.double.mul x.1 y.1).bind _ = _
    rw [a1]; show (Ieee.double.mul x.2 y.2).bind _ = _; rw [b1]
    show (Ieee.double.sub ac bd).bind _ = _; rw [e1]
    show (Ieee.double.mul x.1 y.2).bind _ = _; rw [c1]
    show (Ieee.double.mul x.2 y.1).bind _ = _; rw [d1]
    show (Ieee.double.add ad bc).bind _ = _; rw [f1]; rfl
  have hf : fmul x y = (re, im) := by unfold fmul; rw [he]; rfl
  rw [hf]
  refine ⟨he, ⟨e2, f2⟩, ?_⟩
  have t1 := two_err hE0 hE1 hH a3 b3 e3
  have f3' : (fv im - (fv ad - -fv bc)) * (fv im - (fv ad - -fv bc)) ≤ p2 (-105) * ((fv ad - -fv bc) * (fv ad - -fv bc)) + p2 (-2149) := by
    have := f3; unfold Near at this; rw [show fv ad - -fv bc = fv ad + fv bc by grind]; exact this
  have d3' : (-fv bc - -(fv x.2 * fv y.1)) * (-fv bc - -(fv x.2 * fv y.1)) ≤ p2 (-105) * (-(fv x.2 * fv y.1) * -(fv x.2 * fv y.1)) + p2 (-2149) := by
    have := d3; unfold Near at this; grind
  have t2 := two_err hE0 hE1 hH c3 d3' f3'
  rw [hNN]
  unfold N csub cmul cv
  dsimp only
  generalize p2 (-105) = E at *
  generalize p2 (-2149) = H at *
  generalize fv x.1 = a at *
  generalize fv x.2 = b at *
  generalize fv y.1 = c at *
  generalize fv y.2 = d at *
  clear qa qb qc qd ts ta a3 b3 c3 d3 e3 f3 f3' d3'
  grind

/-- The worth of z is at most A. -/
def Le (z : Cx) (A : Rat) : Prop := 0 ≤ A ∧ N z ≤ A * A
theorem mul_mono {a b c d : Rat} (ha : 0 ≤ a) (hc : 0 ≤ c) (h1 : a ≤ b) (h2 : c ≤ d) : a * c ≤ b * d := by
  have := Rat.mul_nonneg (show 0 ≤ b - a by grind) (show 0 ≤ d by grind)
  have := Rat.mul_nonneg ha (show 0 ≤ d - c by grind)
  grind
theorem Le.mono {z : Cx} {A B : Rat} (h : Le z A) (hb : A ≤ B) : Le z B := by
  refine ⟨by have := h.1; grind, ?_⟩
  have := mul_mono h.1 h.1 hb hb; have := h.2; grind
theorem Le.add {x y : Cx} {A B : Rat} (h1 : Le x A) (h2 : Le y B) : Le (cadd x y) (A + B) := by
  refine ⟨Rat.add_nonneg h1.1 h2.1, ?_⟩
  have hn := mul_mono (N_nonneg x) (N_nonneg y) h1.2 h2.2
  have hab := Rat.mul_nonneg h1.1 h2.1
  have hs := sq_nonneg (x.re * y.im - x.im * y.re)
  have hdot : x.re * y.re + x.im * y.im ≤ A * B := by
    apply Rat.not_lt.1; intro hc
    have hm := mul_mono hab hab (Rat.le_of_lt hc) (Rat.le_of_lt hc)
    have hlt : (A * B) * (A * B) < (x.re * y.re + x.im * y.im) * (x.re * y.re + x.im * y.im) := by
      have h0 : 0 < x.re * y.re + x.im * y.im - A * B := by grind
      have h3 := Rat.mul_pos h0 h0
      have h4 := Rat.mul_nonneg hab (Rat.le_of_lt h0)
      grind
    unfold N at hn
    grind
  have := h1.2; have := h2.2
  unfold N cadd at *
  dsimp only
  grind
theorem Le.mul {x y : Cx} {A B : Rat} (h1 : Le x A) (h2 : Le y B) : Le (cmul x y) (A * B) := by
  refine ⟨Rat.mul_nonneg h1.1 h2.1, ?_⟩
  rw [N_mul]
  have := mul_mono (N_nonneg x) (N_nonneg y) h1.2 h2.2
  grind
theorem Le.neg {x : Cx} {A : Rat} (h : Le x A) : Le ⟨-x.re, -x.im⟩ A := by
  refine ⟨h.1, ?_⟩
  have := h.2; unfold N at *; dsimp only; grind
theorem Le.sub {x y : Cx} {A B : Rat} (h1 : Le x A) (h2 : Le y B) : Le (csub x y) (A + B) := by
  have := h1.add h2.neg
  rwa [show csub x y = cadd x ⟨-y.re, -y.im⟩ from by unfold csub cadd; congr 1 <;> grind]
theorem Le.conj {x : Cx} {A : Rat} (h : Le x A) : Le (conj x) A := ⟨h.1, by rw [N_conj]; exact h.2⟩
theorem Le.re {x : Cx} {A : Rat} (h : Le x A) : -A ≤ x.re ∧ x.re ≤ A := by
  have h1 := h.2; have h2 := sq_nonneg x.im; have h0 := h.1
  unfold N at h1
  constructor
  · apply Rat.not_lt.1; intro hc
    have := Rat.mul_pos (show 0 < -x.re - A by grind) (show 0 < -x.re + A by grind)
    grind
  · apply Rat.not_lt.1; intro hc
    have := Rat.mul_pos (show 0 < x.re - A by grind) (show 0 < x.re + A by grind)
    grind
theorem Le.im {x : Cx} {A : Rat} (h : Le x A) : -A ≤ x.im ∧ x.im ≤ A :=
  Le.re (x := ⟨x.im, x.re⟩) ⟨h.1, by have := h.2; unfold N at *; dsimp only; grind⟩

/-- A rounded thing, told by worths. -/
theorem le_of_err {z : Cx} {E H e h A : Rat} (hN : N z ≤ E * (A * A) + H) (hA : 0 ≤ A) (he : 0 ≤ e) (hh : 0 ≤ h) (h1 : E ≤ e * e) (h2 : H ≤ h * h) : Le z (e * A + h) := by
  refine ⟨Rat.add_nonneg (Rat.mul_nonneg he hA) hh, ?_⟩
  have := Rat.mul_le_mul_of_nonneg_right h1 (sq_nonneg A)
  have := Rat.mul_nonneg (Rat.mul_nonneg he hA) hh
  grind

theorem young (x y : Cx) (k : Rat) : k * N (cadd x y) ≤ (k + 1) * N x + (k * k + k) * N y := by
  have := sq_nonneg (x.re - k * y.re)
  have := sq_nonneg (x.im - k * y.im)
  unfold N cadd; dsimp only; grind
theorem three (x y z : Cx) : N (cadd (cadd x y) z) ≤ 3 * (N x + N y + N z) := by
  have := sq_nonneg (x.re - y.re)
  have := sq_nonneg (x.im - y.im)
  have := sq_nonneg (x.re - z.re)
  have := sq_nonneg (x.im - z.im)
  have := sq_nonneg (z.re - y.re)
  have := sq_nonneg (z.im - y.im)
  unfold N cadd; dsimp only; grind
theorem para (x y : Cx) : N (cadd x y) + N (csub x y) = 2 * (N x + N y) := by
  unfold N cadd csub; dsimp only; grind

/-- The float r stands for the root w. -/
structure Root (r : Nat × Nat) (w : Cx) : Prop where
  fin : cfin r
  near : N (csub (cv r) w) ≤ 8 * p2 (-105)
  size : N (cv r) ≤ 10001 / 10000
  one : N w ≤ 10001 / 10000

def mass (x : Nat × Nat) : Rat := N (cv x) + p2 (-2000)
theorem mass_pos (x : Nat × Nat) : 0 < mass x := by
  have := N_nonneg (cv x); have := p2_pos (-2000); unfold mass; grind

/-- One step of the transform: what it does, how great its answers are, and how far from the true ones. -/
theorem step_there {x y r : Nat × Nat} {w : Cx} (hx : cfin x) (hy : cfin y) (hr : Root r w) (hz : mass x + mass y ≤ p2 300) :
    cSumBits .add .f64 x.1 x.2 y.1 y.2 = some (fadd x y) ∧ cSumBits .sub .f64 x.1 x.2 y.1 y.2 = some (fsub x y) ∧ cMulBits (fsub x y).1 (fsub x y).2 r.1 r.2 = some (fmul (fsub x y) r) ∧
    cfin (fadd x y) ∧ cfin (fmul (fsub x y) r) ∧
    mass (fadd x y) + mass (fmul (fsub x y) r) ≤ 2 * (1001 / 1000) * (mass x + mass y) ∧
    ∀ X Y : Cx, N (csub (cv (fadd x y)) (cadd X Y)) + N (csub (cv (fmul (fsub x y) r)) (cmul (csub X Y) w)) ≤ 2 * (11 / 10) * (N (csub (cv x) X) + N (csub (cv y) Y)) + 2 * (2600 * p2 (-105)) * (mass x + mass y) := by
  have hp := para (cv x) (cv y)
  have nx := N_nonneg (cv x)
  have ny := N_nonneg (cv y)
  have ns := N_nonneg (cadd (cv x) (cv y))
  have nd := N_nonneg (csub (cv x) (cv y))
  have hk0 := p2_pos (-2000)
  unfold mass at hz
  have hb : 2 * p2 300 < p2 1000 := by decide +kernel
  have hb2 : p2 1000 < p2 1990 := by decide +kernel
  have hb3 : p2 1990 < p2 1998 := by decide +kernel
  have hb4 : 4 * p2 1000 + 4 < p2 1990 := by decide +kernel
  obtain ⟨a1, a2, a3⟩ := fadd_near hx hy (by grind)
  obtain ⟨s1, s2, s3⟩ := fsub_near hx hy (by grind)
  generalize hs : cadd (cv x) (cv y) = s at *
  generalize hd : csub (cv x) (cv y) = d at *
  have hE0 : 0 < p2 (-105) := p2_pos _
  have hE1 : p2 (-105) ≤ 1 / 10000000000000 := by decide +kernel
  have hH0 : 0 < p2 (-2149) := p2_pos _
  have hH1 : p2 (-2149) ≤ 1 / 10000000000000 := by decide +kernel
  have hHk : 10000000 * p2 (-2149) ≤ p2 (-2000) := by decide +kernel
  have hHEk : 10000000 * p2 (-2149) ≤ p2 (-105) * p2 (-2000) := by decide +kernel
  -- the difference, rounded
  have hdd : N (cv (fsub x y)) ≤ 3 * N d + 4 * p2 (-2149) := by
    have hy1 := young d (csub (cv (fsub x y)) d) 1
    rw [show cadd d (csub (cv (fsub x y)) d) = cv (fsub x y) from by unfold cadd csub; apply Cx.ext' <;> dsimp only <;> grind] at hy1
    have := Rat.mul_le_mul_of_nonneg_right hE1 nd
    grind
  have nr := N_nonneg (cv r)
  have ndd := N_nonneg (cv (fsub x y))
  have hmm : N (cv (fsub x y)) * N (cv r) ≤ (3 * N d + 4 * p2 (-2149)) * (10001 / 10000) := mul_mono ndd nr hdd hr.size
  obtain ⟨m1, m2, m3⟩ := fmul_near s2 hr.fin (by grind)
  refine ⟨a1, s1, m1, a2, m2, ?_, ?_⟩
  · -- sizes
    have y1 := young s (csub (cv (fadd x y)) s) 4000
    rw [show cadd s (csub (cv (fadd x y)) s) = cv (fadd x y) from by unfold cadd csub; apply Cx.ext' <;> dsimp only <;> grind] at y1
    have y2 := young (cmul d (cv r)) (csub (cv (fmul (fsub x y) r)) (cmul d (cv r))) 4000
    rw [show cadd (cmul d (cv r)) (csub (cv (fmul (fsub x y) r)) (cmul d (cv r))) = cv (fmul (fsub x y) r) from by unfold cadd csub; apply Cx.ext' <;> dsimp only <;> grind, N_mul] at y2
    have y3 := young (csub (cv (fmul (fsub x y) r)) (cmul (cv (fsub x y)) (cv r))) (cmul (csub (cv (fsub x y)) d) (cv r)) 1
    rw [show cadd (csub (cv (fmul (fsub x y) r)) (cmul (cv (fsub x y)) (cv r))) (cmul (csub (cv (fsub x y)) d) (cv r)) = csub (cv (fmul (fsub x y) r)) (cmul d (cv r)) from by unfold cadd csub cmul; apply Cx.ext' <;> dsimp only <;> grind, N_mul] at y3
    have y4 := mul_mono (N_nonneg (csub (cv (fsub x y)) d)) nr s3 hr.size
    have y5 := mul_mono nd nr Rat.le_refl hr.size
    have e1 := Rat.mul_le_mul_of_nonneg_left hmm (Rat.le_of_lt hE0)
    have e2 := Rat.mul_le_mul_of_nonneg_right hE1 nd
    have e3 := Rat.mul_le_mul_of_nonneg_right hE1 ns
    have e4 := Rat.mul_le_mul_of_nonneg_right hE1 (Rat.le_of_lt hH0)
    have e5 := Rat.mul_nonneg (Rat.le_of_lt hE0) ns
    have e6 := Rat.mul_nonneg (Rat.le_of_lt hE0) nd
    unfold mass
    generalize N (cv (fadd x y)) = Na at *
    generalize N (cv (fmul (fsub x y) r)) = Nm at *
    generalize N (csub (cv (fmul (fsub x y) r)) (cmul d (cv r))) = Z1 at *
    generalize N (csub (cv (fmul (fsub x y) r)) (cmul (cv (fsub x y)) (cv r))) = Z2 at *
    generalize N (csub (cv (fsub x y)) d) = Z3 at *
    generalize N (csub (cv (fadd x y)) s) = Z4 at *
    generalize N (cv (fsub x y)) = Z5 at *
    generalize N (cv r) = Nr at *
    generalize N (cv x) = Nx at *
    generalize N (cv y) = Ny at *
    generalize N s = Ns at *
    generalize N d = Nd at *
    clear hr a1 a2 s1 s2 m1 m2 hx hy hs hd hb hb2 hb3 hb4 hz hHEk
    generalize p2 (-105) = E at *
    generalize p2 (-2149) = H at *
    generalize p2 (-2000) = k at *
    have f1 : Z1 ≤ 90 * (E * Nd) + 60 * H := by grind
    have f2 : Na ≤ (1 + 1 / 3000) * Ns + 9000 * H := by grind
    have f3 : Nm ≤ (1 + 1 / 2000) * Nd + 300000 * H := by grind
    grind
  · -- errors
    intro X Y
    have q1 := young (cadd (csub (cv x) X) (csub (cv y) Y)) (csub (cv (fadd x y)) s) 16
    rw [show cadd (cadd (csub (cv x) X) (csub (cv y) Y)) (csub (cv (fadd x y)) s) = csub (cv (fadd x y)) (cadd X Y) from by rw [← hs]; unfold cadd csub; apply Cx.ext' <;> dsimp only <;> grind] at q1
    have q2 := young (cmul (csub (csub (cv x) X) (csub (cv y) Y)) w) (csub (cv (fmul (fsub x y) r)) (cmul d w)) 16
    rw [show cadd (cmul (csub (csub (cv x) X) (csub (cv y) Y)) w) (csub (cv (fmul (fsub x y) r)) (cmul d w)) = csub (cv (fmul (fsub x y) r)) (cmul (csub X Y) w) from by rw [← hd]; unfold cadd csub cmul; apply Cx.ext' <;> dsimp only <;> grind, N_mul] at q2
    have q3 := three (csub (cv (fmul (fsub x y) r)) (cmul (cv (fsub x y)) (cv r))) (cmul (csub (cv (fsub x y)) d) (cv r)) (cmul d (csub (cv r) w))
    rw [show cadd (cadd (csub (cv (fmul (fsub x y) r)) (cmul (cv (fsub x y)) (cv r))) (cmul (csub (cv (fsub x y)) d) (cv r))) (cmul d (csub (cv r) w)) = csub (cv (fmul (fsub x y) r)) (cmul d w) from by unfold cadd csub cmul; apply Cx.ext' <;> dsimp only <;> grind, N_mul, N_mul] at q3
    have q4 := para (csub (cv x) X) (csub (cv y) Y)
    have q5 := mul_mono (N_nonneg (csub (cv (fsub x y)) d)) nr s3 hr.size
    have q6 := mul_mono nd (N_nonneg (csub (cv r) w)) Rat.le_refl hr.near
    have q7 := mul_mono (N_nonneg (csub (csub (cv x) X) (csub (cv y) Y))) (N_nonneg w) Rat.le_refl hr.one
    have n1 := N_nonneg (cadd (csub (cv x) X) (csub (cv y) Y))
    have n2 := N_nonneg (csub (csub (cv x) X) (csub (cv y) Y))
    have n3 := N_nonneg (csub (cv x) X)
    have n4 := N_nonneg (csub (cv y) Y)
    have e1 := Rat.mul_le_mul_of_nonneg_left hmm (Rat.le_of_lt hE0)
    have e4 := Rat.mul_le_mul_of_nonneg_right hE1 (Rat.le_of_lt hH0)
    have e5 := Rat.mul_nonneg (Rat.le_of_lt hE0) ns
    have e6 := Rat.mul_nonneg (Rat.le_of_lt hE0) nd
    unfold mass
    generalize N (csub (cv (fadd x y)) (cadd X Y)) = R1 at *
    generalize N (csub (cv (fmul (fsub x y) r)) (cmul (csub X Y) w)) = R2 at *
    generalize N (csub (csub (cv x) X) (csub (cv y) Y)) = D2 at *
    generalize N (cadd (csub (cv x) X) (csub (cv y) Y)) = D1 at *
    generalize N (csub (cv x) X) = Ex at *
    generalize N (csub (cv y) Y) = Ey at *
    generalize N (csub (cv (fmul (fsub x y) r)) (cmul d w)) = Z1 at *
    generalize N (csub (cv (fmul (fsub x y) r)) (cmul (cv (fsub x y)) (cv r))) = Z2 at *
    generalize N (csub (cv (fsub x y)) d) = Z3 at *
    generalize N (csub (cv (fadd x y)) s) = Z4 at *
    generalize N (cv (fsub x y)) = Z5 at *
    generalize N (csub (cv r) w) = Z6 at *
    generalize N (cv r) = Nr at *
    generalize N (cv x) = Nx at *
    generalize N (cv y) = Ny at *
    generalize N s = Ns at *
    generalize N d = Nd at *
    generalize N w = Nw at *
    clear hr a1 a2 s1 s2 m1 m2 hx hy hs hd hb hb2 hb3 hb4 hz hHk
    generalize hEk : p2 (-105) * p2 (-2000) = Ek at *
    have hg : 2 * (2600 * p2 (-105)) * (Nx + p2 (-2000) + (Ny + p2 (-2000))) = 5200 * (p2 (-105) * Nx) + 5200 * (p2 (-105) * Ny) + 10400 * Ek := by rw [← hEk]; grind
    rw [hg]
    clear hg hEk
    generalize p2 (-105) = E at *
    generalize p2 (-2149) = H at *
    have f0 : Z2 ≤ 42 * (E * Nd) + 22 * H := by grind
    have f1 : Z1 ≤ 155 * (E * Nd) + 90 * H := by grind
    have f2 : 16 * R1 ≤ 17 * D1 + 272 * (E * Ns) + 600 * H := by grind
    have f3 : 16 * R2 ≤ 17 * (10001 / 10000) * D2 + 272 * 155 * (E * Nd) + 25000 * H := by grind
    have hp2 : E * Ns + E * Nd = 2 * (E * Nx) + 2 * (E * Ny) := by
      have : E * (Ns + Nd) = E * (2 * (Nx + Ny)) := by rw [hp]
      grind
    grind

/-- One step of the way back. -/
theorem step_back {x y r : Nat × Nat} {w X Y : Cx} {Wx Wy Dx Dy : Rat} (hx : cfin x) (hy : cfin y) (hr : Root r w)
    (hWx : Le (cv x) Wx) (hWy : Le (cv y) Wy) (hDx : Le (csub (cv x) X) Dx) (hDy : Le (csub (cv y) Y) Dy) (hkx : p2 (-900) ≤ Wx) (hky : p2 (-900) ≤ Wy) (hz : Wx + Wy ≤ p2 200) :
    cMulBits y.1 y.2 r.1 r.2 = some (fmul y r) ∧ cSumBits .add .f64 x.1 x.2 (fmul y r).1 (fmul y r).2 = some (fadd x (fmul y r)) ∧ cSumBits .sub .f64 x.1 x.2 (fmul y r).1 (fmul y r).2 = some (fsub x (fmul y r)) ∧
    cfin (fadd x (fmul y r)) ∧ cfin (fsub x (fmul y r)) ∧
    Le (cv (fadd x (fmul y r))) (1001 / 1000 * (Wx + Wy)) ∧ Le (cv (fsub x (fmul y r))) (1001 / 1000 * (Wx + Wy)) ∧
    Le (csub (cv (fadd x (fmul y r))) (cadd X (cmul Y w))) (1001 / 1000 * (Dx + Dy) + p2 (-49) * (Wx + Wy)) ∧
    Le (csub (cv (fsub x (fmul y r))) (csub X (cmul Y w))) (1001 / 1000 * (Dx + Dy) + p2 (-49) * (Wx + Wy)) := by
  have hk0 := p2_pos (-900)
  have c1 : 13 * p2 (-105) ≤ p2 (-50) * p2 (-50) := by decide +kernel
  have c2 : 20 * p2 (-2149) ≤ p2 (-1000) * p2 (-1000) := by decide +kernel
  have c3 : p2 (-105) ≤ p2 (-52) * p2 (-52) := by decide +kernel
  have c4 : 2 * p2 (-2149) ≤ p2 (-1000) * p2 (-1000) := by decide +kernel
  have c5 : 8 * p2 (-105) ≤ p2 (-51) * p2 (-51) := by decide +kernel
  have p50 := p2_pos (-50)
  have p51 := p2_pos (-51)
  have p52 := p2_pos (-52)
  have p1000 := p2_pos (-1000)
  have big : p2 200 * p2 200 * 4 < p2 1990 := by decide +kernel
  have big2 : p2 200 * p2 200 * 4 < p2 1998 := by decide +kernel
  have lr : Le (cv r) (10001 / 10000) := ⟨by grind, by have := hr.size; grind⟩
  have lw : Le w (10001 / 10000) := ⟨by grind, by have := hr.one; grind⟩
  have lrw : Le (csub (cv r) w) (p2 (-51)) := ⟨Rat.le_of_lt p51, by have := hr.near; grind⟩
  have lyr := hWy.mul lr
  have hWx0 := hWx.1
  have hWy0 := hWy.1
  have h200 := p2_pos 200
  -- the product
  have hm0 : N (cv y) * N (cv r) ≤ (Wy * (10001 / 10000)) * (Wy * (10001 / 10000)) := by rw [← N_mul]; exact lyr.2
  have hsm : (Wy * (10001 / 10000)) * (Wy * (10001 / 10000)) < p2 1990 := by
    have hle : Wy * (10001 / 10000) ≤ 2 * p2 200 := by grind
    have := mul_mono lyr.1 lyr.1 hle hle
    grind
  obtain ⟨m1, m2, m3⟩ := fmul_near hy hr.fin (by grind)
  have le1 : Le (csub (cv (fmul y r)) (cmul (cv y) (cv r))) (p2 (-50) * (Wy * (10001 / 10000)) + p2 (-1000)) := by
    refine le_of_err (E := 13 * p2 (-105)) (H := 20 * p2 (-2149)) ?_ lyr.1 (Rat.le_of_lt p50) (Rat.le_of_lt p1000) c1 c2
    have := Rat.mul_le_mul_of_nonneg_left hm0 (Rat.le_of_lt (p2_pos (-105)))
    grind
  have e50 : p2 (-50) ≤ 1 / 1000000 := by decide +kernel
  have e52 : p2 (-52) ≤ 1 / 1000000 := by decide +kernel
  have e1000 : 1000000 * p2 (-1000) ≤ p2 (-900) := by decide +kernel
  have w50 := Rat.mul_le_mul_of_nonneg_right e50 hWy0
  have lt : Le (cv (fmul y r)) (Wy * (10002 / 10000)) := by
    have h := lyr.add le1
    rw [show cadd (cmul (cv y) (cv r)) (csub (cv (fmul y r)) (cmul (cv y) (cv r))) = cv (fmul y r) from by unfold cadd csub; apply Cx.ext' <;> dsimp only <;> grind] at h
    refine h.mono ?_
    grind
  have ls := hWx.add lt
  have ld := hWx.sub lt
  have hsq : (Wx + Wy * (10002 / 10000)) * (Wx + Wy * (10002 / 10000)) < p2 1998 := by
    have hle : Wx + Wy * (10002 / 10000) ≤ 2 * p2 200 := by grind
    have := mul_mono ls.1 ls.1 hle hle
    grind
  obtain ⟨a1, a2, a3⟩ := fadd_near hx m2 (by have := ls.2; grind)
  obtain ⟨s1, s2, s3⟩ := fsub_near hx m2 (by have := ld.2; grind)
  have le2 : Le (csub (cv (fadd x (fmul y r))) (cadd (cv x) (cv (fmul y r)))) (p2 (-52) * (Wx + Wy * (10002 / 10000)) + p2 (-1000)) := by
    refine le_of_err (E := p2 (-105)) (H := 2 * p2 (-2149)) ?_ ls.1 (Rat.le_of_lt p52) (Rat.le_of_lt p1000) c3 c4
    have := Rat.mul_le_mul_of_nonneg_left ls.2 (Rat.le_of_lt (p2_pos (-105)))
    grind
  have le3 : Le (csub (cv (fsub x (fmul y r))) (csub (cv x) (cv (fmul y r)))) (p2 (-52) * (Wx + Wy * (10002 / 10000)) + p2 (-1000)) := by
    refine le_of_err (E := p2 (-105)) (H := 2 * p2 (-2149)) ?_ ld.1 (Rat.le_of_lt p52) (Rat.le_of_lt p1000) c3 c4
    have := Rat.mul_le_mul_of_nonneg_left ld.2 (Rat.le_of_lt (p2_pos (-105)))
    grind
  have w52x := Rat.mul_le_mul_of_nonneg_right e52 hWx0
  have w52y := Rat.mul_le_mul_of_nonneg_right e52 hWy0
  have le4 := (hWy.mul lrw)
  have le5 := hDy.mul lw
  have q50 : p2 (-50) = 4 * p2 (-52) := by decide +kernel
  have q51 : p2 (-51) = 2 * p2 (-52) := by decide +kernel
  have q49 : p2 (-49) = 8 * p2 (-52) := by decide +kernel
  have k1 : 1000000 * p2 (-1000) ≤ p2 (-52) * p2 (-900) := by decide +kernel
  have k2 := Rat.mul_le_mul_of_nonneg_left hky (Rat.le_of_lt p52)
  have k3 := Rat.mul_nonneg (Rat.le_of_lt p52) hWx0
  have hDx0 := hDx.1
  have hDy0 := hDy.1
  have hfin : (p2 (-52) * (Wx + Wy * (10002 / 10000)) + p2 (-1000)) + ((Dx + (p2 (-50) * (Wy * (10001 / 10000)) + p2 (-1000))) + (Wy * p2 (-51) + Dy * (10001 / 10000))) ≤ 1001 / 1000 * (Dx + Dy) + p2 (-49) * (Wx + Wy) := by
    rw [q49, q50, q51]
    clear le1 le2 le3 le4 le5 lyr lt ls ld hsq hm0 hsm c1 c2 c3 c4 c5
    generalize p2 (-52) = u at *
    generalize p2 (-1000) = t at *
    generalize p2 (-900) = k at *
    grind
  refine ⟨m1, a1, s1, a2, s2, ?_, ?_, ?_, ?_⟩
  · have h := ls.add le2
    rw [show cadd (cadd (cv x) (cv (fmul y r))) (csub (cv (fadd x (fmul y r))) (cadd (cv x) (cv (fmul y r)))) = cv (fadd x (fmul y r)) from by unfold cadd csub; apply Cx.ext' <;> dsimp only <;> grind] at h
    refine h.mono ?_
    grind
  · have h := ld.add le3
    rw [show cadd (csub (cv x) (cv (fmul y r))) (csub (cv (fsub x (fmul y r))) (csub (cv x) (cv (fmul y r)))) = cv (fsub x (fmul y r)) from by unfold cadd csub; apply Cx.ext' <;> dsimp only <;> grind] at h
    refine h.mono ?_
    grind
  · have h := le2.add ((hDx.add le1).add (le4.add le5))
    rw [show cadd (csub (cv (fadd x (fmul y r))) (cadd (cv x) (cv (fmul y r)))) (cadd (cadd (csub (cv x) X) (csub (cv (fmul y r)) (cmul (cv y) (cv r)))) (cadd (cmul (cv y) (csub (cv r) w)) (cmul (csub (cv y) Y) w))) = csub (cv (fadd x (fmul y r))) (cadd X (cmul Y w)) from by unfold cadd csub cmul; apply Cx.ext' <;> dsimp only <;> grind] at h
    exact h.mono hfin
  · have h := le3.add ((hDx.sub le1).sub (le4.add le5))
    rw [show cadd (csub (cv (fsub x (fmul y r))) (csub (cv x) (cv (fmul y r)))) (csub (csub (csub (cv x) X) (csub (cv (fmul y r)) (cmul (cv y) (cv r)))) (cadd (cmul (cv y) (csub (cv r) w)) (cmul (csub (cv y) Y) w))) = csub (cv (fsub x (fmul y r))) (csub X (cmul Y w)) from by unfold cadd csub cmul; apply Cx.ext' <;> dsimp only <;> grind] at h
    exact h.mono hfin

/-- A place's square: how great, and how far from the true one. -/
theorem step_sq {x : Nat × Nat} {X : Cx} (hx : cfin x) (hz : mass x ≤ p2 100) :
    cMulBits x.1 x.2 x.1 x.2 = some (fmul x x) ∧ cfin (fmul x x) ∧ Le (cv (fmul x x)) (1001 / 1000 * mass x + p2 (-900)) ∧
    Le (csub (cv (fmul x x)) (cmul X X)) (p2 44 * (1001 / 1000) * N (csub (cv x) X) + 6 * p2 (-46) * mass x + p2 (-900)) := by
  have nx := N_nonneg (cv x)
  have ne := N_nonneg (csub (cv x) X)
  have hk0 := p2_pos (-2000)
  have big : p2 100 * p2 100 < p2 1990 := by decide +kernel
  have c1 : 13 * p2 (-105) ≤ p2 (-50) * p2 (-50) := by decide +kernel
  have c2 : 20 * p2 (-2149) ≤ p2 (-1000) * p2 (-1000) := by decide +kernel
  have p50 := p2_pos (-50)
  have p1000 := p2_pos (-1000)
  have p900 := p2_pos (-900)
  unfold mass at hz ⊢
  have hNN : N (cv x) * N (cv x) < p2 1990 := by
    have h : N (cv x) ≤ p2 100 := by grind
    have := mul_mono nx nx h h
    grind
  obtain ⟨m1, m2, m3⟩ := fmul_near hx hx hNN
  have le1 : Le (csub (cv (fmul x x)) (cmul (cv x) (cv x))) (p2 (-50) * N (cv x) + p2 (-1000)) := by
    refine le_of_err (E := 13 * p2 (-105)) (H := 20 * p2 (-2149)) ?_ nx (Rat.le_of_lt p50) (Rat.le_of_lt p1000) c1 c2
    grind
  have lsq : Le (cmul (cv x) (cv x)) (N (cv x)) := ⟨nx, by rw [N_mul]; exact Rat.le_refl⟩
  have e50 : p2 (-50) ≤ 1 / 1000000 := by decide +kernel
  have e1000 : p2 (-1000) ≤ p2 (-900) := by decide +kernel
  have w50 := Rat.mul_le_mul_of_nonneg_right e50 nx
  refine ⟨m1, m2, ?_, ?_⟩
  · have h := lsq.add le1
    rw [show cadd (cmul (cv x) (cv x)) (csub (cv (fmul x x)) (cmul (cv x) (cv x))) = cv (fmul x x) from by unfold cadd csub; apply Cx.ext' <;> dsimp only <;> grind] at h
    refine h.mono ?_
    grind
  · have hf := young (cadd (cv x) (cv x)) ⟨-(csub (cv x) X).re, -(csub (cv x) X).im⟩ 7
    rw [show cadd (cadd (cv x) (cv x)) ⟨-(csub (cv x) X).re, -(csub (cv x) X).im⟩ = cadd (cv x) X from by unfold cadd csub; apply Cx.ext' <;> dsimp only <;> grind,
      show N (⟨-(csub (cv x) X).re, -(csub (cv x) X).im⟩ : Cx) = N (csub (cv x) X) from by unfold N; dsimp only; grind,
      show N (cadd (cv x) (cv x)) = 4 * N (cv x) from by unfold N cadd; dsimp only; grind] at hf
    have p44 := p2_pos 44
    have p46 := p2_pos (-46)
    have h46 : p2 44 * p2 (-46) = 1 / 4 := by decide +kernel
    have nf := N_nonneg (cadd (cv x) X)
    have le2 : Le (cmul (csub (cv x) X) (cadd (cv x) X)) (p2 44 * N (csub (cv x) X) + p2 (-46) * N (cadd (cv x) X)) := by
      refine ⟨Rat.add_nonneg (Rat.mul_nonneg (Rat.le_of_lt p44) ne) (Rat.mul_nonneg (Rat.le_of_lt p46) nf), ?_⟩
      rw [N_mul]
      have hs := sq_nonneg (p2 44 * N (csub (cv x) X) - p2 (-46) * N (cadd (cv x) X))
      have h4 : (p2 44 * N (csub (cv x) X)) * (p2 (-46) * N (cadd (cv x) X)) = 1 / 4 * (N (csub (cv x) X) * N (cadd (cv x) X)) := by rw [← h46]; grind
      generalize p2 44 * N (csub (cv x) X) = P at *
      generalize p2 (-46) * N (cadd (cv x) X) = Q at *
      grind
    have h := le1.add le2
    rw [show cadd (csub (cv (fmul x x)) (cmul (cv x) (cv x))) (cmul (csub (cv x) X) (cadd (cv x) X)) = csub (cv (fmul x x)) (cmul X X) from by unfold cadd csub cmul; apply Cx.ext' <;> dsimp only <;> grind] at h
    refine h.mono ?_
    have g := Rat.mul_le_mul_of_nonneg_left hf (Rat.le_of_lt p46)
    have q50 : p2 (-50) = p2 (-46) / 16 := by decide +kernel
    have q44 : 100000 * p2 (-46) ≤ p2 44 := by decide +kernel
    have q1 := Rat.mul_nonneg (Rat.le_of_lt p46) nx
    have q2 := Rat.mul_le_mul_of_nonneg_right q44 ne
    have q3 := Rat.mul_nonneg (Rat.le_of_lt p46) (Rat.le_of_lt hk0)
    have q4 := Rat.mul_nonneg (Rat.le_of_lt p44) ne
    rw [q50]
    clear le1 le2 lsq h m3 hNN
    generalize N (csub (cv x) X) = Ne at *
    generalize N (cadd (cv x) X) = Nf at *
    generalize N (cv x) = Nx at *
    generalize p2 (-46) = u at *
    generalize p2 44 = v at *
    generalize p2 (-2000) = k at *
    generalize p2 (-1000) = t at *
    generalize p2 (-900) = t2 at *
    grind
end Go.Proofs.YtaookoejdnkkoaaGreatDoor.FF
