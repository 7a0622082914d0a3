import Derived.Test.YtclbjmanmkoikaaDoorHv
import Derived.Test.YtclbjmanmkoikaaDoorGC
import Derived.Test.YtclbjmanmkoikaaDoorBkW
import Derived.Test.YtclbjmanmkoikaaDoorGA
import Derived.BigQuiet
import Derived.Deep.QuietTactic
namespace Go.Proofs.YtclbjmanmkoikaaDoor
open Go.RowKit

theorem txt_cat (p j n : Nat) : txt (p + j) n = txt j (n / 10 ^ p) ++ txt p n := by
  induction j with
  | zero => simp [txt, digs_zero]
  | succ j ih => rw [Nat.add_succ, txt_succ, ih, txt_succ, Nat.div_div_eq_div_mul, ← Nat.pow_add]; rfl
theorem txt_mod (j m n : Nat) (h : j ≤ m) : txt j (n % 10 ^ m) = txt j n := by
  induction j with
  | zero => simp [txt, digs_zero]
  | succ j ih =>
    rw [txt_succ, txt_succ, ih (by omega)]
    have e : 10 ^ m = 10 ^ j * 10 ^ (m - j) := by rw [← Nat.pow_add]; congr 1; omega
    rw [e, Nat.mod_mul_right_div_self, Nat.mod_mod_of_dvd _ (Nat.dvd_of_pow_dvd (by omega : 1 ≤ m - j) (Nat.dvd_refl _))]
theorem isDec_txt (p N : Nat) (h0 : 0 < p) (h1 : 10 ^ (p - 1) ≤ N) (h2 : N < 10 ^ p) : IsDec (txt p N) N := by
  refine ⟨txt_dig p N, by rw [txt_val]; exact Nat.mod_eq_of_lt h2, fun h => ?_, fun _ => ?_⟩
  · have := txt_len p N
    rw [h] at this
    simp at this
    omega
  · obtain ⟨q, rfl⟩ : ∃ q, p = q + 1 := ⟨p - 1, by omega⟩
    rw [Nat.add_sub_cancel] at h1
    rw [txt_succ]
    have hp : 0 < 10 ^ q := Nat.pow_pos (by decide)
    have a1 : 1 ≤ N / 10 ^ q := (Nat.le_div_iff_mul_le hp).2 (by omega)
    have a2 : N / 10 ^ q < 10 := (Nat.div_lt_iff_lt_mul hp).2 (by rw [Nat.mul_comm, ← Nat.pow_succ]; exact h2)
    have a3 : N / 10 ^ q % 10 = N / 10 ^ q := Nat.mod_eq_of_lt a2
    rw [a3]
    intro h
    have h3 : UInt8.ofNat (48 + N / 10 ^ q) = 48 := by simpa using h
    have h4 := dig_nat (N / 10 ^ q) a2
    rw [h3] at h4
    have : (48 : UInt8).toNat = 48 := rfl
    omega
theorem or_high (y x : Nat) (hx : x < 4294967296) (hy : y < 4294967296) : bits BinOp.or IntKind.u64 ((x * 4294967296 : Nat) : Int) (y : Int) = ((x * 4294967296 + y : Nat) : Int) := by
  have h := (or_low y x 32 (by decide) hy).1
  have e : x * 2 ^ 32 % 18446744073709551616 = x * 4294967296 := Nat.mod_eq_of_lt (by omega)
  rw [e] at h
  rw [Nat.add_comm (x * 4294967296), ← h]
  simp [bits]
  rw [Nat.or_comm]
theorem div_step {d h r x q m R : Nat} (hx : x = r * 4294967296 + h) (hd : d * 1000000000 + r = R) (hq : q * 1000000000 + m = x) : (q + 4294967296 * d) * 1000000000 + m = h + 4294967296 * R := by
  have e : (q + 4294967296 * d) * 1000000000 = q * 1000000000 + 4294967296 * (d * 1000000000) := by rw [Nat.add_mul, Nat.mul_assoc]
  rw [e, ← hd, Nat.mul_add, Nat.add_right_comm, hq, hx, Nat.mul_comm r]
  generalize 4294967296 * r = u
  generalize 4294967296 * (d * 1000000000) = v
  omega
theorem own64.under3 {w w' : World} {B : Nat} {v : Value} {zs : List Nat} (h : own64 w B v zs) (hb : Below w.heap.size w w') : own64 w' B v zs :=
  ((Chg.of_below hb).owns h fun k hk he => by have := (World.ownsRow.lt h k hk).2; omega)
/-- What Digits answers. -/
def DigitsPost (N : Nat) (w : World) (e : Ending) (w' : World) : Prop := Below w.heap.size w w' ∧ ∃ l, IsDec l N ∧ e = .returned (.string ⟨l.toArray⟩)
def DText (N V p : Nat) (t : List UInt8) : Prop := (0 < V ∧ t = txt p N ∧ V = N / 10 ^ p) ∨ (V = 0 ∧ IsDec t N)

theorem own64_len {w : World} {B L c : Nat} {a : Option Addr} {zs : List Nat} (h : own64 w B (.slice a L c) zs) (hl : zs.length = L) : own64 w B (.slice a zs.length c) zs := by rw [hl]; exact h
theorem dtext_step {N V p d r j : Nat} {t u : List UInt8} (h : DText N V p t) (hV : 0 < V) (hd : d * 1000000000 + r = V) (hr : r < 1000000000) (hu : u = txt j r) (hj : j ≤ 9) (hlo : 0 < j → 0 < d ∨ 10 ^ (j - 1) ≤ r)
    (hc : ¬ (j < 9 ∧ (0 < d ∨ 0 < r / 10 ^ j))) : DText N d (p + j) (u ++ t) := by
  rcases h with ⟨_, ht, hp⟩ | ⟨h, _⟩
  · have hpp : 0 < 10 ^ p := Nat.pow_pos (by decide)
    rcases Nat.eq_zero_or_pos d with h0 | h0
    · subst h0
      have hrV : r = V := by omega
      have hjp : 0 < j := by
        refine Nat.pos_of_ne_zero fun hj0 => hc ⟨by omega, .inr ?_⟩
        rw [hj0]; simp; omega
      have h1 : 10 ^ (j - 1) ≤ r := (hlo hjp).resolve_left (by omega)
      have h2 : r < 10 ^ j := by
        rcases Nat.lt_or_ge j 9 with h9 | h9
        · refine Nat.lt_of_not_le fun h8 => hc ⟨h9, .inr ?_⟩
          exact Nat.div_pos h8 (Nat.pow_pos (by decide))
        · obtain rfl : j = 9 := by omega
          exact hr
      rw [hrV, hp] at h1 h2
      refine .inr ⟨rfl, ?_⟩
      rw [hu, ht, hrV, hp, ← txt_cat]
      refine isDec_txt (p + j) N (by omega) ?_ ?_
      · rw [show p + j - 1 = (j - 1) + p by omega, Nat.pow_add]
        exact (Nat.le_div_iff_mul_le hpp).1 h1
      · rw [Nat.add_comm p j, Nat.pow_add]
        exact (Nat.div_lt_iff_lt_mul hpp).1 h2
    · obtain rfl : j = 9 := by
        refine Nat.le_antisymm hj (Nat.le_of_not_lt fun h9 => hc ⟨h9, .inl h0⟩)
      refine .inl ⟨h0, ?_, ?_⟩
      · have e : r = V % 10 ^ 9 := by show r = V % 1000000000; omega
        rw [hu, ht, e, txt_mod 9 9 V (Nat.le_refl _), hp, ← txt_cat]
      · rw [Nat.pow_add, ← Nat.div_div_eq_div_mul, ← hp]
        show d = V / 1000000000
        omega
  · omega
theorem dtext_len {N V p len : Nat} {t : List UInt8} (h : DText N V p t) (hV : 0 < V) (hN : N < 4294967296 ^ (2 * len)) (hl : len ≤ 4096) : t.length ≤ 1000000 := by
  rcases h with ⟨_, ht, hp⟩ | ⟨h, _⟩
  · rw [ht, txt_len]
    have h1 : 10 ^ p ≤ N := by
      refine Nat.le_of_not_lt fun h => ?_
      rw [Nat.div_eq_of_lt h] at hp
      omega
    have h2 : 2 ^ p ≤ 10 ^ p := Nat.pow_le_pow_left (by decide) p
    have h3 : (4294967296 : Nat) ^ (2 * len) = 2 ^ (32 * (2 * len)) := by rw [Nat.pow_mul 2 32]
    rw [h3] at hN
    have h4 : 2 ^ p < 2 ^ (32 * (2 * len)) := Nat.lt_of_le_of_lt (Nat.le_trans h2 h1) hN
    have h5 := (Nat.pow_lt_pow_iff_right (by decide : 1 < 2)).1 h4
    omega
  · omega

/-- Two texts of one number are the same. -/
theorem TextTells.one {P : Prop} {n : Nat} {w1 w1' w2 w2' : World} {e1 e2 : Ending} (h1 : TextTells P n w1 e1 w1') (h2 : TextTells P n w2 e2 w2') : e1 = e2 := by
  rcases h1.2 with ⟨a1, rfl⟩ | ⟨a1, l, d1, rfl⟩ <;> rcases h2.2 with ⟨a2, rfl⟩ | ⟨a2, k, d2, rfl⟩
  · rfl
  · exact absurd a2 a1
  · exact absurd a1 a2
  · rw [d1.unique d2]

theorem v32_lt_of_top {xs ys : List Nat} {k : Nat} (bx : Hd xs) (hl : xs.length = ys.length) (hk : k < xs.length) (h : xs.drop (k + 1) = ys.drop (k + 1)) (hlt : at0 xs k < at0 ys k) : v32 xs < v32 ys := by
  rw [v32_at xs k hk, v32_at ys k (by omega), h]
  have h1 := v32_lt (bx.take k)
  rw [List.length_take, Nat.min_eq_left (by omega)] at h1
  generalize v32 (ys.drop (k + 1)) = t
  have h2 : 4294967296 ^ k * (at0 xs k + 4294967296 * t + 1) ≤ 4294967296 ^ k * (at0 ys k + 4294967296 * t) := Nat.mul_le_mul_left _ (by omega)
  rw [Nat.mul_add] at h2
  omega
theorem minus_step {os : List Nat} {k lent l2 a b o S T : Nat} (hl : os.length = k) (hv : v32 os + T = S + 4294967296 ^ k * lent) (ho : o + b + lent = a + 4294967296 * l2) :
    v32 (os ++ [o]) + (T + 4294967296 ^ k * b) = (S + 4294967296 ^ k * a) + 4294967296 ^ (k + 1) * l2 := by
  rw [v32_snoc, hl, Nat.pow_succ]
  have h : 4294967296 ^ k * (o + b + lent) = 4294967296 ^ k * (a + 4294967296 * l2) := by rw [ho]
  rw [Nat.mul_add, Nat.mul_add, Nat.mul_add, ← Nat.mul_assoc] at h
  omega
theorem take_v32_next (ys : List Nat) (k : Nat) : v32 (ys.take (k + 1)) = v32 (ys.take k) + 4294967296 ^ k * at0 ys k := by
  rcases Nat.lt_or_ge k ys.length with h | h
  · exact take_v32_snoc h
  · rw [List.take_of_length_le (by omega), List.take_of_length_le h, at0_out h]; simp
theorem minus_done {os xs ys : List Nat} {k lent : Nat} (hx : xs.length = k) (hy : ys.length ≤ k) (hl : os.length = k) (hb : Hd os) (hle : v32 ys ≤ v32 xs) (hl1 : lent ≤ 1) (hv : v32 os + v32 (ys.take k) = v32 (xs.take k) + 4294967296 ^ k * lent) : v32 os = v32 xs - v32 ys := by
  rw [List.take_of_length_le hy, List.take_of_length_le (by omega)] at hv
  have h1 := v32_lt hb
  rw [hl] at h1
  rcases Nat.eq_zero_or_pos lent with rfl | h
  · omega
  · obtain rfl : lent = 1 := by omega
    omega
theorem little_step {os : List Nat} {k cy c2 a o n S : Nat} (hl : os.length = k) (hv : v32 os + 4294967296 ^ k * cy = S * n) (ho : o + 4294967296 * c2 = a * n + cy) :
    v32 (os ++ [o]) + 4294967296 ^ (k + 1) * c2 = (S + 4294967296 ^ k * a) * n := by
  rw [v32_snoc, hl, Nat.pow_succ, Nat.add_mul]
  have h : 4294967296 ^ k * (o + 4294967296 * c2) = 4294967296 ^ k * (a * n + cy) := by rw [ho]
  rw [Nat.mul_add, Nat.mul_add, ← Nat.mul_assoc, ← Nat.mul_assoc] at h
  omega
/-- The highest digits. -/
theorem surely_mul {V1 V2 P R S t d s : Nat} (hV1 : V1 = R + P * t) (hV2 : V2 = S + P * d) (hS : S < P) (hs : s * (d + 1) ≤ t) : s * V2 ≤ V1 := by
  have h1 : V2 ≤ P * (d + 1) := by rw [Nat.mul_add, Nat.mul_one]; omega
  have h2 : s * V2 ≤ s * (P * (d + 1)) := Nat.mul_le_mul_left _ h1
  have h3 : s * (P * (d + 1)) = P * (s * (d + 1)) := by rw [Nat.mul_left_comm]
  have h4 : P * (s * (d + 1)) ≤ P * t := Nat.mul_le_mul_left _ hs
  omega

theorem v32_top1 {xs : List Nat} {m : Nat} (h : xs.length = m + 1) : v32 xs = v32 (xs.take m) + 4294967296 ^ m * at0 xs m := by
  rw [v32_at xs m (by omega), List.drop_of_length_le (by omega)]; rfl
theorem v32_top2 {xs : List Nat} {m : Nat} (h : xs.length = m + 2) : v32 xs = v32 (xs.take m) + 4294967296 ^ m * (at0 xs m + at0 xs (m + 1) * 4294967296) := by
  rw [v32_at xs m (by omega), drop_v32 (by omega), List.drop_of_length_le (by omega), show v32 ([] : List Nat) = 0 from rfl, Nat.mul_zero, Nat.add_zero, Nat.mul_comm (at0 xs (m + 1))]
theorem surely_ok {V1 V2 P R S t d : Nat} (hV1 : V1 = R + P * t) (hV2 : V2 = S + P * d) (hS : S < P) (hle : V2 ≤ V1) (h0 : 0 < V2) (hlt : V1 < V2 * 4294967296) : 1 ≤ max 1 (t / (d + 1)) ∧ max 1 (t / (d + 1)) < 4294967296 ∧ max 1 (t / (d + 1)) * V2 ≤ V1 := by
  have h1 : max 1 (t / (d + 1)) * V2 ≤ V1 := by
    rcases Nat.le_total 1 (t / (d + 1)) with h | h
    · rw [Nat.max_eq_right h]
      exact surely_mul hV1 hV2 hS (Nat.div_mul_le_self t (d + 1))
    · rw [Nat.max_eq_left h, Nat.one_mul]; exact hle
  refine ⟨Nat.le_max_left _ _, ?_, h1⟩
  apply Decidable.byContradiction
  intro hn
  have h2 : 4294967296 * V2 ≤ max 1 (t / (d + 1)) * V2 := Nat.mul_le_mul_right _ (by omega)
  rw [Nat.mul_comm V2] at hlt
  omega
theorem max_cast (s : Nat) : max (1 : Int) (s : Int) = ((max 1 s : Nat) : Int) := by omega
end Go.Proofs.YtclbjmanmkoikaaDoor
