import Derived.Test.YtaookoejdnkkoaaGreatDoorKFb
import Derived.Test.YtaookoejdnkkoaaGreatDoorKSa
import Derived.Test.YtaookoejdnkkoaaGreatDoorCards
import Derived.Test.YtaookoejdnkkoaaGreatDoorTie
import Derived.ChangeMaps5
import Derived.Deep.DeepHandedRow
import Derived.Deep.RegionHeld3
import Derived.Deep.RegionLaw
import Derived.Deep.RegionWith
import Derived.LaidOnce
import Derived.Laws.Entries
import Derived.Lay
import Derived.Lib.OthersKept
import Derived.OpenShut
import Derived.Outline
import Derived.ProofKit
import Derived.ScopeJumps
import Derived.SevenTiedAt
import Derived.Shelf.RegionOpenPlain
import Derived.Shelf.Spec.TrailingZeros
import Derived.WalkMore
namespace Go.Proofs.YtaookoejdnkkoaaGreatDoor
open Go.RowKit

/-- b to the e, modulo m. -/
def pm : Nat → Nat → Nat → Nat → Nat
  | 0, _, _, m => 1 % m
  | f + 1, b, e, m => if e % 2 = 1 then b * pm f (b * b % m) (e / 2) m % m else pm f (b * b % m) (e / 2) m
theorem pm_eq (m : Nat) : ∀ f b e, e < 2 ^ f → pm f b e m = b ^ e % m
  | 0, b, e, h => by
    obtain rfl : e = 0 := by simp at h; exact h
    rfl
  | f + 1, b, e, h => by
    have h2 : e / 2 < 2 ^ f := by rw [Nat.pow_succ] at h; omega
    have ih := pm_eq m f (b * b % m) (e / 2) h2
    have e1 : (b * b % m) ^ (e / 2) % m = b ^ (2 * (e / 2)) % m := by
      rw [← Nat.pow_mod, ← Nat.pow_two, ← Nat.pow_mul]
    unfold pm
    rw [ih, e1]
    split
    · rename_i ho
      rw [Nat.mul_mod, Nat.mod_mod, ← Nat.mul_mod, ← Nat.pow_succ', show (2 * (e / 2)).succ = e by omega]
    · rw [show 2 * (e / 2) = e by omega]
theorem pigeon : ∀ (N : Nat) (f : Nat → Nat), (∀ i, i < N → f i < N) → (∀ i j, i < N → j < N → f i = f j → i = j) → ∀ y, y < N → ∃ i, i < N ∧ f i = y
  | 0, _, _, _, _, h => absurd h (Nat.not_lt_zero _)
  | N + 1, f, hb, hi, y, hy => by
    have key := pigeon N (fun i => if f i = N then f N else f i) (fun i h => by
      show (if f i = N then f N else f i) < N
      have h1 := hb i (by omega)
      have h2 := hb N (by omega)
      split
      · rename_i h3
        have : f N ≠ N := fun h4 => by have := hi i N (by omega) (by omega) (h3.trans h4.symm); omega
        omega
      · omega) (fun i j h1 h2 h3 => by
      have h3 : (if f i = N then f N else f i) = (if f j = N then f N else f j) := h3
      split at h3 <;> split at h3
      · rename_i a b
        exact hi i j (by omega) (by omega) (a.trans b.symm)
      · have := hi N j (by omega) (by omega) h3; omega
      · have := hi i N (by omega) (by omega) h3; omega
      · exact hi i j (by omega) (by omega) h3)
    have hN := hb N (by omega)
    rcases Nat.lt_or_ge (f N) N with h1 | h1
    · rcases Nat.lt_or_ge y N with h2 | h2
      · obtain ⟨i, h3, h4⟩ := key y h2
        have h4 : (if f i = N then f N else f i) = y := h4
        split at h4
        · exact ⟨N, by omega, h4⟩
        · exact ⟨i, by omega, h4⟩
      · obtain ⟨i, h3, h4⟩ := key (f N) h1
        have h4 : (if f i = N then f N else f i) = f N := h4
        split at h4
        · exact ⟨i, by omega, by omega⟩
        · have := hi i N (by omega) (by omega) h4; omega
    · rcases Nat.lt_or_ge y N with h2 | h2
      · obtain ⟨i, h3, h4⟩ := key y h2
        have h4 : (if f i = N then f N else f i) = y := h4
        split at h4
        · exact ⟨N, by omega, h4⟩
        · exact ⟨i, by omega, h4⟩
      · exact ⟨N, by omega, by omega⟩
theorem ex_pow {g x p : Nat} (h : g ^ x % p = 1 % p) (k : Nat) : g ^ (x * k) % p = 1 % p := by
  rw [Nat.pow_mul, Nat.pow_mod, h, ← Nat.pow_mod, Nat.one_pow]
theorem ex_add {g x y p : Nat} (h : g ^ x % p = 1 % p) : g ^ (x + y) % p = g ^ y % p := by
  rw [Nat.pow_add, Nat.mul_mod, h, ← Nat.mul_mod, Nat.one_mul]
theorem ex_mod {g x y p : Nat} (hx : g ^ x % p = 1 % p) (hy : g ^ y % p = 1 % p) : g ^ (y % x) % p = 1 % p := by
  rw [← hy]
  conv => rhs; rw [← Nat.div_add_mod y x]
  exact (ex_add (ex_pow hx _)).symm
theorem ex_gcd {g p : Nat} (x y : Nat) : g ^ x % p = 1 % p → g ^ y % p = 1 % p → g ^ Nat.gcd x y % p = 1 % p := by
  induction x, y using Nat.gcd.induction with
  | H0 y => intro _ h; rw [Nat.gcd_zero_left]; exact h
  | H1 x y _ ih => intro h1 h2; rw [Nat.gcd_rec]; exact ih (ex_mod h1 h2) h1
/-- Each number that is no multiple of p, to the p - 1, leaves 1. -/
def Fm (p : Nat) : Prop := 1 < p ∧ ∀ a, a % p ≠ 0 → a ^ (p - 1) % p = 1
theorem Fm.cop {p x : Nat} (h : Fm p) (hx : x % p ≠ 0) : Nat.Coprime x p := by
  have h1 := h.2 x hx
  have hp := h.1
  have h2 : x ^ (p - 1) = p * (x ^ (p - 1) / p) + 1 := by have := Nat.div_add_mod (x ^ (p - 1)) p; omega
  have d1 : Nat.gcd x p ∣ x ^ (p - 1) := Nat.dvd_trans (Nat.gcd_dvd_left _ _) (by obtain ⟨r, hr⟩ : ∃ r, p - 1 = r + 1 := ⟨p - 2, by omega⟩
                                                                                  rw [hr, Nat.pow_succ]; exact Nat.dvd_mul_left _ _)
  have d2 : Nat.gcd x p ∣ p * (x ^ (p - 1) / p) := Nat.dvd_trans (Nat.gcd_dvd_right _ _) (Nat.dvd_mul_right _ _)
  rw [h2] at d1
  exact Nat.dvd_one.1 ((Nat.dvd_add_right d2).1 d1)
def AllFm : List (Nat × Nat) → Prop
  | [] => True
  | x :: l => Fm x.1 ∧ AllFm l
def Prd : List (Nat × Nat) → Nat
  | [] => 1
  | x :: l => x.1 ^ x.2 * Prd l
theorem AllFm.mem : ∀ {l : List (Nat × Nat)}, AllFm l → ∀ x ∈ l, Fm x.1
  | [], _, _, h => by cases h
  | y :: l, h, x, hx => by
    rcases List.mem_cons.1 hx with rfl | hx
    · exact h.1
    · exact h.2.mem x hx
theorem cop_prd {m : Nat} : ∀ {l : List (Nat × Nat)}, (∀ x ∈ l, Nat.Coprime m x.1) → Nat.Coprime m (Prd l)
  | [], _ => Nat.coprime_one_right m
  | y :: _, h => Nat.Coprime.mul_right (Nat.Coprime.pow_right _ (h y List.mem_cons_self)) (cop_prd fun x hx => h x (List.mem_cons_of_mem _ hx))
theorem fm_of (p g : Nat) (l : List (Nat × Nat)) (hp : 1 < p) (hb : p < 2 ^ 128) (hl : AllFm l) (hN : Prd l = p - 1) (h1 : pm 128 g (p - 1) p = 1) (hc : l.all (fun x => pm 128 g ((p - 1) / x.1) p != 1) = true) : Fm p := by
  have hone : 1 % p = 1 := Nat.mod_eq_of_lt hp
  rw [pm_eq p 128 g (p - 1) (by omega)] at h1
  have hc' : ∀ x ∈ l, g ^ ((p - 1) / x.1) % p ≠ 1 := fun x hx => by
    have h2 := List.all_eq_true.1 hc x hx
    rw [pm_eq p 128 g ((p - 1) / x.1) (Nat.lt_of_le_of_lt (Nat.div_le_self _ _) (by omega))] at h2
    simpa using h2
  clear hc hb
  obtain ⟨N, hNN⟩ : ∃ N, p - 1 = N := ⟨_, rfl⟩
  rw [hNN] at h1 hc' hN
  have ord : ∀ d, 0 < d → d < N → g ^ d % p ≠ 1 := by
    intro d h0 hd he
    have e1 := ex_gcd d N (he.trans hone.symm) (h1.trans hone.symm)
    obtain ⟨k, hk⟩ := Nat.gcd_dvd_right d N
    have e2 : Nat.gcd d N ≤ d := Nat.gcd_le_left _ h0
    generalize Nat.gcd d N = e at *
    have hk1 : k ≠ 1 := fun h => by rw [h, Nat.mul_one] at hk; omega
    by_cases hex : ∃ x ∈ l, k % x.1 = 0
    · obtain ⟨x, hx, hm⟩ := hex
      obtain ⟨j, hj⟩ := Nat.dvd_of_mod_eq_zero hm
      have hx1 := (hl.mem x hx).1
      refine hc' x hx ?_
      rw [hk, hj, ← Nat.mul_assoc, Nat.mul_comm e x.1, Nat.mul_assoc, Nat.mul_div_cancel_left _ (by omega)]
      exact (ex_pow e1 j).trans hone
    · have h3 : Nat.Coprime k (Prd l) := cop_prd fun x hx => (hl.mem x hx).cop fun h => hex ⟨x, hx, h⟩
      rw [hN, hk] at h3
      have h4 : k ∣ 1 := by rw [← h3]; exact Nat.dvd_gcd (Nat.dvd_refl _) (Nat.dvd_mul_left _ _)
      exact hk1 (Nat.dvd_one.1 h4)
  have hnz : ∀ i, i ≤ N → g ^ i % p ≠ 0 := fun i hi h => by
    have e : g ^ N = g ^ i * g ^ (N - i) := by rw [← Nat.pow_add, show i + (N - i) = N by omega]
    rw [e, Nat.mul_mod, h, Nat.zero_mul, Nat.zero_mod] at h1
    omega
  have hinj : ∀ i j, i < j → j < N → g ^ i % p ≠ g ^ j % p := fun i j hij hj h => by
    have e1 : g ^ (N - i + i) % p = g ^ (N - i + j) % p := by rw [Nat.pow_add, Nat.mul_mod, h, ← Nat.mul_mod, ← Nat.pow_add]
    rw [show N - i + i = N by omega, show N - i + j = N + (j - i) by omega, ex_add (h1.trans hone.symm), h1] at e1
    exact ord (j - i) (by omega) (by omega) e1.symm
  refine ⟨hp, fun a ha => ?_⟩
  rw [hNN]
  have hlt : a % p < p := Nat.mod_lt _ (by omega)
  obtain ⟨i, hi, he⟩ := pigeon N (fun i => g ^ i % p - 1) (fun i hi => by
    show g ^ i % p - 1 < N
    have h2 := hnz i (by omega)
    have h3 : g ^ i % p < p := Nat.mod_lt _ (by omega)
    omega) (fun i j h2 h3 h4 => by
    have h4 : g ^ i % p - 1 = g ^ j % p - 1 := h4
    have h5 := hnz i (by omega)
    have h6 := hnz j (by omega)
    rcases Nat.lt_trichotomy i j with h | h | h
    · exact absurd (show g ^ i % p = g ^ j % p by omega) (hinj i j h h3)
    · exact h
    · exact absurd (show g ^ j % p = g ^ i % p by omega) (hinj j i h h2)) (a % p - 1) (by omega)
  have he : g ^ i % p - 1 = a % p - 1 := he
  have h2 := hnz i (by omega)
  have h3 : a % p = g ^ i % p := by omega
  rw [Nat.pow_mod, h3, ← Nat.pow_mod, ← Nat.pow_mul, Nat.mul_comm, ex_pow (h1.trans hone.symm), hone]
theorem fm_2 : Fm 2 := ⟨by decide, fun a h => by rw [show 2 - 1 = 1 from rfl, Nat.pow_one]; omega⟩
theorem fm_3 : Fm 3 := fm_of 3 2 [(2, 1)] (by decide) (by decide) ⟨fm_2, trivial⟩ (by decide +kernel) (by decide +kernel) (by decide +kernel)
theorem fm_5 : Fm 5 := fm_of 5 2 [(2, 2)] (by decide) (by decide) ⟨fm_2, trivial⟩ (by decide +kernel) (by decide +kernel) (by decide +kernel)
theorem fm_7 : Fm 7 := fm_of 7 3 [(2, 1), (3, 1)] (by decide) (by decide) ⟨fm_2, fm_3, trivial⟩ (by decide +kernel) (by decide +kernel) (by decide +kernel)
theorem fm_11 : Fm 11 := fm_of 11 2 [(2, 1), (5, 1)] (by decide) (by decide) ⟨fm_2, fm_5, trivial⟩ (by decide +kernel) (by decide +kernel) (by decide +kernel)
theorem fm_13 : Fm 13 := fm_of 13 2 [(2, 2), (3, 1)] (by decide) (by decide) ⟨fm_2, fm_3, trivial⟩ (by decide +kernel) (by decide +kernel) (by decide +kernel)
theorem fm_31 : Fm 31 := fm_of 31 3 [(2, 1), (3, 1), (5, 1)] (by decide) (by decide) ⟨fm_2, fm_3, fm_5, trivial⟩ (by decide +kernel) (by decide +kernel) (by decide +kernel)
theorem fm_41 : Fm 41 := fm_of 41 6 [(2, 3), (5, 1)] (by decide) (by decide) ⟨fm_2, fm_5, trivial⟩ (by decide +kernel) (by decide +kernel) (by decide +kernel)
theorem fm_61 : Fm 61 := fm_of 61 2 [(2, 2), (3, 1), (5, 1)] (by decide) (by decide) ⟨fm_2, fm_3, fm_5, trivial⟩ (by decide +kernel) (by decide +kernel) (by decide +kernel)
theorem fm_331 : Fm 331 := fm_of 331 3 [(2, 1), (3, 1), (5, 1), (11, 1)] (by decide) (by decide) ⟨fm_2, fm_3, fm_5, fm_11, trivial⟩ (by decide +kernel) (by decide +kernel) (by decide +kernel)
theorem fm_17 : Fm 17 := fm_of 17 3 [(2, 4)] (by decide) (by decide) ⟨fm_2, trivial⟩ (by decide +kernel) (by decide +kernel) (by decide +kernel)
theorem fm_137 : Fm 137 := fm_of 137 3 [(2, 3), (17, 1)] (by decide) (by decide) ⟨fm_2, fm_17, trivial⟩ (by decide +kernel) (by decide +kernel) (by decide +kernel)
theorem fm_23 : Fm 23 := fm_of 23 5 [(2, 1), (11, 1)] (by decide) (by decide) ⟨fm_2, fm_11, trivial⟩ (by decide +kernel) (by decide +kernel) (by decide +kernel)
theorem fm_71 : Fm 71 := fm_of 71 7 [(2, 1), (5, 1), (7, 1)] (by decide) (by decide) ⟨fm_2, fm_5, fm_7, trivial⟩ (by decide +kernel) (by decide +kernel) (by decide +kernel)
theorem fm_73 : Fm 73 := fm_of 73 5 [(2, 3), (3, 2)] (by decide) (by decide) ⟨fm_2, fm_3, trivial⟩ (by decide +kernel) (by decide +kernel) (by decide +kernel)
theorem fm_19 : Fm 19 := fm_of 19 2 [(2, 1), (3, 2)] (by decide) (by decide) ⟨fm_2, fm_3, trivial⟩ (by decide +kernel) (by decide +kernel) (by decide +kernel)
theorem fm_43 : Fm 43 := fm_of 43 3 [(2, 1), (3, 1), (7, 1)] (by decide) (by decide) ⟨fm_2, fm_3, fm_7, trivial⟩ (by decide +kernel) (by decide +kernel) (by decide +kernel)
theorem fm_127 : Fm 127 := fm_of 127 3 [(2, 1), (3, 2), (7, 1)] (by decide) (by decide) ⟨fm_2, fm_3, fm_7, trivial⟩ (by decide +kernel) (by decide +kernel) (by decide +kernel)
end Go.Proofs.YtaookoejdnkkoaaGreatDoor
