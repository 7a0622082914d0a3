import Derived.Test.YtaookoejdnkkoaaGreatDoorKNLaws
import Derived.Test.YtaookoejdnkkoaaGreatDoorKModP
namespace Go.Proofs.YtaookoejdnkkoaaGreatDoor
open Go.RowKit

/-- Pratt's certificate, of numbers below 2^f. -/
theorem fm_f (f p g : Nat) (l : List (Nat × Nat)) (hp : 1 < p) (hb : p < 2 ^ f) (hl : AllFm l) (hN : Prd l = p - 1) (h1 : pm f g (p - 1) p = 1) (hc : l.all (fun x => pm f g ((p - 1) / x.1) p != 1) = true) : Fm p := by
  have hone : 1 % p = 1 := Nat.mod_eq_of_lt hp
  rw [pm_eq p f g (p - 1) (by omega)] at h1
  have hc' : ∀ x ∈ l, g ^ ((p - 1) / x.1) % p ≠ 1 := fun x hx => by
    have h2 := List.all_eq_true.1 hc x hx
    rw [pm_eq p f g ((p - 1) / x.1) (Nat.lt_of_le_of_lt (Nat.div_le_self _ _) (by omega))] at h2
    simpa using h2
  clear hc hb
  obtain ⟨N, hNN⟩ : ∃ N, p - 1 = N := ⟨_, rfl⟩
  rw [hNN] at h1 hc' hN
  have ord : ∀ d, 0 < d → d < N → g ^ d % p ≠ 1 := by
    intro d h0 hd he
    have e1 := ex_gcd d N (he.trans hone.symm) (h1.trans hone.symm)
    obtain ⟨k, hk⟩ := Nat.gcd_dvd_right d N
    have e2 : Nat.gcd d N ≤ d := Nat.gcd_le_left _ h0
    generalize Nat.gcd d N = e at *
    have hk1 : k ≠ 1 := fun h => by rw [h, Nat.mul_one] at hk; omega
    by_cases hex : ∃ x ∈ l, k % x.1 = 0
    · obtain ⟨x, hx, hm⟩ := hex
      obtain ⟨j, hj⟩ := Nat.dvd_of_mod_eq_zero hm
      have hx1 := (hl.mem x hx).1
      refine hc' x hx ?_
      rw [hk, hj, ← Nat.mul_assoc, Nat.mul_comm e x.1, Nat.mul_assoc, Nat.mul_div_cancel_left _ (by omega)]
      exact (ex_pow e1 j).trans hone
    · have h3 : Nat.Coprime k (Prd l) := cop_prd fun x hx => (hl.mem x hx).cop fun h => hex ⟨x, hx, h⟩
      rw [hN, hk] at h3
      have h4 : k ∣ 1 := by rw [← h3]; exact Nat.dvd_gcd (Nat.dvd_refl _) (Nat.dvd_mul_left _ _)
      exact hk1 (Nat.dvd_one.1 h4)
  have hnz : ∀ i, i ≤ N → g ^ i % p ≠ 0 := fun i hi h => by
    have e : g ^ N = g ^ i * g ^ (N - i) := by rw [← Nat.pow_add, show i + (N - i) = N by omega]
    rw [e, Nat.mul_mod, h, Nat.zero_mul, Nat.zero_mod] at h1
    omega
  have hinj : ∀ i j, i < j → j < N → g ^ i % p ≠ g ^ j % p := fun i j hij hj h => by
    have e1 : g ^ (N - i + i) % p = g ^ (N - i + j) % p := by rw [Nat.pow_add, Nat.mul_mod, h, ← Nat.mul_mod, ← Nat.pow_add]
    rw [show N - i + i = N by omega, show N - i + j = N + (j - i) by omega, ex_add (h1.trans hone.symm), h1] at e1
    exact ord (j - i) (by omega) (by omega) e1.symm
  refine ⟨hp, fun a ha => ?_⟩
  rw [hNN]
  have hlt : a % p < p := Nat.mod_lt _ (by omega)
  obtain ⟨i, hi, he⟩ := pigeon N (fun i => g ^ i % p - 1) (fun i hi => by
    show g ^ i % p - 1 < N
    have h2 := hnz i (by omega)
    have h3 : g ^ i % p < p := Nat.mod_lt _ (by omega)
    omega) (fun i j h2 h3 h4 => by
    have h4 : g ^ i % p - 1 = g ^ j % p - 1 := h4
    have h5 := hnz i (by omega)
    have h6 := hnz j (by omega)
    rcases Nat.lt_trichotomy i j with h | h | h
    · exact absurd (show g ^ i % p = g ^ j % p by omega) (hinj i j h h3)
    · exact h
    · exact absurd (show g ^ j % p = g ^ i % p by omega) (hinj j i h h2)) (a % p - 1) (by omega)
  have he : g ^ i % p - 1 = a % p - 1 := he
  have h2 := hnz i (by omega)
  have h3 : a % p = g ^ i % p := by omega
  rw [Nat.pow_mod, h3, ← Nat.pow_mod, ← Nat.pow_mul, Nat.mul_comm, ex_pow (h1.trans hone.symm), hone]
theorem back_mod {p k : Nat} (h : Fm p) (hk : k % (p - 1) = 1) (x : Nat) : x ^ k % p = x % p := by
  have e : k = (p - 1) * (k / (p - 1)) + 1 := by have := Nat.div_add_mod k (p - 1); omega
  by_cases hx : x % p = 0
  · rw [e, Nat.pow_succ, Nat.mul_mod, hx, Nat.mul_zero, Nat.zero_mod]
  · rw [e, Nat.pow_succ, Nat.pow_mul, Nat.mul_mod, Nat.pow_mod, h.2 x hx, Nat.one_pow, ← Nat.mul_mod, Nat.one_mul]
theorem dvd_of_mods {p a b : Nat} (h : a % p = b % p) (_hl : b ≤ a) : p ∣ a - b := Nat.dvd_of_mod_eq_zero (Nat.sub_mod_eq_zero_of_mod_eq h)
theorem back_of {p q k : Nat} (hp : Fm p) (hq : Fm q) (hc : Nat.gcd p q = 1) (h1 : k % (p - 1) = 1) (h2 : k % (q - 1) = 1) (h0 : 0 < k) (x : Nat) : x ^ k % (p * q) = x % (p * q) := by
  have hl : x ≤ x ^ k := by
    rcases Nat.eq_zero_or_pos x with rfl | h
    · exact Nat.zero_le _
    · obtain ⟨m, rfl⟩ : ∃ m, k = m + 1 := ⟨k - 1, by omega⟩
      rw [Nat.pow_succ]
      exact Nat.le_mul_of_pos_left _ (Nat.pow_pos h)
  have d := Nat.Coprime.mul_dvd_of_dvd_of_dvd hc (dvd_of_mods (back_mod hp h1 x) hl) (dvd_of_mods (back_mod hq h2 x) hl)
  obtain ⟨r, hr⟩ := d
  have e : x ^ k = x + p * q * r := by omega
  rw [e, Nat.add_mul_mod_self_left]
theorem fm_131 : Fm 131 := fm_f 256 131 2 [(2, 1), (5, 1), (13, 1)] (by decide) (by decide +kernel) ⟨fm_2, fm_5, fm_13, trivial⟩ (by decide +kernel) (by decide +kernel) (by decide +kernel)
theorem fm_1049 : Fm 1049 := fm_f 256 1049 3 [(2, 3), (131, 1)] (by decide) (by decide +kernel) ⟨fm_2, fm_131, trivial⟩ (by decide +kernel) (by decide +kernel) (by decide +kernel)
theorem fm_1597 : Fm 1597 := fm_f 256 1597 11 [(2, 2), (3, 1), (7, 1), (19, 1)] (by decide) (by decide +kernel) ⟨fm_2, fm_3, fm_7, fm_19, trivial⟩ (by decide +kernel) (by decide +kernel) (by decide +kernel)
theorem fm_15971 : Fm 15971 := fm_f 256 15971 2 [(2, 1), (5, 1), (1597, 1)] (by decide) (by decide +kernel) ⟨fm_2, fm_5, fm_1597, trivial⟩ (by decide +kernel) (by decide +kernel) (by decide +kernel)
theorem fm_733 : Fm 733 := fm_f 256 733 6 [(2, 2), (3, 1), (61, 1)] (by decide) (by decide +kernel) ⟨fm_2, fm_3, fm_61, trivial⟩ (by decide +kernel) (by decide +kernel) (by decide +kernel)
theorem fm_930911 : Fm 930911 := fm_f 256 930911 7 [(2, 1), (5, 1), (127, 1), (733, 1)] (by decide) (by decide +kernel) ⟨fm_2, fm_5, fm_127, fm_733, trivial⟩ (by decide +kernel) (by decide +kernel) (by decide +kernel)
theorem fm_624438342403 : Fm 624438342403 := fm_f 256 624438342403 2 [(2, 1), (3, 1), (7, 1), (15971, 1), (930911, 1)] (by decide) (by decide +kernel) ⟨fm_2, fm_3, fm_7, fm_15971, fm_930911, trivial⟩ (by decide +kernel) (by decide +kernel) (by decide +kernel)
theorem fm_89 : Fm 89 := fm_f 256 89 3 [(2, 3), (11, 1)] (by decide) (by decide +kernel) ⟨fm_2, fm_11, trivial⟩ (by decide +kernel) (by decide +kernel) (by decide +kernel)
theorem fm_179 : Fm 179 := fm_f 256 179 2 [(2, 1), (89, 1)] (by decide) (by decide +kernel) ⟨fm_2, fm_89, trivial⟩ (by decide +kernel) (by decide +kernel) (by decide +kernel)
theorem fm_1327 : Fm 1327 := fm_f 256 1327 3 [(2, 1), (3, 1), (13, 1), (17, 1)] (by decide) (by decide +kernel) ⟨fm_2, fm_3, fm_13, fm_17, trivial⟩ (by decide +kernel) (by decide +kernel) (by decide +kernel)
theorem fm_293 : Fm 293 := fm_f 256 293 2 [(2, 2), (73, 1)] (by decide) (by decide +kernel) ⟨fm_2, fm_73, trivial⟩ (by decide +kernel) (by decide +kernel) (by decide +kernel)
theorem fm_1759 : Fm 1759 := fm_f 256 1759 6 [(2, 1), (3, 1), (293, 1)] (by decide) (by decide +kernel) ⟨fm_2, fm_3, fm_293, trivial⟩ (by decide +kernel) (by decide +kernel) (by decide +kernel)
theorem fm_49253 : Fm 49253 := fm_f 256 49253 2 [(2, 2), (7, 1), (1759, 1)] (by decide) (by decide +kernel) ⟨fm_2, fm_7, fm_1759, trivial⟩ (by decide +kernel) (by decide +kernel) (by decide +kernel)
theorem fm_1193319710599 : Fm 1193319710599 := fm_f 256 1193319710599 3 [(2, 1), (3, 1), (17, 1), (179, 1), (1327, 1), (49253, 1)] (by decide) (by decide +kernel) ⟨fm_2, fm_3, fm_17, fm_179, fm_1327, fm_49253, trivial⟩ (by decide +kernel) (by decide +kernel) (by decide +kernel)
theorem fm_257 : Fm 257 := fm_f 256 257 3 [(2, 8)] (by decide) (by decide +kernel) ⟨fm_2, trivial⟩ (by decide +kernel) (by decide +kernel) (by decide +kernel)
theorem fm_661 : Fm 661 := fm_f 256 661 2 [(2, 2), (3, 1), (5, 1), (11, 1)] (by decide) (by decide +kernel) ⟨fm_2, fm_3, fm_5, fm_11, trivial⟩ (by decide +kernel) (by decide +kernel) (by decide +kernel)
theorem fm_29 : Fm 29 := fm_f 256 29 2 [(2, 2), (7, 1)] (by decide) (by decide +kernel) ⟨fm_2, fm_7, trivial⟩ (by decide +kernel) (by decide +kernel) (by decide +kernel)
theorem fm_59 : Fm 59 := fm_f 256 59 2 [(2, 1), (29, 1)] (by decide) (by decide +kernel) ⟨fm_2, fm_29, trivial⟩ (by decide +kernel) (by decide +kernel) (by decide +kernel)
theorem fm_1181 : Fm 1181 := fm_f 256 1181 7 [(2, 2), (5, 1), (59, 1)] (by decide) (by decide +kernel) ⟨fm_2, fm_5, fm_59, trivial⟩ (by decide +kernel) (by decide +kernel) (by decide +kernel)
theorem fm_14173 : Fm 14173 := fm_f 256 14173 2 [(2, 2), (3, 1), (1181, 1)] (by decide) (by decide +kernel) ⟨fm_2, fm_3, fm_1181, trivial⟩ (by decide +kernel) (by decide +kernel) (by decide +kernel)
theorem fm_40699 : Fm 40699 := fm_f 256 40699 2 [(2, 1), (3, 2), (7, 1), (17, 1), (19, 1)] (by decide) (by decide +kernel) ⟨fm_2, fm_3, fm_7, fm_17, fm_19, trivial⟩ (by decide +kernel) (by decide +kernel) (by decide +kernel)
theorem fm_11884109 : Fm 11884109 := fm_f 256 11884109 2 [(2, 2), (73, 1), (40699, 1)] (by decide) (by decide +kernel) ⟨fm_2, fm_73, fm_40699, trivial⟩ (by decide +kernel) (by decide +kernel) (by decide +kernel)
theorem fm_114451894992146357 : Fm 114451894992146357 := fm_f 256 114451894992146357 2 [(2, 2), (257, 1), (661, 1), (14173, 1), (11884109, 1)] (by decide) (by decide +kernel) ⟨fm_2, fm_257, fm_661, fm_14173, fm_11884109, trivial⟩ (by decide +kernel) (by decide +kernel) (by decide +kernel)
theorem fm_37 : Fm 37 := fm_f 256 37 2 [(2, 2), (3, 2)] (by decide) (by decide +kernel) ⟨fm_2, fm_3, trivial⟩ (by decide +kernel) (by decide +kernel) (by decide +kernel)
theorem fm_593 : Fm 593 := fm_f 256 593 3 [(2, 4), (37, 1)] (by decide) (by decide +kernel) ⟨fm_2, fm_37, trivial⟩ (by decide +kernel) (by decide +kernel) (by decide +kernel)
theorem fm_1187 : Fm 1187 := fm_f 256 1187 2 [(2, 1), (593, 1)] (by decide) (by decide +kernel) ⟨fm_2, fm_593, trivial⟩ (by decide +kernel) (by decide +kernel) (by decide +kernel)
theorem fm_67 : Fm 67 := fm_f 256 67 2 [(2, 1), (3, 1), (11, 1)] (by decide) (by decide +kernel) ⟨fm_2, fm_3, fm_11, trivial⟩ (by decide +kernel) (by decide +kernel) (by decide +kernel)
theorem fm_1877 : Fm 1877 := fm_f 256 1877 2 [(2, 2), (7, 1), (67, 1)] (by decide) (by decide +kernel) ⟨fm_2, fm_7, fm_67, trivial⟩ (by decide +kernel) (by decide +kernel) (by decide +kernel)
theorem fm_367 : Fm 367 := fm_f 256 367 6 [(2, 1), (3, 1), (61, 1)] (by decide) (by decide +kernel) ⟨fm_2, fm_3, fm_61, trivial⟩ (by decide +kernel) (by decide +kernel) (by decide +kernel)
theorem fm_317089 : Fm 317089 := fm_f 256 317089 17 [(2, 5), (3, 3), (367, 1)] (by decide) (by decide +kernel) ⟨fm_2, fm_3, fm_367, trivial⟩ (by decide +kernel) (by decide +kernel) (by decide +kernel)
theorem fm_443 : Fm 443 := fm_f 256 443 2 [(2, 1), (13, 1), (17, 1)] (by decide) (by decide +kernel) ⟨fm_2, fm_13, fm_17, trivial⟩ (by decide +kernel) (by decide +kernel) (by decide +kernel)
theorem fm_149 : Fm 149 := fm_f 256 149 2 [(2, 2), (37, 1)] (by decide) (by decide +kernel) ⟨fm_2, fm_37, trivial⟩ (by decide +kernel) (by decide +kernel) (by decide +kernel)
theorem fm_1789 : Fm 1789 := fm_f 256 1789 6 [(2, 2), (3, 1), (149, 1)] (by decide) (by decide +kernel) ⟨fm_2, fm_3, fm_149, trivial⟩ (by decide +kernel) (by decide +kernel) (by decide +kernel)
theorem fm_2281 : Fm 2281 := fm_f 256 2281 7 [(2, 3), (3, 1), (5, 1), (19, 1)] (by decide) (by decide +kernel) ⟨fm_2, fm_3, fm_5, fm_19, trivial⟩ (by decide +kernel) (by decide +kernel) (by decide +kernel)
theorem fm_136861 : Fm 136861 := fm_f 256 136861 11 [(2, 2), (3, 1), (5, 1), (2281, 1)] (by decide) (by decide +kernel) ⟨fm_2, fm_3, fm_5, fm_2281, trivial⟩ (by decide +kernel) (by decide +kernel) (by decide +kernel)
theorem fm_59439388685357 : Fm 59439388685357 := fm_f 256 59439388685357 2 [(2, 2), (137, 1), (443, 1), (1789, 1), (136861, 1)] (by decide) (by decide +kernel) ⟨fm_2, fm_137, fm_443, fm_1789, fm_136861, trivial⟩ (by decide +kernel) (by decide +kernel) (by decide +kernel)
theorem fm_386950420341674071 : Fm 386950420341674071 := fm_f 256 386950420341674071 7 [(2, 1), (3, 1), (5, 1), (7, 1), (31, 1), (59439388685357, 1)] (by decide) (by decide +kernel) ⟨fm_2, fm_3, fm_5, fm_7, fm_31, fm_59439388685357, trivial⟩ (by decide +kernel) (by decide +kernel) (by decide +kernel)
theorem fm_8201112046567942550501796980431 : Fm 8201112046567942550501796980431 := fm_f 256 8201112046567942550501796980431 11 [(2, 1), (3, 1), (5, 1), (1187, 1), (1877, 1), (317089, 1), (386950420341674071, 1)] (by decide) (by decide +kernel) ⟨fm_2, fm_3, fm_5, fm_1187, fm_1877, fm_317089, fm_386950420341674071, trivial⟩ (by decide +kernel) (by decide +kernel) (by decide +kernel)
theorem fm_99782988299734809637791229454575760281924558990467930153398648286378909270137 : Fm 99782988299734809637791229454575760281924558990467930153398648286378909270137 := fm_f 256 99782988299734809637791229454575760281924558990467930153398648286378909270137 3 [(2, 3), (17, 1), (1049, 1), (624438342403, 1), (1193319710599, 1), (114451894992146357, 1), (8201112046567942550501796980431, 1)] (by decide) (by decide +kernel) ⟨fm_2, fm_17, fm_1049, fm_624438342403, fm_1193319710599, fm_114451894992146357, fm_8201112046567942550501796980431, trivial⟩ (by decide +kernel) (by decide +kernel) (by decide +kernel)
theorem fm_359 : Fm 359 := fm_f 256 359 7 [(2, 1), (179, 1)] (by decide) (by decide +kernel) ⟨fm_2, fm_179, trivial⟩ (by decide +kernel) (by decide +kernel) (by decide +kernel)
theorem fm_181 : Fm 181 := fm_f 256 181 2 [(2, 2), (3, 2), (5, 1)] (by decide) (by decide +kernel) ⟨fm_2, fm_3, fm_5, trivial⟩ (by decide +kernel) (by decide +kernel) (by decide +kernel)
theorem fm_439 : Fm 439 := fm_f 256 439 15 [(2, 1), (3, 1), (73, 1)] (by decide) (by decide +kernel) ⟨fm_2, fm_3, fm_73, trivial⟩ (by decide +kernel) (by decide +kernel) (by decide +kernel)
theorem fm_103 : Fm 103 := fm_f 256 103 5 [(2, 1), (3, 1), (17, 1)] (by decide) (by decide +kernel) ⟨fm_2, fm_3, fm_17, trivial⟩ (by decide +kernel) (by decide +kernel) (by decide +kernel)
theorem fm_101 : Fm 101 := fm_f 256 101 2 [(2, 2), (5, 2)] (by decide) (by decide +kernel) ⟨fm_2, fm_5, trivial⟩ (by decide +kernel) (by decide +kernel) (by decide +kernel)
theorem fm_281 : Fm 281 := fm_f 256 281 3 [(2, 3), (5, 1), (7, 1)] (by decide) (by decide +kernel) ⟨fm_2, fm_5, fm_7, trivial⟩ (by decide +kernel) (by decide +kernel) (by decide +kernel)
theorem fm_563 : Fm 563 := fm_f 256 563 2 [(2, 1), (281, 1)] (by decide) (by decide +kernel) ⟨fm_2, fm_281, trivial⟩ (by decide +kernel) (by decide +kernel) (by decide +kernel)
theorem fm_11261 : Fm 11261 := fm_f 256 11261 2 [(2, 2), (5, 1), (563, 1)] (by decide) (by decide +kernel) ⟨fm_2, fm_5, fm_563, trivial⟩ (by decide +kernel) (by decide +kernel) (by decide +kernel)
theorem fm_45569 : Fm 45569 := fm_f 256 45569 3 [(2, 9), (89, 1)] (by decide) (by decide +kernel) ⟨fm_2, fm_89, trivial⟩ (by decide +kernel) (by decide +kernel) (by decide +kernel)
theorem fm_103656806819 : Fm 103656806819 := fm_f 256 103656806819 2 [(2, 1), (101, 1), (11261, 1), (45569, 1)] (by decide) (by decide +kernel) ⟨fm_2, fm_101, fm_11261, fm_45569, trivial⟩ (by decide +kernel) (by decide +kernel) (by decide +kernel)
theorem fm_2551 : Fm 2551 := fm_f 256 2551 6 [(2, 1), (3, 1), (5, 2), (17, 1)] (by decide) (by decide +kernel) ⟨fm_2, fm_3, fm_5, fm_17, trivial⟩ (by decide +kernel) (by decide +kernel) (by decide +kernel)
theorem fm_1871 : Fm 1871 := fm_f 256 1871 14 [(2, 1), (5, 1), (11, 1), (17, 1)] (by decide) (by decide +kernel) ⟨fm_2, fm_5, fm_11, fm_17, trivial⟩ (by decide +kernel) (by decide +kernel) (by decide +kernel)
theorem fm_48647 : Fm 48647 := fm_f 256 48647 5 [(2, 1), (13, 1), (1871, 1)] (by decide) (by decide +kernel) ⟨fm_2, fm_13, fm_1871, trivial⟩ (by decide +kernel) (by decide +kernel) (by decide +kernel)
theorem fm_8269991 : Fm 8269991 := fm_f 256 8269991 11 [(2, 1), (5, 1), (17, 1), (48647, 1)] (by decide) (by decide +kernel) ⟨fm_2, fm_5, fm_17, fm_48647, trivial⟩ (by decide +kernel) (by decide +kernel) (by decide +kernel)
theorem fm_126580482247 : Fm 126580482247 := fm_f 256 126580482247 3 [(2, 1), (3, 1), (2551, 1), (8269991, 1)] (by decide) (by decide +kernel) ⟨fm_2, fm_3, fm_2551, fm_8269991, trivial⟩ (by decide +kernel) (by decide +kernel) (by decide +kernel)
theorem fm_67572782265965660917808951 : Fm 67572782265965660917808951 := fm_f 256 67572782265965660917808951 19 [(2, 1), (5, 2), (103, 1), (103656806819, 1), (126580482247, 1)] (by decide) (by decide +kernel) ⟨fm_2, fm_5, fm_103, fm_103656806819, fm_126580482247, trivial⟩ (by decide +kernel) (by decide +kernel) (by decide +kernel)
theorem fm_150822450017635355168549578633 : Fm 150822450017635355168549578633 := fm_f 256 150822450017635355168549578633 10 [(2, 3), (3, 2), (31, 1), (67572782265965660917808951, 1)] (by decide) (by decide +kernel) ⟨fm_2, fm_3, fm_31, fm_67572782265965660917808951, trivial⟩ (by decide +kernel) (by decide +kernel) (by decide +kernel)
theorem fm_47936804223805150745351123874398189 : Fm 47936804223805150745351123874398189 := fm_f 256 47936804223805150745351123874398189 2 [(2, 2), (181, 1), (439, 1), (150822450017635355168549578633, 1)] (by decide) (by decide +kernel) ⟨fm_2, fm_181, fm_439, fm_150822450017635355168549578633, trivial⟩ (by decide +kernel) (by decide +kernel) (by decide +kernel)
theorem fm_83 : Fm 83 := fm_f 256 83 2 [(2, 1), (41, 1)] (by decide) (by decide +kernel) ⟨fm_2, fm_41, trivial⟩ (by decide +kernel) (by decide +kernel) (by decide +kernel)
theorem fm_167 : Fm 167 := fm_f 256 167 5 [(2, 1), (83, 1)] (by decide) (by decide +kernel) ⟨fm_2, fm_83, trivial⟩ (by decide +kernel) (by decide +kernel) (by decide +kernel)
theorem fm_463 : Fm 463 := fm_f 256 463 3 [(2, 1), (3, 1), (7, 1), (11, 1)] (by decide) (by decide +kernel) ⟨fm_2, fm_3, fm_7, fm_11, trivial⟩ (by decide +kernel) (by decide +kernel) (by decide +kernel)
theorem fm_499 : Fm 499 := fm_f 256 499 7 [(2, 1), (3, 1), (83, 1)] (by decide) (by decide +kernel) ⟨fm_2, fm_3, fm_83, trivial⟩ (by decide +kernel) (by decide +kernel) (by decide +kernel)
theorem fm_534619619 : Fm 534619619 := fm_f 256 534619619 2 [(2, 1), (13, 1), (89, 1), (463, 1), (499, 1)] (by decide) (by decide +kernel) ⟨fm_2, fm_13, fm_89, fm_463, fm_499, trivial⟩ (by decide +kernel) (by decide +kernel) (by decide +kernel)
theorem fm_1069239239 : Fm 1069239239 := fm_f 256 1069239239 17 [(2, 1), (534619619, 1)] (by decide) (by decide +kernel) ⟨fm_2, fm_534619619, trivial⟩ (by decide +kernel) (by decide +kernel) (by decide +kernel)
theorem fm_1357435568044627 : Fm 1357435568044627 := fm_f 256 1357435568044627 2 [(2, 1), (3, 1), (7, 1), (167, 1), (181, 1), (1069239239, 1)] (by decide) (by decide +kernel) ⟨fm_2, fm_3, fm_7, fm_167, fm_181, fm_1069239239, trivial⟩ (by decide +kernel) (by decide +kernel) (by decide +kernel)
theorem fm_109 : Fm 109 := fm_f 256 109 6 [(2, 2), (3, 3)] (by decide) (by decide +kernel) ⟨fm_2, fm_3, trivial⟩ (by decide +kernel) (by decide +kernel) (by decide +kernel)
theorem fm_7753 : Fm 7753 := fm_f 256 7753 10 [(2, 3), (3, 1), (17, 1), (19, 1)] (by decide) (by decide +kernel) ⟨fm_2, fm_3, fm_17, fm_19, trivial⟩ (by decide +kernel) (by decide +kernel) (by decide +kernel)
theorem fm_233 : Fm 233 := fm_f 256 233 3 [(2, 3), (29, 1)] (by decide) (by decide +kernel) ⟨fm_2, fm_29, trivial⟩ (by decide +kernel) (by decide +kernel) (by decide +kernel)
theorem fm_1399 : Fm 1399 := fm_f 256 1399 13 [(2, 1), (3, 1), (233, 1)] (by decide) (by decide +kernel) ⟨fm_2, fm_3, fm_233, trivial⟩ (by decide +kernel) (by decide +kernel) (by decide +kernel)
theorem fm_4043111 : Fm 4043111 := fm_f 256 4043111 7 [(2, 1), (5, 1), (17, 2), (1399, 1)] (by decide) (by decide +kernel) ⟨fm_2, fm_5, fm_17, fm_1399, trivial⟩ (by decide +kernel) (by decide +kernel) (by decide +kernel)
theorem fm_265644710425800157 : Fm 265644710425800157 := fm_f 256 265644710425800157 5 [(2, 2), (3, 1), (11, 1), (19, 1), (31, 1), (109, 1), (7753, 1), (4043111, 1)] (by decide) (by decide +kernel) ⟨fm_2, fm_3, fm_11, fm_19, fm_31, fm_109, fm_7753, fm_4043111, trivial⟩ (by decide +kernel) (by decide +kernel) (by decide +kernel)
theorem fm_787540743214453922069280689380462777 : Fm 787540743214453922069280689380462777 := fm_f 256 787540743214453922069280689380462777 5 [(2, 3), (3, 1), (7, 1), (13, 1), (1357435568044627, 1), (265644710425800157, 1)] (by decide) (by decide +kernel) ⟨fm_2, fm_3, fm_7, fm_13, fm_1357435568044627, fm_265644710425800157, trivial⟩ (by decide +kernel) (by decide +kernel) (by decide +kernel)
theorem fm_111948068495707654300072444876547840877616823560288841225588402037222520835021 : Fm 111948068495707654300072444876547840877616823560288841225588402037222520835021 := fm_f 256 111948068495707654300072444876547840877616823560288841225588402037222520835021 10 [(2, 2), (5, 1), (7, 1), (59, 1), (359, 1), (47936804223805150745351123874398189, 1), (787540743214453922069280689380462777, 1)] (by decide) (by decide +kernel) ⟨fm_2, fm_5, fm_7, fm_59, fm_359, fm_47936804223805150745351123874398189, fm_787540743214453922069280689380462777, trivial⟩ (by decide +kernel) (by decide +kernel) (by decide +kernel)
theorem fm_14851 : Fm 14851 := fm_f 256 14851 2 [(2, 1), (3, 3), (5, 2), (11, 1)] (by decide) (by decide +kernel) ⟨fm_2, fm_3, fm_5, fm_11, trivial⟩ (by decide +kernel) (by decide +kernel) (by decide +kernel)
theorem fm_53 : Fm 53 := fm_f 256 53 2 [(2, 2), (13, 1)] (by decide) (by decide +kernel) ⟨fm_2, fm_13, trivial⟩ (by decide +kernel) (by decide +kernel) (by decide +kernel)
theorem fm_107 : Fm 107 := fm_f 256 107 2 [(2, 1), (53, 1)] (by decide) (by decide +kernel) ⟨fm_2, fm_53, trivial⟩ (by decide +kernel) (by decide +kernel) (by decide +kernel)
theorem fm_35311 : Fm 35311 := fm_f 256 35311 11 [(2, 1), (3, 1), (5, 1), (11, 1), (107, 1)] (by decide) (by decide +kernel) ⟨fm_2, fm_3, fm_5, fm_11, fm_107, trivial⟩ (by decide +kernel) (by decide +kernel) (by decide +kernel)
theorem fm_37757063593 : Fm 37757063593 := fm_f 256 37757063593 11 [(2, 3), (3, 2), (14851, 1), (35311, 1)] (by decide) (by decide +kernel) ⟨fm_2, fm_3, fm_14851, fm_35311, trivial⟩ (by decide +kernel) (by decide +kernel) (by decide +kernel)
theorem fm_199 : Fm 199 := fm_f 256 199 3 [(2, 1), (3, 2), (11, 1)] (by decide) (by decide +kernel) ⟨fm_2, fm_3, fm_11, trivial⟩ (by decide +kernel) (by decide +kernel) (by decide +kernel)
theorem fm_2389 : Fm 2389 := fm_f 256 2389 2 [(2, 2), (3, 1), (199, 1)] (by decide) (by decide +kernel) ⟨fm_2, fm_3, fm_199, trivial⟩ (by decide +kernel) (by decide +kernel) (by decide +kernel)
theorem fm_113 : Fm 113 := fm_f 256 113 3 [(2, 4), (7, 1)] (by decide) (by decide +kernel) ⟨fm_2, fm_7, trivial⟩ (by decide +kernel) (by decide +kernel) (by decide +kernel)
theorem fm_28703 : Fm 28703 := fm_f 256 28703 5 [(2, 1), (113, 1), (127, 1)] (by decide) (by decide +kernel) ⟨fm_2, fm_113, fm_127, trivial⟩ (by decide +kernel) (by decide +kernel) (by decide +kernel)
theorem fm_693739 : Fm 693739 := fm_f 256 693739 2 [(2, 1), (3, 3), (29, 1), (443, 1)] (by decide) (by decide +kernel) ⟨fm_2, fm_3, fm_29, fm_443, trivial⟩ (by decide +kernel) (by decide +kernel) (by decide +kernel)
theorem fm_173 : Fm 173 := fm_f 256 173 2 [(2, 2), (43, 1)] (by decide) (by decide +kernel) ⟨fm_2, fm_43, trivial⟩ (by decide +kernel) (by decide +kernel) (by decide +kernel)
theorem fm_347 : Fm 347 := fm_f 256 347 2 [(2, 1), (173, 1)] (by decide) (by decide +kernel) ⟨fm_2, fm_173, trivial⟩ (by decide +kernel) (by decide +kernel) (by decide +kernel)
theorem fm_1277 : Fm 1277 := fm_f 256 1277 2 [(2, 2), (11, 1), (29, 1)] (by decide) (by decide +kernel) ⟨fm_2, fm_11, fm_29, trivial⟩ (by decide +kernel) (by decide +kernel) (by decide +kernel)
theorem fm_311 : Fm 311 := fm_f 256 311 17 [(2, 1), (5, 1), (31, 1)] (by decide) (by decide +kernel) ⟨fm_2, fm_5, fm_31, trivial⟩ (by decide +kernel) (by decide +kernel) (by decide +kernel)
theorem fm_6151 : Fm 6151 := fm_f 256 6151 3 [(2, 1), (3, 1), (5, 2), (41, 1)] (by decide) (by decide +kernel) ⟨fm_2, fm_3, fm_5, fm_41, trivial⟩ (by decide +kernel) (by decide +kernel) (by decide +kernel)
theorem fm_3825923 : Fm 3825923 := fm_f 256 3825923 2 [(2, 1), (311, 1), (6151, 1)] (by decide) (by decide +kernel) ⟨fm_2, fm_311, fm_6151, trivial⟩ (by decide +kernel) (by decide +kernel) (by decide +kernel)
theorem fm_450960220240643 : Fm 450960220240643 := fm_f 256 450960220240643 5 [(2, 1), (7, 1), (19, 1), (347, 1), (1277, 1), (3825923, 1)] (by decide) (by decide +kernel) ⟨fm_2, fm_7, fm_19, fm_347, fm_1277, fm_3825923, trivial⟩ (by decide +kernel) (by decide +kernel) (by decide +kernel)
theorem fm_257429925302519071108737931909 : Fm 257429925302519071108737931909 := fm_f 256 257429925302519071108737931909 2 [(2, 2), (3, 1), (2389, 1), (28703, 1), (693739, 1), (450960220240643, 1)] (by decide) (by decide +kernel) ⟨fm_2, fm_3, fm_2389, fm_28703, fm_693739, fm_450960220240643, trivial⟩ (by decide +kernel) (by decide +kernel) (by decide +kernel)
theorem fm_8951 : Fm 8951 := fm_f 256 8951 13 [(2, 1), (5, 2), (179, 1)] (by decide) (by decide +kernel) ⟨fm_2, fm_5, fm_179, trivial⟩ (by decide +kernel) (by decide +kernel) (by decide +kernel)
theorem fm_17903 : Fm 17903 := fm_f 256 17903 5 [(2, 1), (8951, 1)] (by decide) (by decide +kernel) ⟨fm_2, fm_8951, trivial⟩ (by decide +kernel) (by decide +kernel) (by decide +kernel)
theorem fm_887 : Fm 887 := fm_f 256 887 5 [(2, 1), (443, 1)] (by decide) (by decide +kernel) ⟨fm_2, fm_443, trivial⟩ (by decide +kernel) (by decide +kernel) (by decide +kernel)
theorem fm_255457 : Fm 255457 := fm_f 256 255457 7 [(2, 5), (3, 2), (887, 1)] (by decide) (by decide +kernel) ⟨fm_2, fm_3, fm_887, trivial⟩ (by decide +kernel) (by decide +kernel) (by decide +kernel)
theorem fm_1175857 : Fm 1175857 := fm_f 256 1175857 5 [(2, 4), (3, 1), (11, 1), (17, 1), (131, 1)] (by decide) (by decide +kernel) ⟨fm_2, fm_3, fm_11, fm_17, fm_131, trivial⟩ (by decide +kernel) (by decide +kernel) (by decide +kernel)
theorem fm_2782319 : Fm 2782319 := fm_f 256 2782319 7 [(2, 1), (7, 2), (11, 1), (29, 1), (89, 1)] (by decide) (by decide +kernel) ⟨fm_2, fm_7, fm_11, fm_29, fm_89, trivial⟩ (by decide +kernel) (by decide +kernel) (by decide +kernel)
theorem fm_1452370519 : Fm 1452370519 := fm_f 256 1452370519 3 [(2, 1), (3, 2), (29, 1), (2782319, 1)] (by decide) (by decide +kernel) ⟨fm_2, fm_3, fm_29, fm_2782319, trivial⟩ (by decide +kernel) (by decide +kernel) (by decide +kernel)
theorem fm_2335411794553 : Fm 2335411794553 := fm_f 256 2335411794553 5 [(2, 3), (3, 1), (67, 1), (1452370519, 1)] (by decide) (by decide +kernel) ⟨fm_2, fm_3, fm_67, fm_1452370519, trivial⟩ (by decide +kernel) (by decide +kernel) (by decide +kernel)
theorem fm_49429985517138724579 : Fm 49429985517138724579 := fm_f 256 49429985517138724579 3 [(2, 1), (3, 2), (1175857, 1), (2335411794553, 1)] (by decide) (by decide +kernel) ⟨fm_2, fm_3, fm_1175857, fm_2335411794553, trivial⟩ (by decide +kernel) (by decide +kernel) (by decide +kernel)
theorem fm_168192659616936617148033989322697 : Fm 168192659616936617148033989322697 := fm_f 256 168192659616936617148033989322697 5 [(2, 3), (3, 1), (31, 1), (17903, 1), (255457, 1), (49429985517138724579, 1)] (by decide) (by decide +kernel) ⟨fm_2, fm_3, fm_31, fm_17903, fm_255457, fm_49429985517138724579, trivial⟩ (by decide +kernel) (by decide +kernel) (by decide +kernel)
theorem fm_90884998189304631553496195708768393903509247962058018618253358139379639631667 : Fm 90884998189304631553496195708768393903509247962058018618253358139379639631667 := fm_f 256 90884998189304631553496195708768393903509247962058018618253358139379639631667 2 [(2, 1), (7, 1), (11, 1), (19, 2), (37757063593, 1), (257429925302519071108737931909, 1), (168192659616936617148033989322697, 1)] (by decide) (by decide +kernel) ⟨fm_2, fm_7, fm_11, fm_19, fm_37757063593, fm_257429925302519071108737931909, fm_168192659616936617148033989322697, trivial⟩ (by decide +kernel) (by decide +kernel) (by decide +kernel)
theorem fm_393961 : Fm 393961 := fm_f 256 393961 19 [(2, 3), (3, 1), (5, 1), (7, 2), (67, 1)] (by decide) (by decide +kernel) ⟨fm_2, fm_3, fm_5, fm_7, fm_67, trivial⟩ (by decide +kernel) (by decide +kernel) (by decide +kernel)
theorem fm_1740097 : Fm 1740097 := fm_f 256 1740097 5 [(2, 6), (3, 3), (19, 1), (53, 1)] (by decide) (by decide +kernel) ⟨fm_2, fm_3, fm_19, fm_53, trivial⟩ (by decide +kernel) (by decide +kernel) (by decide +kernel)
theorem fm_6960389 : Fm 6960389 := fm_f 256 6960389 2 [(2, 2), (1740097, 1)] (by decide) (by decide +kernel) ⟨fm_2, fm_1740097, trivial⟩ (by decide +kernel) (by decide +kernel) (by decide +kernel)
theorem fm_13920779 : Fm 13920779 := fm_f 256 13920779 2 [(2, 1), (6960389, 1)] (by decide) (by decide +kernel) ⟨fm_2, fm_6960389, trivial⟩ (by decide +kernel) (by decide +kernel) (by decide +kernel)
theorem fm_353 : Fm 353 := fm_f 256 353 3 [(2, 5), (11, 1)] (by decide) (by decide +kernel) ⟨fm_2, fm_11, trivial⟩ (by decide +kernel) (by decide +kernel) (by decide +kernel)
theorem fm_230863 : Fm 230863 := fm_f 256 230863 3 [(2, 1), (3, 1), (109, 1), (353, 1)] (by decide) (by decide +kernel) ⟨fm_2, fm_3, fm_109, fm_353, trivial⟩ (by decide +kernel) (by decide +kernel) (by decide +kernel)
theorem fm_1385179 : Fm 1385179 := fm_f 256 1385179 3 [(2, 1), (3, 1), (230863, 1)] (by decide) (by decide +kernel) ⟨fm_2, fm_3, fm_230863, trivial⟩ (by decide +kernel) (by decide +kernel) (by decide +kernel)
theorem fm_4188781297 : Fm 4188781297 := fm_f 256 4188781297 29 [(2, 4), (3, 3), (7, 1), (1385179, 1)] (by decide) (by decide +kernel) ⟨fm_2, fm_3, fm_7, fm_1385179, trivial⟩ (by decide +kernel) (by decide +kernel) (by decide +kernel)
theorem fm_617 : Fm 617 := fm_f 256 617 3 [(2, 3), (7, 1), (11, 1)] (by decide) (by decide +kernel) ⟨fm_2, fm_7, fm_11, trivial⟩ (by decide +kernel) (by decide +kernel) (by decide +kernel)
theorem fm_158201 : Fm 158201 := fm_f 256 158201 3 [(2, 3), (5, 2), (7, 1), (113, 1)] (by decide) (by decide +kernel) ⟨fm_2, fm_5, fm_7, fm_113, trivial⟩ (by decide +kernel) (by decide +kernel) (by decide +kernel)
theorem fm_107761458769 : Fm 107761458769 := fm_f 256 107761458769 7 [(2, 4), (3, 1), (23, 1), (617, 1), (158201, 1)] (by decide) (by decide +kernel) ⟨fm_2, fm_3, fm_23, fm_617, fm_158201, trivial⟩ (by decide +kernel) (by decide +kernel) (by decide +kernel)
theorem fm_1453 : Fm 1453 := fm_f 256 1453 2 [(2, 2), (3, 1), (11, 2)] (by decide) (by decide +kernel) ⟨fm_2, fm_3, fm_11, trivial⟩ (by decide +kernel) (by decide +kernel) (by decide +kernel)
theorem fm_3347713 : Fm 3347713 := fm_f 256 3347713 5 [(2, 8), (3, 2), (1453, 1)] (by decide) (by decide +kernel) ⟨fm_2, fm_3, fm_1453, trivial⟩ (by decide +kernel) (by decide +kernel) (by decide +kernel)
theorem fm_241 : Fm 241 := fm_f 256 241 7 [(2, 4), (3, 1), (5, 1)] (by decide) (by decide +kernel) ⟨fm_2, fm_3, fm_5, trivial⟩ (by decide +kernel) (by decide +kernel) (by decide +kernel)
theorem fm_8429 : Fm 8429 := fm_f 256 8429 2 [(2, 2), (7, 2), (43, 1)] (by decide) (by decide +kernel) ⟨fm_2, fm_7, fm_43, trivial⟩ (by decide +kernel) (by decide +kernel) (by decide +kernel)
theorem fm_83699971 : Fm 83699971 := fm_f 256 83699971 10 [(2, 1), (3, 1), (5, 1), (331, 1), (8429, 1)] (by decide) (by decide +kernel) ⟨fm_2, fm_3, fm_5, fm_331, fm_8429, trivial⟩ (by decide +kernel) (by decide +kernel) (by decide +kernel)
theorem fm_53576016637217 : Fm 53576016637217 := fm_f 256 53576016637217 3 [(2, 5), (83, 1), (241, 1), (83699971, 1)] (by decide) (by decide +kernel) ⟨fm_2, fm_83, fm_241, fm_83699971, trivial⟩ (by decide +kernel) (by decide +kernel) (by decide +kernel)
theorem fm_97 : Fm 97 := fm_f 256 97 5 [(2, 5), (3, 1)] (by decide) (by decide +kernel) ⟨fm_2, fm_3, trivial⟩ (by decide +kernel) (by decide +kernel) (by decide +kernel)
theorem fm_2729 : Fm 2729 := fm_f 256 2729 3 [(2, 3), (11, 1), (31, 1)] (by decide) (by decide +kernel) ⟨fm_2, fm_11, fm_31, trivial⟩ (by decide +kernel) (by decide +kernel) (by decide +kernel)
theorem fm_2221 : Fm 2221 := fm_f 256 2221 2 [(2, 2), (3, 1), (5, 1), (37, 1)] (by decide) (by decide +kernel) ⟨fm_2, fm_3, fm_5, fm_37, trivial⟩ (by decide +kernel) (by decide +kernel) (by decide +kernel)
theorem fm_13327 : Fm 13327 := fm_f 256 13327 3 [(2, 1), (3, 1), (2221, 1)] (by decide) (by decide +kernel) ⟨fm_2, fm_3, fm_2221, trivial⟩ (by decide +kernel) (by decide +kernel) (by decide +kernel)
theorem fm_879583 : Fm 879583 := fm_f 256 879583 3 [(2, 1), (3, 1), (11, 1), (13327, 1)] (by decide) (by decide +kernel) ⟨fm_2, fm_3, fm_11, fm_13327, trivial⟩ (by decide +kernel) (by decide +kernel) (by decide +kernel)
theorem fm_1039 : Fm 1039 := fm_f 256 1039 3 [(2, 1), (3, 1), (173, 1)] (by decide) (by decide +kernel) ⟨fm_2, fm_3, fm_173, trivial⟩ (by decide +kernel) (by decide +kernel) (by decide +kernel)
theorem fm_1277971 : Fm 1277971 := fm_f 256 1277971 2 [(2, 1), (3, 1), (5, 1), (41, 1), (1039, 1)] (by decide) (by decide +kernel) ⟨fm_2, fm_3, fm_5, fm_41, fm_1039, trivial⟩ (by decide +kernel) (by decide +kernel) (by decide +kernel)
theorem fm_2380472028841410473 : Fm 2380472028841410473 := fm_f 256 2380472028841410473 3 [(2, 3), (97, 1), (2729, 1), (879583, 1), (1277971, 1)] (by decide) (by decide +kernel) ⟨fm_2, fm_97, fm_2729, fm_879583, fm_1277971, trivial⟩ (by decide +kernel) (by decide +kernel) (by decide +kernel)
theorem fm_2241511780790372196948255095049206123423251 : Fm 2241511780790372196948255095049206123423251 := fm_f 256 2241511780790372196948255095049206123423251 3 [(2, 1), (3, 1), (5, 3), (7, 1), (3347713, 1), (53576016637217, 1), (2380472028841410473, 1)] (by decide) (by decide +kernel) ⟨fm_2, fm_3, fm_5, fm_7, fm_3347713, fm_53576016637217, fm_2380472028841410473, trivial⟩ (by decide +kernel) (by decide +kernel) (by decide +kernel)
theorem fm_110978522599646036140854244867192016187103530285843221027767826227514194260341 : Fm 110978522599646036140854244867192016187103530285843221027767826227514194260341 := fm_f 256 110978522599646036140854244867192016187103530285843221027767826227514194260341 3 [(2, 2), (5, 1), (393961, 1), (13920779, 1), (4188781297, 1), (107761458769, 1), (2241511780790372196948255095049206123423251, 1)] (by decide) (by decide +kernel) ⟨fm_2, fm_5, fm_393961, fm_13920779, fm_4188781297, fm_107761458769, fm_2241511780790372196948255095049206123423251, trivial⟩ (by decide +kernel) (by decide +kernel) (by decide +kernel)
theorem fm_691 : Fm 691 := fm_f 256 691 3 [(2, 1), (3, 1), (5, 1), (23, 1)] (by decide) (by decide +kernel) ⟨fm_2, fm_3, fm_5, fm_23, trivial⟩ (by decide +kernel) (by decide +kernel) (by decide +kernel)
theorem fm_2789 : Fm 2789 := fm_f 256 2789 2 [(2, 2), (17, 1), (41, 1)] (by decide) (by decide +kernel) ⟨fm_2, fm_17, fm_41, trivial⟩ (by decide +kernel) (by decide +kernel) (by decide +kernel)
theorem fm_507599 : Fm 507599 := fm_f 256 507599 7 [(2, 1), (7, 1), (13, 1), (2789, 1)] (by decide) (by decide +kernel) ⟨fm_2, fm_7, fm_13, fm_2789, trivial⟩ (by decide +kernel) (by decide +kernel) (by decide +kernel)
theorem fm_701501819 : Fm 701501819 := fm_f 256 701501819 2 [(2, 1), (691, 1), (507599, 1)] (by decide) (by decide +kernel) ⟨fm_2, fm_691, fm_507599, trivial⟩ (by decide +kernel) (by decide +kernel) (by decide +kernel)
theorem fm_79 : Fm 79 := fm_f 256 79 3 [(2, 1), (3, 1), (13, 1)] (by decide) (by decide +kernel) ⟨fm_2, fm_3, fm_13, trivial⟩ (by decide +kernel) (by decide +kernel) (by decide +kernel)
theorem fm_163 : Fm 163 := fm_f 256 163 2 [(2, 1), (3, 4)] (by decide) (by decide +kernel) ⟨fm_2, fm_3, trivial⟩ (by decide +kernel) (by decide +kernel) (by decide +kernel)
theorem fm_599 : Fm 599 := fm_f 256 599 7 [(2, 1), (13, 1), (23, 1)] (by decide) (by decide +kernel) ⟨fm_2, fm_13, fm_23, trivial⟩ (by decide +kernel) (by decide +kernel) (by decide +kernel)
theorem fm_4793 : Fm 4793 := fm_f 256 4793 3 [(2, 3), (599, 1)] (by decide) (by decide +kernel) ⟨fm_2, fm_599, trivial⟩ (by decide +kernel) (by decide +kernel) (by decide +kernel)
theorem fm_67103 : Fm 67103 := fm_f 256 67103 5 [(2, 1), (7, 1), (4793, 1)] (by decide) (by decide +kernel) ⟨fm_2, fm_7, fm_4793, trivial⟩ (by decide +kernel) (by decide +kernel) (by decide +kernel)
theorem fm_4621 : Fm 4621 := fm_f 256 4621 2 [(2, 2), (3, 1), (5, 1), (7, 1), (11, 1)] (by decide) (by decide +kernel) ⟨fm_2, fm_3, fm_5, fm_7, fm_11, trivial⟩ (by decide +kernel) (by decide +kernel) (by decide +kernel)
theorem fm_1487963 : Fm 1487963 := fm_f 256 1487963 2 [(2, 1), (7, 1), (23, 1), (4621, 1)] (by decide) (by decide +kernel) ⟨fm_2, fm_7, fm_23, fm_4621, trivial⟩ (by decide +kernel) (by decide +kernel) (by decide +kernel)
theorem fm_261881489 : Fm 261881489 := fm_f 256 261881489 3 [(2, 4), (11, 1), (1487963, 1)] (by decide) (by decide +kernel) ⟨fm_2, fm_11, fm_1487963, trivial⟩ (by decide +kernel) (by decide +kernel) (by decide +kernel)
theorem fm_9504094030424190079 : Fm 9504094030424190079 := fm_f 256 9504094030424190079 3 [(2, 1), (3, 1), (7, 1), (79, 1), (163, 1), (67103, 1), (261881489, 1)] (by decide) (by decide +kernel) ⟨fm_2, fm_3, fm_7, fm_79, fm_163, fm_67103, fm_261881489, trivial⟩ (by decide +kernel) (by decide +kernel) (by decide +kernel)
theorem fm_6997321 : Fm 6997321 := fm_f 256 6997321 13 [(2, 3), (3, 3), (5, 1), (11, 1), (19, 1), (31, 1)] (by decide) (by decide +kernel) ⟨fm_2, fm_3, fm_5, fm_11, fm_19, fm_31, trivial⟩ (by decide +kernel) (by decide +kernel) (by decide +kernel)
theorem fm_277 : Fm 277 := fm_f 256 277 5 [(2, 2), (3, 1), (23, 1)] (by decide) (by decide +kernel) ⟨fm_2, fm_3, fm_23, trivial⟩ (by decide +kernel) (by decide +kernel) (by decide +kernel)
theorem fm_7757 : Fm 7757 := fm_f 256 7757 2 [(2, 2), (7, 1), (277, 1)] (by decide) (by decide +kernel) ⟨fm_2, fm_7, fm_277, trivial⟩ (by decide +kernel) (by decide +kernel) (by decide +kernel)
theorem fm_3862987 : Fm 3862987 := fm_f 256 3862987 3 [(2, 1), (3, 1), (83, 1), (7757, 1)] (by decide) (by decide +kernel) ⟨fm_2, fm_3, fm_83, fm_7757, trivial⟩ (by decide +kernel) (by decide +kernel) (by decide +kernel)
theorem fm_5101 : Fm 5101 := fm_f 256 5101 6 [(2, 2), (3, 1), (5, 2), (17, 1)] (by decide) (by decide +kernel) ⟨fm_2, fm_3, fm_5, fm_17, trivial⟩ (by decide +kernel) (by decide +kernel) (by decide +kernel)
theorem fm_223 : Fm 223 := fm_f 256 223 3 [(2, 1), (3, 1), (37, 1)] (by decide) (by decide +kernel) ⟨fm_2, fm_3, fm_37, trivial⟩ (by decide +kernel) (by decide +kernel) (by decide +kernel)
theorem fm_31541 : Fm 31541 := fm_f 256 31541 3 [(2, 2), (5, 1), (19, 1), (83, 1)] (by decide) (by decide +kernel) ⟨fm_2, fm_5, fm_19, fm_83, trivial⟩ (by decide +kernel) (by decide +kernel) (by decide +kernel)
theorem fm_6977 : Fm 6977 := fm_f 256 6977 3 [(2, 6), (109, 1)] (by decide) (by decide +kernel) ⟨fm_2, fm_109, trivial⟩ (by decide +kernel) (by decide +kernel) (by decide +kernel)
theorem fm_41863 : Fm 41863 := fm_f 256 41863 3 [(2, 1), (3, 1), (6977, 1)] (by decide) (by decide +kernel) ⟨fm_2, fm_3, fm_6977, trivial⟩ (by decide +kernel) (by decide +kernel) (by decide +kernel)
theorem fm_833359516613759071 : Fm 833359516613759071 := fm_f 256 833359516613759071 15 [(2, 1), (3, 2), (5, 1), (13, 1), (41, 1), (59, 1), (223, 1), (31541, 1), (41863, 1)] (by decide) (by decide +kernel) ⟨fm_2, fm_3, fm_5, fm_13, fm_41, fm_59, fm_223, fm_31541, fm_41863, trivial⟩ (by decide +kernel) (by decide +kernel) (by decide +kernel)
theorem fm_425096689424678502117101 : Fm 425096689424678502117101 := fm_f 256 425096689424678502117101 2 [(2, 2), (5, 2), (5101, 1), (833359516613759071, 1)] (by decide) (by decide +kernel) ⟨fm_2, fm_5, fm_5101, fm_833359516613759071, trivial⟩ (by decide +kernel) (by decide +kernel) (by decide +kernel)
theorem fm_53727634182921486694042601055997267 : Fm 53727634182921486694042601055997267 := fm_f 256 53727634182921486694042601055997267 11 [(2, 1), (3, 1), (7, 1), (19, 1), (41, 1), (3862987, 1), (425096689424678502117101, 1)] (by decide) (by decide +kernel) ⟨fm_2, fm_3, fm_7, fm_19, fm_41, fm_3862987, fm_425096689424678502117101, trivial⟩ (by decide +kernel) (by decide +kernel) (by decide +kernel)
theorem fm_2065466569198918134913774100747052676655458259 : Fm 2065466569198918134913774100747052676655458259 := fm_f 256 2065466569198918134913774100747052676655458259 2 [(2, 1), (41, 1), (67, 1), (6997321, 1), (53727634182921486694042601055997267, 1)] (by decide) (by decide +kernel) ⟨fm_2, fm_41, fm_67, fm_6997321, fm_53727634182921486694042601055997267, trivial⟩ (by decide +kernel) (by decide +kernel) (by decide +kernel)
theorem fm_353346992826555062801755494828761190809052733923667213163995424299 : Fm 353346992826555062801755494828761190809052733923667213163995424299 := fm_f 256 353346992826555062801755494828761190809052733923667213163995424299 3 [(2, 1), (3, 2), (9504094030424190079, 1), (2065466569198918134913774100747052676655458259, 1)] (by decide) (by decide +kernel) ⟨fm_2, fm_3, fm_9504094030424190079, fm_2065466569198918134913774100747052676655458259, trivial⟩ (by decide +kernel) (by decide +kernel) (by decide +kernel)
theorem fm_96670687700343247943045379246092216858971064060606467302229378826835866953591 : Fm 96670687700343247943045379246092216858971064060606467302229378826835866953591 := fm_f 256 96670687700343247943045379246092216858971064060606467302229378826835866953591 7 [(2, 1), (3, 1), (5, 1), (13, 1), (701501819, 1), (353346992826555062801755494828761190809052733923667213163995424299, 1)] (by decide) (by decide +kernel) ⟨fm_2, fm_3, fm_5, fm_13, fm_701501819, fm_353346992826555062801755494828761190809052733923667213163995424299, trivial⟩ (by decide +kernel) (by decide +kernel) (by decide +kernel)
theorem fm_1171 : Fm 1171 := fm_f 256 1171 2 [(2, 1), (3, 2), (5, 1), (13, 1)] (by decide) (by decide +kernel) ⟨fm_2, fm_3, fm_5, fm_13, trivial⟩ (by decide +kernel) (by decide +kernel) (by decide +kernel)
theorem fm_56209 : Fm 56209 := fm_f 256 56209 7 [(2, 4), (3, 1), (1171, 1)] (by decide) (by decide +kernel) ⟨fm_2, fm_3, fm_1171, trivial⟩ (by decide +kernel) (by decide +kernel) (by decide +kernel)
theorem fm_562091 : Fm 562091 := fm_f 256 562091 2 [(2, 1), (5, 1), (56209, 1)] (by decide) (by decide +kernel) ⟨fm_2, fm_5, fm_56209, trivial⟩ (by decide +kernel) (by decide +kernel) (by decide +kernel)
theorem fm_487 : Fm 487 := fm_f 256 487 3 [(2, 1), (3, 5)] (by decide) (by decide +kernel) ⟨fm_2, fm_3, trivial⟩ (by decide +kernel) (by decide +kernel) (by decide +kernel)
theorem fm_295123 : Fm 295123 := fm_f 256 295123 2 [(2, 1), (3, 1), (101, 1), (487, 1)] (by decide) (by decide +kernel) ⟨fm_2, fm_3, fm_101, fm_487, trivial⟩ (by decide +kernel) (by decide +kernel) (by decide +kernel)
theorem fm_109195511 : Fm 109195511 := fm_f 256 109195511 17 [(2, 1), (5, 1), (37, 1), (295123, 1)] (by decide) (by decide +kernel) ⟨fm_2, fm_5, fm_37, fm_295123, trivial⟩ (by decide +kernel) (by decide +kernel) (by decide +kernel)
theorem fm_2839083287 : Fm 2839083287 := fm_f 256 2839083287 5 [(2, 1), (13, 1), (109195511, 1)] (by decide) (by decide +kernel) ⟨fm_2, fm_13, fm_109195511, trivial⟩ (by decide +kernel) (by decide +kernel) (by decide +kernel)
theorem fm_323655494719 : Fm 323655494719 := fm_f 256 323655494719 6 [(2, 1), (3, 1), (19, 1), (2839083287, 1)] (by decide) (by decide +kernel) ⟨fm_2, fm_3, fm_19, fm_2839083287, trivial⟩ (by decide +kernel) (by decide +kernel) (by decide +kernel)
theorem fm_1709 : Fm 1709 := fm_f 256 1709 3 [(2, 2), (7, 1), (61, 1)] (by decide) (by decide +kernel) ⟨fm_2, fm_7, fm_61, trivial⟩ (by decide +kernel) (by decide +kernel) (by decide +kernel)
theorem fm_1938007 : Fm 1938007 := fm_f 256 1938007 3 [(2, 1), (3, 4), (7, 1), (1709, 1)] (by decide) (by decide +kernel) ⟨fm_2, fm_3, fm_7, fm_1709, trivial⟩ (by decide +kernel) (by decide +kernel) (by decide +kernel)
theorem fm_6814032613 : Fm 6814032613 := fm_f 256 6814032613 2 [(2, 2), (3, 1), (293, 1), (1938007, 1)] (by decide) (by decide +kernel) ⟨fm_2, fm_3, fm_293, fm_1938007, trivial⟩ (by decide +kernel) (by decide +kernel) (by decide +kernel)
theorem fm_899452304917 : Fm 899452304917 := fm_f 256 899452304917 2 [(2, 2), (3, 1), (11, 1), (6814032613, 1)] (by decide) (by decide +kernel) ⟨fm_2, fm_3, fm_11, fm_6814032613, trivial⟩ (by decide +kernel) (by decide +kernel) (by decide +kernel)
theorem fm_2200717 : Fm 2200717 := fm_f 256 2200717 2 [(2, 2), (3, 3), (7, 1), (41, 1), (71, 1)] (by decide) (by decide +kernel) ⟨fm_2, fm_3, fm_7, fm_41, fm_71, trivial⟩ (by decide +kernel) (by decide +kernel) (by decide +kernel)
theorem fm_2715684779 : Fm 2715684779 := fm_f 256 2715684779 2 [(2, 1), (617, 1), (2200717, 1)] (by decide) (by decide +kernel) ⟨fm_2, fm_617, fm_2200717, trivial⟩ (by decide +kernel) (by decide +kernel) (by decide +kernel)
theorem fm_2444116301101 : Fm 2444116301101 := fm_f 256 2444116301101 2 [(2, 2), (3, 2), (5, 2), (2715684779, 1)] (by decide) (by decide +kernel) ⟨fm_2, fm_3, fm_5, fm_2715684779, trivial⟩ (by decide +kernel) (by decide +kernel) (by decide +kernel)
theorem fm_857 : Fm 857 := fm_f 256 857 3 [(2, 3), (107, 1)] (by decide) (by decide +kernel) ⟨fm_2, fm_107, trivial⟩ (by decide +kernel) (by decide +kernel) (by decide +kernel)
theorem fm_46271 : Fm 46271 := fm_f 256 46271 7 [(2, 1), (5, 1), (7, 1), (661, 1)] (by decide) (by decide +kernel) ⟨fm_2, fm_5, fm_7, fm_661, trivial⟩ (by decide +kernel) (by decide +kernel) (by decide +kernel)
theorem fm_158616989 : Fm 158616989 := fm_f 256 158616989 2 [(2, 2), (857, 1), (46271, 1)] (by decide) (by decide +kernel) ⟨fm_2, fm_857, fm_46271, trivial⟩ (by decide +kernel) (by decide +kernel) (by decide +kernel)
theorem fm_54343449367313 : Fm 54343449367313 := fm_f 256 54343449367313 3 [(2, 4), (7, 2), (19, 1), (23, 1), (158616989, 1)] (by decide) (by decide +kernel) ⟨fm_2, fm_7, fm_19, fm_23, fm_158616989, trivial⟩ (by decide +kernel) (by decide +kernel) (by decide +kernel)
theorem fm_271 : Fm 271 := fm_f 256 271 6 [(2, 1), (3, 3), (5, 1)] (by decide) (by decide +kernel) ⟨fm_2, fm_3, fm_5, trivial⟩ (by decide +kernel) (by decide +kernel) (by decide +kernel)
theorem fm_827 : Fm 827 := fm_f 256 827 2 [(2, 1), (7, 1), (59, 1)] (by decide) (by decide +kernel) ⟨fm_2, fm_7, fm_59, trivial⟩ (by decide +kernel) (by decide +kernel) (by decide +kernel)
theorem fm_197 : Fm 197 := fm_f 256 197 2 [(2, 2), (7, 2)] (by decide) (by decide +kernel) ⟨fm_2, fm_7, trivial⟩ (by decide +kernel) (by decide +kernel) (by decide +kernel)
theorem fm_3547 : Fm 3547 := fm_f 256 3547 2 [(2, 1), (3, 2), (197, 1)] (by decide) (by decide +kernel) ⟨fm_2, fm_3, fm_197, trivial⟩ (by decide +kernel) (by decide +kernel) (by decide +kernel)
theorem fm_21283 : Fm 21283 := fm_f 256 21283 11 [(2, 1), (3, 1), (3547, 1)] (by decide) (by decide +kernel) ⟨fm_2, fm_3, fm_3547, trivial⟩ (by decide +kernel) (by decide +kernel) (by decide +kernel)
theorem fm_14292045293 : Fm 14292045293 := fm_f 256 14292045293 2 [(2, 2), (7, 1), (29, 1), (827, 1), (21283, 1)] (by decide) (by decide +kernel) ⟨fm_2, fm_7, fm_29, fm_827, fm_21283, trivial⟩ (by decide +kernel) (by decide +kernel) (by decide +kernel)
theorem fm_919639376514248321 : Fm 919639376514248321 := fm_f 256 919639376514248321 6 [(2, 7), (5, 1), (7, 1), (53, 1), (271, 1), (14292045293, 1)] (by decide) (by decide +kernel) ⟨fm_2, fm_5, fm_7, fm_53, fm_271, fm_14292045293, trivial⟩ (by decide +kernel) (by decide +kernel) (by decide +kernel)
theorem fm_1839278753028496643 : Fm 1839278753028496643 := fm_f 256 1839278753028496643 2 [(2, 1), (919639376514248321, 1)] (by decide) (by decide +kernel) ⟨fm_2, fm_919639376514248321, trivial⟩ (by decide +kernel) (by decide +kernel) (by decide +kernel)
theorem fm_5997165107254721968601873665815541 : Fm 5997165107254721968601873665815541 := fm_f 256 5997165107254721968601873665815541 2 [(2, 2), (3, 1), (5, 1), (54343449367313, 1), (1839278753028496643, 1)] (by decide) (by decide +kernel) ⟨fm_2, fm_3, fm_5, fm_54343449367313, fm_1839278753028496643, trivial⟩ (by decide +kernel) (by decide +kernel) (by decide +kernel)
theorem fm_105533005006461618449708070042860837125742347465542782378438607845804229036173 : Fm 105533005006461618449708070042860837125742347465542782378438607845804229036173 := fm_f 256 105533005006461618449708070042860837125742347465542782378438607845804229036173 2 [(2, 2), (11, 1), (562091, 1), (323655494719, 1), (899452304917, 1), (2444116301101, 1), (5997165107254721968601873665815541, 1)] (by decide) (by decide +kernel) ⟨fm_2, fm_11, fm_562091, fm_323655494719, fm_899452304917, fm_2444116301101, fm_5997165107254721968601873665815541, trivial⟩ (by decide +kernel) (by decide +kernel) (by decide +kernel)
theorem fm_797743 : Fm 797743 := fm_f 256 797743 3 [(2, 1), (3, 3), (11, 1), (17, 1), (79, 1)] (by decide) (by decide +kernel) ⟨fm_2, fm_3, fm_11, fm_17, fm_79, trivial⟩ (by decide +kernel) (by decide +kernel) (by decide +kernel)
theorem fm_82241 : Fm 82241 := fm_f 256 82241 3 [(2, 6), (5, 1), (257, 1)] (by decide) (by decide +kernel) ⟨fm_2, fm_5, fm_257, trivial⟩ (by decide +kernel) (by decide +kernel) (by decide +kernel)
theorem fm_657929 : Fm 657929 := fm_f 256 657929 3 [(2, 3), (82241, 1)] (by decide) (by decide +kernel) ⟨fm_2, fm_82241, trivial⟩ (by decide +kernel) (by decide +kernel) (by decide +kernel)
theorem fm_7895149 : Fm 7895149 := fm_f 256 7895149 6 [(2, 2), (3, 1), (657929, 1)] (by decide) (by decide +kernel) ⟨fm_2, fm_3, fm_657929, trivial⟩ (by decide +kernel) (by decide +kernel) (by decide +kernel)
theorem fm_151159196368969 : Fm 151159196368969 := fm_f 256 151159196368969 7 [(2, 3), (3, 1), (797743, 1), (7895149, 1)] (by decide) (by decide +kernel) ⟨fm_2, fm_3, fm_797743, fm_7895149, trivial⟩ (by decide +kernel) (by decide +kernel) (by decide +kernel)
theorem fm_1813910356427629 : Fm 1813910356427629 := fm_f 256 1813910356427629 2 [(2, 2), (3, 1), (151159196368969, 1)] (by decide) (by decide +kernel) ⟨fm_2, fm_3, fm_151159196368969, trivial⟩ (by decide +kernel) (by decide +kernel) (by decide +kernel)
theorem fm_4447171 : Fm 4447171 := fm_f 256 4447171 7 [(2, 1), (3, 3), (5, 1), (7, 1), (13, 1), (181, 1)] (by decide) (by decide +kernel) ⟨fm_2, fm_3, fm_5, fm_7, fm_13, fm_181, trivial⟩ (by decide +kernel) (by decide +kernel) (by decide +kernel)
theorem fm_20563 : Fm 20563 := fm_f 256 20563 3 [(2, 1), (3, 1), (23, 1), (149, 1)] (by decide) (by decide +kernel) ⟨fm_2, fm_3, fm_23, fm_149, trivial⟩ (by decide +kernel) (by decide +kernel) (by decide +kernel)
theorem fm_4935121 : Fm 4935121 := fm_f 256 4935121 23 [(2, 4), (3, 1), (5, 1), (20563, 1)] (by decide) (by decide +kernel) ⟨fm_2, fm_3, fm_5, fm_20563, trivial⟩ (by decide +kernel) (by decide +kernel) (by decide +kernel)
theorem fm_395051885868439 : Fm 395051885868439 := fm_f 256 395051885868439 3 [(2, 1), (3, 2), (4447171, 1), (4935121, 1)] (by decide) (by decide +kernel) ⟨fm_2, fm_3, fm_4447171, fm_4935121, trivial⟩ (by decide +kernel) (by decide +kernel) (by decide +kernel)
theorem fm_809 : Fm 809 := fm_f 256 809 3 [(2, 3), (101, 1)] (by decide) (by decide +kernel) ⟨fm_2, fm_101, trivial⟩ (by decide +kernel) (by decide +kernel) (by decide +kernel)
theorem fm_3691 : Fm 3691 := fm_f 256 3691 2 [(2, 1), (3, 2), (5, 1), (41, 1)] (by decide) (by decide +kernel) ⟨fm_2, fm_3, fm_5, fm_41, trivial⟩ (by decide +kernel) (by decide +kernel) (by decide +kernel)
theorem fm_3875551 : Fm 3875551 := fm_f 256 3875551 3 [(2, 1), (3, 1), (5, 2), (7, 1), (3691, 1)] (by decide) (by decide +kernel) ⟨fm_2, fm_3, fm_5, fm_7, fm_3691, trivial⟩ (by decide +kernel) (by decide +kernel) (by decide +kernel)
theorem fm_4028993 : Fm 4028993 := fm_f 256 4028993 3 [(2, 6), (11, 1), (59, 1), (97, 1)] (by decide) (by decide +kernel) ⟨fm_2, fm_11, fm_59, fm_97, trivial⟩ (by decide +kernel) (by decide +kernel) (by decide +kernel)
theorem fm_102927046563958817677 : Fm 102927046563958817677 := fm_f 256 102927046563958817677 2 [(2, 2), (3, 1), (7, 1), (97, 1), (809, 1), (3875551, 1), (4028993, 1)] (by decide) (by decide +kernel) ⟨fm_2, fm_3, fm_7, fm_97, fm_809, fm_3875551, fm_4028993, trivial⟩ (by decide +kernel) (by decide +kernel) (by decide +kernel)
theorem fm_2993989324267560349811873102876187619297 : Fm 2993989324267560349811873102876187619297 := fm_f 256 2993989324267560349811873102876187619297 5 [(2, 5), (3, 1), (13, 1), (59, 1), (395051885868439, 1), (102927046563958817677, 1)] (by decide) (by decide +kernel) ⟨fm_2, fm_3, fm_13, fm_59, fm_395051885868439, fm_102927046563958817677, trivial⟩ (by decide +kernel) (by decide +kernel) (by decide +kernel)
theorem fm_21723312969290745976503807351578686366206619900737427253 : Fm 21723312969290745976503807351578686366206619900737427253 := fm_f 256 21723312969290745976503807351578686366206619900737427253 2 [(2, 2), (1813910356427629, 1), (2993989324267560349811873102876187619297, 1)] (by decide) (by decide +kernel) ⟨fm_2, fm_1813910356427629, fm_2993989324267560349811873102876187619297, trivial⟩ (by decide +kernel) (by decide +kernel) (by decide +kernel)
theorem fm_509 : Fm 509 := fm_f 256 509 2 [(2, 2), (127, 1)] (by decide) (by decide +kernel) ⟨fm_2, fm_127, trivial⟩ (by decide +kernel) (by decide +kernel) (by decide +kernel)
theorem fm_8741 : Fm 8741 := fm_f 256 8741 2 [(2, 2), (5, 1), (19, 1), (23, 1)] (by decide) (by decide +kernel) ⟨fm_2, fm_5, fm_19, fm_23, trivial⟩ (by decide +kernel) (by decide +kernel) (by decide +kernel)
theorem fm_174821 : Fm 174821 := fm_f 256 174821 3 [(2, 2), (5, 1), (8741, 1)] (by decide) (by decide +kernel) ⟨fm_2, fm_5, fm_8741, trivial⟩ (by decide +kernel) (by decide +kernel) (by decide +kernel)
theorem fm_889838891 : Fm 889838891 := fm_f 256 889838891 2 [(2, 1), (5, 1), (509, 1), (174821, 1)] (by decide) (by decide +kernel) ⟨fm_2, fm_5, fm_509, fm_174821, trivial⟩ (by decide +kernel) (by decide +kernel) (by decide +kernel)
theorem fm_1549 : Fm 1549 := fm_f 256 1549 2 [(2, 2), (3, 2), (43, 1)] (by decide) (by decide +kernel) ⟨fm_2, fm_3, fm_43, trivial⟩ (by decide +kernel) (by decide +kernel) (by decide +kernel)
theorem fm_211 : Fm 211 := fm_f 256 211 2 [(2, 1), (3, 1), (5, 1), (7, 1)] (by decide) (by decide +kernel) ⟨fm_2, fm_3, fm_5, fm_7, trivial⟩ (by decide +kernel) (by decide +kernel) (by decide +kernel)
theorem fm_8903357 : Fm 8903357 := fm_f 256 8903357 2 [(2, 2), (7, 1), (11, 1), (137, 1), (211, 1)] (by decide) (by decide +kernel) ⟨fm_2, fm_7, fm_11, fm_137, fm_211, trivial⟩ (by decide +kernel) (by decide +kernel) (by decide +kernel)
theorem fm_269 : Fm 269 := fm_f 256 269 2 [(2, 2), (67, 1)] (by decide) (by decide +kernel) ⟨fm_2, fm_67, trivial⟩ (by decide +kernel) (by decide +kernel) (by decide +kernel)
theorem fm_3767 : Fm 3767 := fm_f 256 3767 5 [(2, 1), (7, 1), (269, 1)] (by decide) (by decide +kernel) ⟨fm_2, fm_7, fm_269, trivial⟩ (by decide +kernel) (by decide +kernel) (by decide +kernel)
theorem fm_2857 : Fm 2857 := fm_f 256 2857 11 [(2, 3), (3, 1), (7, 1), (17, 1)] (by decide) (by decide +kernel) ⟨fm_2, fm_3, fm_7, fm_17, trivial⟩ (by decide +kernel) (by decide +kernel) (by decide +kernel)
theorem fm_799961 : Fm 799961 := fm_f 256 799961 6 [(2, 3), (5, 1), (7, 1), (2857, 1)] (by decide) (by decide +kernel) ⟨fm_2, fm_5, fm_7, fm_2857, trivial⟩ (by decide +kernel) (by decide +kernel) (by decide +kernel)
theorem fm_4129398683 : Fm 4129398683 := fm_f 256 4129398683 2 [(2, 1), (29, 1), (89, 1), (799961, 1)] (by decide) (by decide +kernel) ⟨fm_2, fm_29, fm_89, fm_799961, trivial⟩ (by decide +kernel) (by decide +kernel) (by decide +kernel)
theorem fm_8258797367 : Fm 8258797367 := fm_f 256 8258797367 5 [(2, 1), (4129398683, 1)] (by decide) (by decide +kernel) ⟨fm_2, fm_4129398683, trivial⟩ (by decide +kernel) (by decide +kernel) (by decide +kernel)
theorem fm_871104911081693 : Fm 871104911081693 := fm_f 256 871104911081693 3 [(2, 2), (7, 1), (3767, 1), (8258797367, 1)] (by decide) (by decide +kernel) ⟨fm_2, fm_7, fm_3767, fm_8258797367, trivial⟩ (by decide +kernel) (by decide +kernel) (by decide +kernel)
theorem fm_157 : Fm 157 := fm_f 256 157 5 [(2, 2), (3, 1), (13, 1)] (by decide) (by decide +kernel) ⟨fm_2, fm_3, fm_13, trivial⟩ (by decide +kernel) (by decide +kernel) (by decide +kernel)
theorem fm_3313 : Fm 3313 := fm_f 256 3313 10 [(2, 4), (3, 2), (23, 1)] (by decide) (by decide +kernel) ⟨fm_2, fm_3, fm_23, trivial⟩ (by decide +kernel) (by decide +kernel) (by decide +kernel)
theorem fm_1657 : Fm 1657 := fm_f 256 1657 11 [(2, 3), (3, 2), (23, 1)] (by decide) (by decide +kernel) ⟨fm_2, fm_3, fm_23, trivial⟩ (by decide +kernel) (by decide +kernel) (by decide +kernel)
theorem fm_705883 : Fm 705883 := fm_f 256 705883 3 [(2, 1), (3, 1), (71, 1), (1657, 1)] (by decide) (by decide +kernel) ⟨fm_2, fm_3, fm_71, fm_1657, trivial⟩ (by decide +kernel) (by decide +kernel) (by decide +kernel)
theorem fm_210473134111 : Fm 210473134111 := fm_f 256 210473134111 7 [(2, 1), (3, 2), (5, 1), (3313, 1), (705883, 1)] (by decide) (by decide +kernel) ⟨fm_2, fm_3, fm_5, fm_3313, fm_705883, trivial⟩ (by decide +kernel) (by decide +kernel) (by decide +kernel)
theorem fm_991328461662811 : Fm 991328461662811 := fm_f 256 991328461662811 2 [(2, 1), (3, 1), (5, 1), (157, 1), (210473134111, 1)] (by decide) (by decide +kernel) ⟨fm_2, fm_3, fm_5, fm_157, fm_210473134111, trivial⟩ (by decide +kernel) (by decide +kernel) (by decide +kernel)
theorem fm_205938938456020051285869054349272218364179989 : Fm 205938938456020051285869054349272218364179989 := fm_f 256 205938938456020051285869054349272218364179989 10 [(2, 2), (3, 1), (11, 1), (131, 1), (1549, 1), (8903357, 1), (871104911081693, 1), (991328461662811, 1)] (by decide) (by decide +kernel) ⟨fm_2, fm_3, fm_11, fm_131, fm_1549, fm_8903357, fm_871104911081693, fm_991328461662811, trivial⟩ (by decide +kernel) (by decide +kernel) (by decide +kernel)
theorem fm_23456317006006033242877547941552015033125344708627481473 : Fm 23456317006006033242877547941552015033125344708627481473 := fm_f 256 23456317006006033242877547941552015033125344708627481473 3 [(2, 7), (889838891, 1), (205938938456020051285869054349272218364179989, 1)] (by decide) (by decide +kernel) ⟨fm_2, fm_889838891, fm_205938938456020051285869054349272218364179989, trivial⟩ (by decide +kernel) (by decide +kernel) (by decide +kernel)
/-- The 1. key: raised to E and to D, each number is what it was. -/
theorem key0_back (x k N : Nat) (hk : k = 3 * 7447008539256738613607749659106614698821238384891511416268241380638605201188256926765976859153686376376005450082142522223284767755073688433292987645975147) (hN : N = 11170512808885107920411624488659922048231857577337267124402362070957907801782597121205760731194467428238339298724373324717477908403989519700263082899067877) : x ^ k % N = x % N := by
  have h1 : k % (99782988299734809637791229454575760281924558990467930153398648286378909270137 - 1) = 1 := by rw [hk]
  have h2 : k % (111948068495707654300072444876547840877616823560288841225588402037222520835021 - 1) = 1 := by rw [hk]
  have h3 : 0 < k := by rw [hk]; decide
  have h4 : N = 99782988299734809637791229454575760281924558990467930153398648286378909270137 * 111948068495707654300072444876547840877616823560288841225588402037222520835021 := by rw [hN]
  rw [h4]
  exact back_of fm_99782988299734809637791229454575760281924558990467930153398648286378909270137 fm_111948068495707654300072444876547840877616823560288841225588402037222520835021 (by decide +kernel) h1 h2 h3 x
/-- The 2. key: raised to E and to D, each number is what it was. -/
theorem key1_back (x k N : Nat) (hk : k = 17 * 3559864526654305809334168033971879556827894384062173252314363585114678005095316472843778179382825480322496530070085231572611170366299955387426676086562273) (hN : N = 10086282825520533126446809429586992077679034088176157548224030157824921014436931869911493792252366544687649462275332102233979550610829228115409142745818447) : x ^ k % N = x % N := by
  have h1 : k % (90884998189304631553496195708768393903509247962058018618253358139379639631667 - 1) = 1 := by rw [hk]
  have h2 : k % (110978522599646036140854244867192016187103530285843221027767826227514194260341 - 1) = 1 := by rw [hk]
  have h3 : 0 < k := by rw [hk]; decide
  have h4 : N = 90884998189304631553496195708768393903509247962058018618253358139379639631667 * 110978522599646036140854244867192016187103530285843221027767826227514194260341 := by rw [hN]
  rw [h4]
  exact back_of fm_90884998189304631553496195708768393903509247962058018618253358139379639631667 fm_110978522599646036140854244867192016187103530285843221027767826227514194260341 (by decide +kernel) h1 h2 h3 x
/-- The 3. key: raised to E and to D, each number is what it was. -/
theorem key2_back (x k N : Nat) (hk : k = 65537 * 3599488037492373027525388251803297718351022232275346669113433830048359568244133389440933950680205707946920992332947664088399431129585547159260214509242393) (hN : N = 10201948169058411586080152655729478119948576916344306303407304974262826667128852030436230064206817502907290123945494943976826219220689966268748351651247243) : x ^ k % N = x % N := by
  have h1 : k % (96670687700343247943045379246092216858971064060606467302229378826835866953591 - 1) = 1 := by rw [hk]
  have h2 : k % (105533005006461618449708070042860837125742347465542782378438607845804229036173 - 1) = 1 := by rw [hk]
  have h3 : 0 < k := by rw [hk]; decide
  have h4 : N = 96670687700343247943045379246092216858971064060606467302229378826835866953591 * 105533005006461618449708070042860837125742347465542782378438607845804229036173 := by rw [hN]
  rw [h4]
  exact back_of fm_96670687700343247943045379246092216858971064060606467302229378826835866953591 fm_105533005006461618449708070042860837125742347465542782378438607845804229036173 (by decide +kernel) h1 h2 h3 x
/-- The 4. key: raised to E and to D, each number is what it was. -/
theorem key3_back (x k N : Nat) (hk : k = 3 * 339699276952243961753560700682207347621890898243831343754539764996503488168081787496577641354021598102385249963) (hN : N = 509548915428365942630341051023311021432836347365747015676989277470052011471504036537997163430364361762942783669) : x ^ k % N = x % N := by
  have h1 : k % (21723312969290745976503807351578686366206619900737427253 - 1) = 1 := by rw [hk]
  have h2 : k % (23456317006006033242877547941552015033125344708627481473 - 1) = 1 := by rw [hk]
  have h3 : 0 < k := by rw [hk]; decide
  have h4 : N = 21723312969290745976503807351578686366206619900737427253 * 23456317006006033242877547941552015033125344708627481473 := by rw [hN]
  rw [h4]
  exact back_of fm_21723312969290745976503807351578686366206619900737427253 fm_23456317006006033242877547941552015033125344708627481473 (by decide +kernel) h1 h2 h3 x
end Go.Proofs.YtaookoejdnkkoaaGreatDoor
