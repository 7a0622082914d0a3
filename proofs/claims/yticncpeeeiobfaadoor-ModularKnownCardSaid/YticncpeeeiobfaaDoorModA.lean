import Derived.Test.YticncpeeeiobfaaDoorNParts
namespace Go.Proofs.YticncpeeeiobfaaDoor
open Go.RowKit

/-- The number below m that, with y, leaves as much as x (both below m). -/
def mdiff (x y m : Nat) : Nat := if x < y then x + m - y else x - y
theorem mdiff_lt {x y m : Nat} (_hx : x < m) (_hy : y < m) : mdiff x y m < m := by
  unfold mdiff; split <;> omega
theorem mdiff_add {x y m : Nat} (hx : x < m) (hy : y < m) : (mdiff x y m + y) % m = x := by
  unfold mdiff
  split
  · rw [show x + m - y + y = x + m by omega, Nat.add_mod_right, Nat.mod_eq_of_lt hx]
  · rw [show x - y + y = x by omega, Nat.mod_eq_of_lt hx]
theorem mdiff_int {x y m : Nat} (hx : x < m) (hy : y < m) : ∃ k : Int, (mdiff x y m : Int) = x - y + k * m := by
  unfold mdiff
  split
  · exact ⟨1, by omega⟩
  · exact ⟨0, by omega⟩
/-- f times a leaves as much as r. -/
def Lv (f a r m : Nat) : Prop := ∃ k : Int, (f : Int) * a = r + k * m
theorem mod_int (x m : Nat) : ∃ k : Int, ((x % m : Nat) : Int) = x + k * m :=
  ⟨-(x / m : Nat), by
    have h := Nat.mod_add_div x m
    have h2 : ((x % m : Nat) : Int) + (m : Int) * ((x / m : Nat) : Int) = x := by rw [← Int.natCast_mul, ← Int.natCast_add, h]
    rw [Int.neg_mul, Int.mul_comm]
    omega⟩
theorem Lv.step {aF bF a A b q r m : Nat} (h1 : Lv aF a A m) (h2 : Lv bF a b m) (hq : A = q * b + r) (haF : aF < m) : Lv (mdiff aF (q * bF % m) m) a r m := by
  obtain ⟨k1, h1⟩ := h1
  obtain ⟨k2, h2⟩ := h2
  obtain ⟨k3, h3⟩ := mdiff_int haF (Nat.mod_lt (q * bF) (Nat.zero_lt_of_lt haF))
  obtain ⟨k4, h4⟩ := mod_int (q * bF) m
  have hq' : (A : Int) = q * b + r := by rw [hq]; push_cast; rfl
  have h4' : ((q * bF % m : Nat) : Int) = q * bF + k4 * m := by rw [h4]; push_cast; rfl
  refine ⟨k1 - q * k2 - k4 * a + k3 * a, ?_⟩
  rw [h3, h4']
  generalize (mdiff aF (q * bF % m) m : Int) = d at *
  generalize ((q * bF % m : Nat) : Int) = e at *
  grind
theorem Lv.zero (a m : Nat) : Lv 0 a m m := ⟨-1, by rw [Int.natCast_zero, Int.zero_mul]; omega⟩
theorem Lv.one (a m : Nat) : Lv 1 a a m := ⟨0, by simp⟩
theorem Lv.mod {f a r m : Nat} (h : Lv f a r m) : (f * a) % m = r % m := by
  obtain ⟨k, h⟩ := h
  have h1 : ((f * a : Nat) : Int) % (m : Int) = (r : Int) % m := by
    rw [Int.natCast_mul, h, Int.add_mul_emod_self_right]
  have h2 := h1
  rw [← Int.natCast_emod, ← Int.natCast_emod] at h2
  exact Int.ofNat.inj h2
theorem Lv.dvd {f a r m d : Nat} (h : Lv f a r m) (h1 : d ∣ a) (h2 : d ∣ m) : d ∣ r := by
  obtain ⟨k, h⟩ := h
  have e1 : (d : Int) ∣ (f : Int) * a := Int.dvd_mul_of_dvd_right (Int.natCast_dvd_natCast.2 h1)
  have e2 : (d : Int) ∣ k * m := Int.dvd_mul_of_dvd_right (Int.natCast_dvd_natCast.2 h2)
  have e3 : (d : Int) ∣ (r : Int) := by
    have := Int.dvd_sub e1 e2
    rw [h, Int.add_sub_cancel] at this
    exact this
  exact Int.natCast_dvd_natCast.1 e3
theorem pw_sq (A q m : Nat) : (A ^ q % m * (A ^ q % m)) % m = A ^ (2 * q) % m := by
  rw [← Nat.mul_mod, ← Nat.pow_add, Nat.two_mul]
theorem pw_mul (A q m : Nat) : (A ^ (2 * q) % m * (A % m)) % m = A ^ (2 * q + 1) % m := by
  rw [← Nat.mul_mod, Nat.pow_succ]
/-- A bit of a list of limbs. -/
theorem limb_bit {xs : List Nat} (h : Bd xs) (k : Nat) (hk : k / 64 < xs.length) : at0 xs (k / 64) / 2 ^ (k % 64) % 2 = val xs / 2 ^ k % 2 := by
  rw [at0_val h _ hk]
  have e : val xs / 2 ^ k = val xs / 18446744073709551616 ^ (k / 64) / 2 ^ (k % 64) := by
    rw [Nat.div_div_eq_div_mul, show (18446744073709551616 : Nat) = 2 ^ 64 by decide, ← Nat.pow_mul, ← Nat.pow_add, Nat.div_add_mod]
  rw [e]
  generalize val xs / 18446744073709551616 ^ (k / 64) = V
  have hs : k % 64 < 64 := Nat.mod_lt _ (by decide)
  generalize k % 64 = s at *
  rw [show (18446744073709551616 : Nat) = 2 ^ s * 2 ^ (64 - s) by rw [← Nat.pow_add, show s + (64 - s) = 64 by omega], Nat.mod_mul_right_div_self]
  have : (2 : Nat) ∣ 2 ^ (64 - s) := ⟨2 ^ (63 - s), by rw [← Nat.pow_succ', show 64 - s = 63 - s + 1 by omega]⟩
  exact Nat.mod_mod_of_dvd _ this
theorem half_step (N k : Nat) : N / 2 ^ k = 2 * (N / 2 ^ (k + 1)) + N / 2 ^ k % 2 := by
  rw [Nat.pow_succ, ← Nat.div_div_eq_div_mul]; omega
end Go.Proofs.YticncpeeeiobfaaDoor
