import Derived.Test.YtkghgfiindpcjaaGC
import Derived.Test.YtkghgfiindpcjaaWa
namespace Go.Proofs.Ytkghgfiindpcjaa
open Go.RowKit

theorem wrap_shl (x r : Nat) : IntKind.u64.wrap ((x : Int) * 2 ^ r) = ((x * 2 ^ r % 18446744073709551616 : Nat) : Int) := by
  rw [IntKind.wrap_u64, show (x : Int) * 2 ^ r = ((x * 2 ^ r : Nat) : Int) by simp]; omega
theorem shl_low (x r : Nat) (hr : r ≤ 64) : x * 2 ^ r % 18446744073709551616 = 2 ^ r * (x % 2 ^ (64 - r)) := by
  have e : (18446744073709551616 : Nat) = 2 ^ r * 2 ^ (64 - r) := by rw [← Nat.pow_add, show r + (64 - r) = 64 by omega]
  rw [e, Nat.mul_comm x, Nat.mul_mod_mul_left]
theorem shl_split (x r : Nat) (hr : r ≤ 64) : x * 2 ^ r = x * 2 ^ r % 18446744073709551616 + 18446744073709551616 * (x / 2 ^ (64 - r)) := by
  rw [shl_low x r hr]
  have e : (18446744073709551616 : Nat) = 2 ^ r * 2 ^ (64 - r) := by rw [← Nat.pow_add, show r + (64 - r) = 64 by omega]
  rw [e, Nat.mul_assoc, ← Nat.mul_add, Nat.mod_add_div, Nat.mul_comm]
theorem or_low (y x r : Nat) (hr : r ≤ 64) (hy : y < 2 ^ r) : bits BinOp.or IntKind.u64 (y : Int) ((x * 2 ^ r % 18446744073709551616 : Nat) : Int) = ((y + x * 2 ^ r % 18446744073709551616 : Nat) : Int) ∧ y + x * 2 ^ r % 18446744073709551616 < 18446744073709551616 := by
  have e : (18446744073709551616 : Nat) = 2 ^ r * 2 ^ (64 - r) := by rw [← Nat.pow_add, show r + (64 - r) = 64 by omega]
  have hb : 2 ^ r * (x % 2 ^ (64 - r)) + 2 ^ r ≤ 18446744073709551616 := by
    rw [e, ← Nat.mul_succ]
    exact Nat.mul_le_mul_left _ (Nat.mod_lt _ (Nat.two_pow_pos _))
  rw [shl_low x r hr]
  generalize x % 2 ^ (64 - r) = m at *
  have h1 : (BitVec.ofInt 64 (y : Int)).toNat = y := by
    rw [BitVec.ofInt_natCast, BitVec.toNat_ofNat]; exact Nat.mod_eq_of_lt (by omega)
  have h2 : (BitVec.ofInt 64 ((2 ^ r * m : Nat) : Int)).toNat = 2 ^ r * m := by
    rw [BitVec.ofInt_natCast, BitVec.toNat_ofNat]; exact Nat.mod_eq_of_lt (by have := Nat.two_pow_pos r; omega)
  refine ⟨?_, by omega⟩
  show IntKind.u64.wrap ((BitVec.ofInt 64 (y : Int) ||| BitVec.ofInt 64 ((2 ^ r * m : Nat) : Int)).toNat : Int) = _
  rw [BitVec.toNat_or, h1, h2, Nat.or_comm, ← Nat.two_pow_add_eq_or_of_lt hy, IntKind.wrap_u64]
  omega
theorem shr_top (x r : Nat) (hx : x < 18446744073709551616) (hr : r < 64) : x / 2 ^ (64 - r) < 2 ^ r := by
  rw [Nat.div_lt_iff_lt_mul (Nat.two_pow_pos _), ← Nat.pow_add, show r + (64 - r) = 64 by omega]; exact hx
theorem lift_step {ws xs : List Nat} {i k p x y r s lo t : Nat} (hi : i < xs.length) (hx : at0 xs i = x) (h4 : x * 2 ^ r = lo + 18446744073709551616 * t) (hs : s = 64 * k + r) (hp : p = i + k) (hy : at0 ws p = y) (hw : p + 1 < ws.length) (hz : at0 ws (p + 1) = 0)
    (hv : val ws = val (xs.take i) * 2 ^ s) : val ((ws.set p (y + lo)).set (p + 1) t) = val (xs.take (i + 1)) * 2 ^ s := by
  have h1 := set_val (ws := ws) (q := p) (y := y + lo) (by omega)
  have h2 := set_val (ws := ws.set p (y + lo)) (q := p + 1) (y := t) (by simp; omega)
  have h3 : at0 (ws.set p (y + lo)) (p + 1) = 0 := by rw [at0_set (by omega), if_neg (by omega)]; exact hz
  rw [h3, Nat.mul_zero, Nat.add_zero] at h2
  rw [hy] at h1
  rw [h2, take_val_snoc hi, hx, Nat.add_mul, ← hv]
  have h5 : 18446744073709551616 ^ p * (x * 2 ^ r) = 18446744073709551616 ^ i * x * 2 ^ s := by
    rw [hp, hs, Nat.pow_add, Nat.pow_add, Nat.pow_mul, show (2 : Nat) ^ 64 = 18446744073709551616 from rfl]
    simp only [Nat.mul_assoc, Nat.mul_comm, Nat.mul_left_comm]
  rw [← h5, h4, Nat.mul_add, Nat.pow_succ, Nat.mul_assoc]
  rw [Nat.mul_add] at h1
  omega
theorem val_digits {zs : List Nat} {V : Nat} (h : ∀ q, q < zs.length → at0 zs q = V / 18446744073709551616 ^ q % 18446744073709551616) : ∀ m, m ≤ zs.length → val (zs.take m) = V % 18446744073709551616 ^ m := by
  intro m
  induction m with
  | zero => intro _; simp [val, Nat.mod_one]
  | succ m ih =>
    intro hm
    rw [take_val_snoc (by omega), ih (by omega), h m (by omega), Nat.pow_succ, Nat.mod_mul]
/-- A limb of what is moved down. -/
theorem sink_digit {xs : List Nat} {k r q x x1 : Nat} (bx : Bd xs) (hr : r < 64) (h : k + q < xs.length) (hx : at0 xs (k + q) = x) (hx1 : at0 xs (k + q + 1) = x1) :
    val xs / 2 ^ (64 * k + r) / 18446744073709551616 ^ q % 18446744073709551616 = x / 2 ^ r + x1 * 2 ^ (64 - r) % 18446744073709551616 := by
  have e : (18446744073709551616 : Nat) = 2 ^ r * 2 ^ (64 - r) := by rw [← Nat.pow_add, show r + (64 - r) = 64 by omega]
  have hd : val xs / 18446744073709551616 ^ (k + q) = val (xs.drop (k + q)) := by
    have h1 := val_at xs (k + q) h
    have h2 := val_lt (bx.take (k + q))
    rw [List.length_take, Nat.min_eq_left (by omega)] at h2
    rw [h1, drop_val h, Nat.add_comm, Nat.mul_add_div (Nat.pow_pos (by decide)), Nat.div_eq_of_lt h2, Nat.add_zero]
  have h3 : val xs / 2 ^ (64 * k + r) / 18446744073709551616 ^ q = val (xs.drop (k + q)) / 2 ^ r := by
    rw [← hd, Nat.div_div_eq_div_mul, Nat.div_div_eq_div_mul, Nat.pow_add, Nat.pow_mul, show (2 : Nat) ^ 64 = 18446744073709551616 from rfl, Nat.pow_add]
    congr 1
    simp only [Nat.mul_assoc, Nat.mul_comm]
  rw [h3, drop_val h, hx]
  have hy : ∃ u, val (xs.drop (k + q + 1)) = x1 + 18446744073709551616 * u := by
    by_cases h4 : k + q + 1 < xs.length
    · exact ⟨_, by rw [drop_val h4, hx1]⟩
    · refine ⟨0, ?_⟩
      rw [List.drop_of_length_le (by omega), ← hx1]
      unfold at0 List.getD
      rw [List.getElem?_eq_none (by omega)]
      rfl
  obtain ⟨u, hu⟩ := hy
  rw [hu, shl_low x1 (64 - r) (by omega), show 64 - (64 - r) = r by omega]
  have h5 : x + 18446744073709551616 * (x1 + 18446744073709551616 * u) = 2 ^ r * (2 ^ (64 - r) * (x1 + 18446744073709551616 * u)) + x := by
    rw [← Nat.mul_assoc, ← e, Nat.add_comm]
  rw [h5, Nat.mul_add_div (Nat.two_pow_pos _)]
  have hx64 : x < 18446744073709551616 := by rw [← hx]; exact bx.at0 _
  have h6 : x / 2 ^ r < 2 ^ (64 - r) := by
    rw [Nat.div_lt_iff_lt_mul (Nat.two_pow_pos _), Nat.mul_comm, ← e]; exact hx64
  have h7 : x1 + 18446744073709551616 * u = 2 ^ r * (x1 / 2 ^ r + 2 ^ (64 - r) * u) + x1 % 2 ^ r := by
    rw [Nat.mul_add, ← Nat.mul_assoc, ← e]
    have := Nat.div_add_mod x1 (2 ^ r)
    omega
  rw [h7, Nat.mul_add, ← Nat.mul_assoc, Nat.mul_comm (2 ^ (64 - r)) (2 ^ r), ← e, Nat.add_assoc, Nat.mul_add_mod]
  have hm : x1 % 2 ^ r < 2 ^ r := Nat.mod_lt _ (Nat.two_pow_pos _)
  have h8 : 2 ^ (64 - r) * (x1 % 2 ^ r) + 2 ^ (64 - r) ≤ 18446744073709551616 := by
    rw [e, Nat.mul_comm (2 ^ r), ← Nat.mul_succ]
    exact Nat.mul_le_mul_left _ hm
  rw [Nat.mod_eq_of_lt (by omega), Nat.add_comm]

/-- What sinking leaves: all but its own block. -/
structure Sunk (S : Nat → Prop) (B : Nat) (w w' : World) : Prop where
  below : Below B w w'
  chg : Chg S w w'
theorem Sunk.refl (S : Nat → Prop) (B : Nat) (w : World) : Sunk S B w w := ⟨Below.refl _ _, Chg.refl _ _⟩
theorem Sunk.setCell {S : Nat → Prop} {B : Nat} {a w : World} (h : Sunk S B a w) {p : Addr} (hp : B ≤ p.block) (hs : S p.block) (u : Value) : Sunk S B a (w.setCell p u) := ⟨h.below.setCell hp u, h.chg.setCell hs u⟩

end Go.Proofs.Ytkghgfiindpcjaa
