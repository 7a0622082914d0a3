import Derived.Test.YteanpdiceaijhaaDoorMulA
import Derived.Lib.ItoaNum
namespace Go.Proofs.YteanpdiceaijhaaDoor
open Go.RowKit

/-- One digit of a long division by two halves. -/
structure Dig (Y y1 y0 U u1 : Nat) : Prop where
  hY : Y = y1 * 4294967296 + y0
  h1 : 2147483648 ≤ y1
  h1b : y1 < 4294967296
  h0 : y0 < 4294967296
  hU : U < Y
  hu : u1 < 4294967296
namespace Dig
variable {Y y1 y0 U u1 q r : Nat}
theorem qlt (h : Dig Y y1 y0 U u1) : (U * 4294967296 + u1) / Y < 4294967296 := by
  have hY : 0 < Y := Nat.lt_of_le_of_lt (Nat.zero_le _) h.hU
  rw [Nat.div_lt_iff_lt_mul hY]
  have h1 := h.hU
  have h2 := h.hu
  have : (U + 1) * 4294967296 ≤ Y * 4294967296 := Nat.mul_le_mul_right _ h1
  omega
theorem start (h : Dig Y y1 y0 U u1) : (U * 4294967296 + u1) / Y ≤ U / y1 ∧ U / y1 ≤ 4294967297 := by
  have hy1 := h.h1
  have hu := h.hu
  have hU := h.hU
  have hY := h.hY
  have h0 := h.h0
  constructor
  · rw [Nat.le_div_iff_mul_le (by omega)]
    have hd := Nat.div_mul_le_self (U * 4294967296 + u1) Y
    generalize (U * 4294967296 + u1) / Y = q at *
    have e : q * Y = q * y1 * 4294967296 + q * y0 := by rw [hY, Nat.mul_add, Nat.mul_assoc]
    omega
  · refine Nat.le_of_lt_succ ?_
    rw [Nat.div_lt_iff_lt_mul (by omega)]
    have : (4294967297 + 1) * y1 = y1 * 4294967296 + 2 * y1 := by omega
    omega
theorem more (h : Dig Y y1 y0 U u1) (hr : U = q * y1 + r) (ht : 4294967296 ≤ q ∨ 4294967296 * r + u1 < q * y0) : (U * 4294967296 + u1) / Y < q := by
  rcases ht with ht | ht
  · exact Nat.lt_of_lt_of_le h.qlt ht
  · have hY : 0 < Y := Nat.lt_of_le_of_lt (Nat.zero_le _) h.hU
    rw [Nat.div_lt_iff_lt_mul hY]
    have e : q * Y = q * y1 * 4294967296 + q * y0 := by rw [h.hY, Nat.mul_add, Nat.mul_assoc]
    rw [e, hr]
    generalize q * y1 = t
    omega
theorem done (h : Dig Y y1 y0 U u1) (hr : U = q * y1 + r) (hq : (U * 4294967296 + u1) / Y ≤ q) (hf : q * y0 ≤ 4294967296 * r + u1) : q = (U * 4294967296 + u1) / Y := by
  have hY : 0 < Y := Nat.lt_of_le_of_lt (Nat.zero_le _) h.hU
  refine Nat.le_antisymm ?_ hq
  rw [Nat.le_div_iff_mul_le hY]
  have e : q * Y = q * y1 * 4294967296 + q * y0 := by rw [h.hY, Nat.mul_add, Nat.mul_assoc]
  rw [e, hr]
  generalize q * y1 = t
  omega
/-- What is left is below the divisor, and wraps to itself. -/
theorem rest (h : Dig Y y1 y0 U u1) (hY : Y < 18446744073709551616) (hq : q = (U * 4294967296 + u1) / Y) :
    ((((U : Int) * 4294967296 + u1) % 18446744073709551616 - ((q : Int) * Y) % 18446744073709551616) % 18446744073709551616) = (((U * 4294967296 + u1) % Y : Nat) : Int) := by
  subst hq
  have hY0 : 0 < Y := Nat.lt_of_le_of_lt (Nat.zero_le _) h.hU
  have hm := Nat.mod_lt (U * 4294967296 + u1) hY0
  have hd := Nat.div_add_mod (U * 4294967296 + u1) Y
  have e : ((((U * 4294967296 + u1) / Y : Nat) : Int) * (Y : Int)) = (((U * 4294967296 + u1) / Y * Y : Nat) : Int) := by rw [Int.natCast_mul]
  rw [e]
  rw [Nat.mul_comm Y] at hd
  generalize (U * 4294967296 + u1) / Y * Y = t at *
  generalize (U * 4294967296 + u1) % Y = m at *
  omega
end Dig

def LzPost (y : Nat) (w : World) (e : Ending) (w' : World) : Prop := ∃ s : Nat, e = .returned (.int .i64 (s : Nat)) ∧ s ≤ 63 ∧ Hid (9223372036854775808 ≤ y * 2 ^ s ∧ y * 2 ^ s < 18446744073709551616) ∧ w = w'
theorem lz64_any (y : Nat) (h0 : 0 < y) (hy : y < 18446744073709551616) (w : World) :
    Calls Tryd.prog 105 #[.int .u64 y] w (LzPost y w) :=
  (Tryd.bits_LeadingZeros64 (y : Int) w (by omega) (by omega)).mono fun e w' ⟨h1, h2⟩ => by
    obtain ⟨b1, b2, b3⟩ := Lib.bitLenAux_bounds 64 y (by simpa using hy) (by omega)
    have hb : Lib.bitLenAux 64 y ≤ 64 := Lib.bitLenAux_le 64 y 64 (by simpa using hy)
    rw [Int.toNat_natCast] at h1
    have e1 : Lib.bitLen y = Lib.bitLenAux 64 y := rfl
    rw [e1] at h1
    generalize Lib.bitLenAux 64 y = n at *
    refine ⟨64 - n, by rw [h1]; congr 2; omega, by omega, ⟨?_, ?_⟩, h2.symm⟩
    · have : 2 ^ (n - 1) * 2 ^ (64 - n) ≤ y * 2 ^ (64 - n) := Nat.mul_le_mul_right _ b2
      rw [← Nat.pow_add, show n - 1 + (64 - n) = 63 by omega] at this
      simpa using this
    · have : y * 2 ^ (64 - n) < 2 ^ n * 2 ^ (64 - n) := Nat.mul_lt_mul_of_pos_right b3 (Nat.two_pow_pos _)
      rw [← Nat.pow_add, show n + (64 - n) = 64 by omega] at this
      simpa using this
end Go.Proofs.YteanpdiceaijhaaDoor
