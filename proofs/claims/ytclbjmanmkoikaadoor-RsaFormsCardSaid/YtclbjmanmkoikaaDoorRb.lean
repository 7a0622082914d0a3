import Derived.Test.YtclbjmanmkoikaaDoorHv
namespace Go.Proofs.YtclbjmanmkoikaaDoor
open Go.RowKit

theorem byte_step_r {U x j : Nat} (hj : j < 8) : 256 * (U * 256 ^ j + x / 2 ^ (64 - 8 * j)) + x / 2 ^ (56 - 8 * j) % 256 = U * 256 ^ (j + 1) + x / 2 ^ (64 - 8 * (j + 1)) := by
  rw [show 64 - 8 * (j + 1) = 56 - 8 * j by omega, show 64 - 8 * j = (56 - 8 * j) + 8 by omega, Nat.pow_add 2, ← Nat.div_div_eq_div_mul, show (2 : Nat) ^ 8 = 256 from rfl]
  generalize x / 2 ^ (56 - 8 * j) = y
  rw [Nat.mul_add, Nat.pow_succ, show 256 * (U * 256 ^ j) = U * (256 ^ j * 256) by rw [Nat.mul_comm, Nat.mul_assoc]]
  omega
theorem u8s_snoc2 (xs : List Nat) (z : Nat) : u8s xs ++ [.int .u8 (z : Int)] = u8s (xs ++ [z]) := by simp [u8s]
theorem set_v32 {ws : List Nat} {q y : Nat} (hq : q < ws.length) : v32 (ws.set q y) + 4294967296 ^ q * at0 ws q = v32 ws + 4294967296 ^ q * y := by
  have h1 := v32_at ws q hq
  have h2 := v32_at (ws.set q y) q (by simpa using hq)
  rw [List.take_set_of_le (Nat.le_refl q), drop_set_succ, at0_set hq, if_pos rfl] at h2
  rw [h1, h2, Nat.mul_add, Nat.mul_add]
  omega
/-- One digit of a row of a product. -/
theorem times_step {ws ys : List Nat} {i k x y o cy lo hi V : Nat} (hw : i + k < ws.length) (ho : at0 ws (i + k) = o) (hk : k < ys.length) (hy : at0 ys k = y) (hs : lo + 4294967296 * hi = o + x * y + cy)
    (hv : v32 ws + 4294967296 ^ (i + k) * cy = V + 4294967296 ^ i * (x * v32 (ys.take k))) :
    v32 (ws.set (i + k) lo) + 4294967296 ^ (i + (k + 1)) * hi = V + 4294967296 ^ i * (x * v32 (ys.take (k + 1))) := by
  have h1 := set_v32 (y := lo) hw
  rw [ho] at h1
  rw [take_v32_snoc hk, hy, Nat.mul_add, Nat.mul_add]
  have h2 : 4294967296 ^ i * (x * (4294967296 ^ k * y)) = 4294967296 ^ (i + k) * (x * y) := by
    rw [Nat.pow_add]; simp only [Nat.mul_assoc, Nat.mul_comm, Nat.mul_left_comm]
  rw [h2, ← Nat.add_assoc i k 1, Nat.pow_succ, Nat.mul_assoc]
  have h3 : 4294967296 ^ (i + k) * (lo + 4294967296 * hi) = 4294967296 ^ (i + k) * (o + x * y + cy) := by rw [hs]
  rw [Nat.mul_add, Nat.mul_add, Nat.mul_add] at h3
  omega

end Go.Proofs.YtclbjmanmkoikaaDoor
