import Derived.Test.YtaookoejdnkkoaaDoorQHv
import Derived.Test.YtaookoejdnkkoaaDoorQGB
import Derived.Deep.RegionHeld3
import Derived.Laws.CopyOwn
import Derived.Shelf.RegionOpenPlain
import Derived.Test.YtaookoejdnkkoaaDoorQ02
import Derived.Test.YtaookoejdnkkoaaDoorCards
import Derived.Test.YtaookoejdnkkoaaDoorTie
import Derived.ChangeMaps5
import Derived.Deep.DeepHandedRow
import Derived.Deep.RegionLaw
import Derived.Deep.RegionWith
import Derived.LaidOnce
import Derived.Laws.ComplexArith
import Derived.Laws.Entries
import Derived.Lay
import Derived.Lib.OthersKept
import Derived.OpenShut
import Derived.Outline
import Derived.ProofKit
import Derived.ScopeJumps
import Derived.SevenTiedAt
import Derived.Shelf.Spec.TrailingZeros
import Derived.WalkMore
namespace Go.Proofs.YtaookoejdnkkoaaDoor
open Go.RowKit

theorem byte_step_r {U x j : Nat} (hj : j < 8) : 256 * (U * 256 ^ j + x / 2 ^ (64 - 8 * j)) + x / 2 ^ (56 - 8 * j) % 256 = U * 256 ^ (j + 1) + x / 2 ^ (64 - 8 * (j + 1)) := by
  rw [show 64 - 8 * (j + 1) = 56 - 8 * j by omega, show 64 - 8 * j = (56 - 8 * j) + 8 by omega, Nat.pow_add 2, ← Nat.div_div_eq_div_mul, show (2 : Nat) ^ 8 = 256 from rfl]
  generalize x / 2 ^ (56 - 8 * j) = y
  rw [Nat.mul_add, Nat.pow_succ, show 256 * (U * 256 ^ j) = U * (256 ^ j * 256) by rw [Nat.mul_comm, Nat.mul_assoc]]
  omega
theorem u8s_snoc2 (xs : List Nat) (z : Nat) : u8s xs ++ [.int .u8 (z : Int)] = u8s (xs ++ [z]) := by simp [u8s]
theorem v32_lt_of_top {xs ys : List Nat} {k : Nat} (bx : Hd xs) (hl : xs.length = ys.length) (hk : k < xs.length) (h : xs.drop (k + 1) = ys.drop (k + 1)) (hlt : at0 xs k < at0 ys k) : v32 xs < v32 ys := by
  rw [v32_at xs k hk, v32_at ys k (by omega), h]
  have h1 := v32_lt (bx.take k)
  rw [List.length_take, Nat.min_eq_left (by omega)] at h1
  generalize v32 (ys.drop (k + 1)) = t
  have h2 : 4294967296 ^ k * (at0 xs k + 4294967296 * t + 1) ≤ 4294967296 ^ k * (at0 ys k + 4294967296 * t) := Nat.mul_le_mul_left _ (by omega)
  rw [Nat.mul_add] at h2
  omega
end Go.Proofs.YtaookoejdnkkoaaDoor
