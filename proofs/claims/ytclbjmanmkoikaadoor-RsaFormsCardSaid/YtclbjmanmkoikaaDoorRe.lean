import Derived.Test.YtclbjmanmkoikaaDoorRa
import Derived.Test.YtclbjmanmkoikaaDoorHv
namespace Go.Proofs.YtclbjmanmkoikaaDoor
open Go.RowKit

theorem plus_step {os : List Nat} {k c u x y o S T : Nat} (hl : os.length = k) (hv : v32 os + 4294967296 ^ k * c = S + T) (ho : o + 4294967296 * u = c + x + y) :
    v32 (os ++ [o]) + 4294967296 ^ (k + 1) * u = (S + 4294967296 ^ k * x) + (T + 4294967296 ^ k * y) := by
  rw [v32_snoc, hl, Nat.pow_succ]
  have h : 4294967296 ^ k * (o + 4294967296 * u) = 4294967296 ^ k * (c + x + y) := by rw [ho]
  rw [Nat.mul_add, Nat.mul_add, Nat.mul_add, ← Nat.mul_assoc] at h
  omega
end Go.Proofs.YtclbjmanmkoikaaDoor
