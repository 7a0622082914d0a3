import Derived.Test.YtaookoejdnkkoaaGreatDoorQNmKnS
namespace Go.Proofs.YtaookoejdnkkoaaGreatDoor
open Go.RowKit

/-! NamesKnown: how long a written key is, at least. -/
theorem key_long {n e : Nat} {b : List Nat} (h : KeyB n e b) (hn : 256 ^ 20 ≤ n) : 20 < b.length := by
  obtain ⟨cn, ce, xn, xe, h1, h2, h3, h4, h5⟩ := h
  have hv := bval_lt h1.b8
  rw [h1.val] at hv
  have hc : 20 < cn.length := by
    rcases Nat.lt_or_ge 20 cn.length with h | h
    · exact h
    · exfalso
      have : (256 : Nat) ^ cn.length ≤ 256 ^ 20 := Nat.pow_le_pow_right (by decide) h
      omega
  have k3 := (h3.of (post := []))
  have k5 := (h5.of (post := []))
  have q3 := k3.2.2.2
  have q5 := k5.2.2.2
  rw [List.length_append] at q5
  omega
theorem kn0_big : 256 ^ 20 ≤ val (knL 0) := by decide +kernel
end Go.Proofs.YtaookoejdnkkoaaGreatDoor
