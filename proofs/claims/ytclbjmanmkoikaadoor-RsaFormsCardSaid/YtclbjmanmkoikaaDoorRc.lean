import Derived.Test.YtclbjmanmkoikaaDoorRa
import Derived.Test.YtclbjmanmkoikaaDoorRb
import Derived.Deep.DeepCutAuto
import Derived.Test.YtclbjmanmkoikaaDoorHv
namespace Go.Proofs.YtclbjmanmkoikaaDoor
open Go.RowKit

theorem own64_later {w w' : World} {B : Nat} {v : Value} {zs : List Nat} (h : own64 w B v zs) (hb : Below w.heap.size w w') : own64 w' B v zs := (Chg.of_below hb).owns h (fun k hk => by have := h.lt k hk; omega)
theorem over_step {Y D R x t R' : Nat} (hY : 0 < Y) (h : x + 4294967296 * R = t * Y + R') (hR : R' < Y) : (x + 4294967296 * (D * Y + R)) / Y = 4294967296 * D + t ∧ (x + 4294967296 * (D * Y + R)) % Y = R' := by
  have e : x + 4294967296 * (D * Y + R) = R' + Y * (4294967296 * D + t) := by
    rw [Nat.mul_add Y, Nat.mul_comm Y t, Nat.mul_left_comm Y, Nat.mul_comm Y D, Nat.mul_add]
    omega
  rw [e, Nat.add_mul_div_left _ _ hY, Nat.add_mul_mod_self_left, Nat.div_eq_of_lt hR, Nat.mod_eq_of_lt hR]
  exact ⟨by omega, rfl⟩
theorem over_top {hs gs : List Nat} {Y : Nat} (hg : Num32 gs Y) (hY : 0 < Y) (bh : Hd hs) : v32 (hs.drop (hs.length + 1 - gs.length)) < Y := by
  have h1 := v32_lt (show Hd (hs.drop (hs.length + 1 - gs.length)) from fun x hx => bh x (List.mem_of_mem_drop hx))
  rw [List.length_drop] at h1
  have h2 : ¬ Y < 4294967296 ^ (gs.length - 1) := fun h => by
    have h3 := (hg.len_le (k := gs.length - 1)).2 h
    have h4 : gs.length ≠ 0 := fun h => by
      have h5 := hg.vl
      rw [List.length_eq_zero_iff.1 h] at h5
      have : v32 ([] : List Nat) = 0 := rfl
      omega
    omega
  have h3 : (4294967296 : Nat) ^ (hs.length - (hs.length + 1 - gs.length)) ≤ 4294967296 ^ (gs.length - 1) := Nat.pow_le_pow_right (by decide) (by omega)
  omega

theorem below_dr (w : World) (m : Nat) : Below w.heap.size w (w.drewN m) := ⟨rfl, rfl, rfl, Nat.le_refl _, fun _ _ => rfl⟩
/-- What Over's loops hold: the rest, the quotient's digits in their block. -/
structure OvS (B2 B3 : Nat) (w2 : World) (lx : Nat) (v : Value) (rs qs : List Nat) (W : World) : Prop where
  r : own64 W B3 v rs
  q : own64 W B2 (.slice (some ⟨B2, 0, none⟩) lx lx) qs
  b : Below B2 w2 W
  s : B3 ≤ W.heap.size
  lt : B2 < B3
theorem OvS.later {B2 B3 : Nat} {w2 : World} {lx : Nat} {v : Value} {rs qs : List Nat} {W W' : World} (h : OvS B2 B3 w2 lx v rs qs W) (hb : Below W.heap.size W W') : OvS B2 B3 w2 lx v rs qs W' :=
  ⟨own64_later h.r hb, own64_later h.q hb, h.b.trans (hb.mono (by have := h.s; have := h.lt; omega)), Nat.le_trans h.s hb.size, h.lt⟩
theorem OvS.rest {B2 B3 : Nat} {w2 : World} {lx : Nat} {v : Value} {rs qs : List Nat} {W : World} (h : OvS B2 B3 w2 lx v rs qs W) {v' : Value} {rs' : List Nat} (hr : own64 W B3 v' rs') : OvS B2 B3 w2 lx v' rs' qs W :=
  ⟨hr, h.q, h.b, h.s, h.lt⟩
theorem OvS.setq {B2 B3 : Nat} {w2 : World} {lx : Nat} {v : Value} {rs qs : List Nat} {W : World} (h : OvS B2 B3 w2 lx v rs qs W) (j x : Nat) : OvS B2 B3 w2 lx v rs (qs.set j x) (W.setCell ⟨B2, j, none⟩ (.int .u64 (x : Nat))) := by
  have hc : Chg (fun k => k = B2) W (W.setCell ⟨B2, j, none⟩ (.int .u64 (x : Nat))) := (Chg.refl (fun k => k = B2) _).setCell (p := ⟨B2, j, none⟩) rfl _
  refine ⟨hc.owns h.r fun k hk he => ?_, h.q.set j x, h.b.setCell (p := ⟨B2, j, none⟩) (Nat.le_refl _) _, ?_, h.lt⟩
  · rcases h.r.2 with ⟨hv, _⟩ | ⟨g, cap, cur, hv, hg, _⟩
    · rw [hv] at hk; cases hk
    · rw [hv] at hk
      have : k = g := by simpa [Value.ownBlock] using hk.symm
      have := h.lt
      omega
  · have := h.s; simpa using this

set_option exponentiation.threshold 10000 in
theorem bits_8192 {n k : Nat} (h : BitsIs n k) (hn : n < 18446744073709551616 ^ 128) : k ≤ 8192 := by
  rcases h with ⟨_, rfl⟩ | ⟨h0, h1, _⟩
  · decide
  · rw [pow_64] at hn
    exact Decidable.byContradiction fun hc => by
      have : (2 : Nat) ^ (64 * 128) ≤ 2 ^ (k - 1) := Nat.pow_le_pow_right (by decide) (by omega)
      omega
set_option exponentiation.threshold 10000 in
theorem bits_up {v k m : Nat} (h : v < 2 ^ k) (hm : k + m ≤ 8192) : v * 2 ^ m < 18446744073709551616 ^ 128 := by
  rw [pow_64]
  have h1 : v * 2 ^ m < 2 ^ k * 2 ^ m := Nat.mul_lt_mul_of_pos_right h (Nat.two_pow_pos _)
  rw [← Nat.pow_add] at h1
  exact Nat.lt_of_lt_of_le h1 (Nat.pow_le_pow_right (by decide) (by omega))
set_option exponentiation.threshold 10000 in
theorem bits_past {v k m : Nat} (h0 : 0 < k) (h : 2 ^ (k - 1) ≤ v) (hm : 8192 < k + m) : 18446744073709551616 ^ 128 ≤ v * 2 ^ m := by
  rw [pow_64]
  have h1 : 2 ^ (k - 1) * 2 ^ m ≤ v * 2 ^ m := Nat.mul_le_mul_right _ h
  rw [← Nat.pow_add] at h1
  exact Nat.le_trans (Nat.pow_le_pow_right (by decide) (by omega)) h1

end Go.Proofs.YtclbjmanmkoikaaDoor
