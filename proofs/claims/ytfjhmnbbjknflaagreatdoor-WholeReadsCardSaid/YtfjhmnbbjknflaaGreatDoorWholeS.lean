import Derived.Test.YtfjhmnbbjknflaaGreatDoorWb
import Derived.Test.YtfjhmnbbjknflaaGreatDoorBkW
namespace Go.Proofs.YtfjhmnbbjknflaaGreatDoor
open Go.RowKit

theorem take_pos (xs : List Nat) (k n : Nat) (h : xs.length = n) (hk : n ≤ k) : xs.take k = xs := List.take_of_length_le (by omega)
theorem own64_as {w : World} {B k : Nat} {v : Value} {zs ys : List Nat} (h : w.ownsRow B 61 1 v k (u64s zs)) (h1 : zs = ys) (h2 : zs.length = k) : own64 w B v ys := by
  subst h1 h2; exact h
/-- The first limbs of a number, as a whole one. -/
def SW (n : Bool) (xs : List Nat) (K : Nat) : Int := wv n (xs.take K)
theorem sw_lim (n : Bool) (xs : List Nat) (K : Nat) (bx : Bd xs) (hK : K ≤ 64) : (SW n xs K).natAbs < LIM := by
  unfold SW; rw [wv_abs]
  have h1 := val_lt (bx.take K)
  have h2 : (18446744073709551616 : Nat) ^ (xs.take K).length ≤ 18446744073709551616 ^ 64 := Nat.pow_le_pow_right (by decide) (by rw [List.length_take]; omega)
  unfold LIM; omega

set_option maxHeartbeats 1000000 in
set_option maxRecDepth 100000 in
theorem wsame_any (n : Bool) (a b : Option Addr) (l ca cb : Nat) (zs : List Nat) (w : World) (hl : zs.length = l) (hbl : l ≤ 1048576) (hra : Rd .u64 w a zs) (hrb : Rd .u64 w b zs) :
    Calls Tryz.prog 40 #[.agg #[.bool n, .slice a l ca], .agg #[.bool n, .slice b l cb]] w fun e w' => e = .returned (.bool true) ∧ Below w.heap.size w w' := by
  have hnn : (n == n) = true := by simp
  have HA := Lib.hid (fun (W : World) (h : Below w.heap.size w W) => hra.below h)
  have HB := Lib.hid (fun (W : World) (h : Below w.heap.size w W) => hrb.below h)
  clear hra hrb
  go_enter Tryz.func40, Tryz.ntmps40
  go_wp2_with fail
  have hb0 : Below w.heap.size w ((w.alloc (WO n a l ca)).alloc (WO n b l cb)) := ((Below.refl _ _).alloc (Nat.le_refl _) _).alloc (by simp) _
  refine (words_same a b l ca cb zs _ hl (by omega) (HA.out _ hb0) (HB.out _ hb0)).mono ?_
  rintro e w1 ⟨rfl, nd, rfl⟩
  have HB0 := Lib.hid (Below.drewM hb0 nd)
  clear hb0
  go_wp2
  go_ret
  exact ⟨rfl, HB0.out⟩
end Go.Proofs.YtfjhmnbbjknflaaGreatDoor
