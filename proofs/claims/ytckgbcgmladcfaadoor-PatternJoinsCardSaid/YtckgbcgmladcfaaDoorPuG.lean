import Derived.Test.YtckgbcgmladcfaaDoorPuC
import Derived.Test.YtckgbcgmladcfaaDoorPtX
namespace Go.Proofs.YtckgbcgmladcfaaDoor
open Go.RowKit

/-! A set's bytes, and its runs. -/
theorem and_nat (a b : Nat) (ha : a < 18446744073709551616) (hb : b < 18446744073709551616) : bits BinOp.and IntKind.u64 (a : Int) (b : Int) = ((a &&& b : Nat) : Int) := by
  have h1 : (BitVec.ofInt 64 (a : Int)).toNat = a := by
    rw [BitVec.ofInt_natCast, BitVec.toNat_ofNat]; exact Nat.mod_eq_of_lt (by omega)
  have h2 : (BitVec.ofInt 64 (b : Int)).toNat = b := by
    rw [BitVec.ofInt_natCast, BitVec.toNat_ofNat]; exact Nat.mod_eq_of_lt (by omega)
  have hx : a &&& b < 2 ^ 64 := Nat.and_lt_two_pow _ (by omega)
  show IntKind.u64.wrap ((BitVec.ofInt 64 (a : Int) &&& BitVec.ofInt 64 (b : Int)).toNat : Int) = _
  rw [BitVec.toNat_and, h1, h2, IntKind.wrap_u64]
  omega
theorem shr_bit (x r : Nat) (hx : x < 18446744073709551616) : (bits BinOp.and IntKind.u64 ((x : Int) / 2 ^ r) 1 == 1) = x.testBit r := by
  have e : ((x : Int) / 2 ^ r) = ((x / 2 ^ r : Nat) : Int) := by
    rw [Int.natCast_ediv, Int.natCast_pow]
    rfl
  have hlt : x / 2 ^ r < 18446744073709551616 := Nat.lt_of_le_of_lt (Nat.div_le_self _ _) hx
  rw [e]
  have := and_nat (x / 2 ^ r) 1 hlt (by decide)
  rw [show (1 : Int) = ((1 : Nat) : Int) from rfl, this, Nat.and_one_is_mod, Nat.testBit_eq_decide_div_mod_eq, Bool.eq_iff_iff]
  simp
  omega
set_option maxHeartbeats 1000000 in
theorem p_has (s : S4) (c : Nat) (w : World) (hs : s.fit) (hc : c < 256) : Calls Tryd.prog 35 #[s.val, .int .u8 (c : Nat)] w fun e w' => e = .returned (.bool (s.has c)) ∧ w' = w.alloc (.cells s.cells.toArray 24) := by
  obtain ⟨q, hq⟩ : ∃ q, c / 64 = q := ⟨_, rfl⟩
  obtain ⟨r, hr⟩ : ∃ r, c % 64 = r := ⟨_, rfl⟩
  have hq4 : q < 4 := by omega
  have hr64 : r < 64 := by omega
  have eq1 : ((c : Int) / 64) = (q : Int) := by omega
  have er1 : ((c : Int) % 64) = (r : Int) := by omega
  have HS : Hid (SB (w.alloc (.cells s.cells.toArray 24)) w.heap.size s) := CB.new w _ s.cells
  have hw := HS.out.word q hq4
  obtain ⟨x, hx⟩ : ∃ x, s.word q = x := ⟨_, rfl⟩
  rw [hx] at hw
  have hx64 : x < 18446744073709551616 := by rw [← hx]; exact S4.word_lt hs q
  unfold S4.has
  rw [hq, hr, hx]
  clear HS hw
  rcases (show q = 0 ∨ q = 1 ∨ q = 2 ∨ q = 3 by omega) with rfl | rfl | rfl | rfl
  all_goals
    unfold S4.word at hx
    simp only [] at hx
    go_enter Tryd.func35, Tryd.ntmps35
    go_wp2
    go_ret
    subst hx
    exact ⟨ret_bool (shr_bit _ _ hx64), rfl⟩
end Go.Proofs.YtckgbcgmladcfaaDoor
