import Derived.Test.YtclbjmanmkoikaaGreatDoorNParts
import Derived.Test.YtclbjmanmkoikaaGreatDoorHv
namespace Go.Proofs.YtclbjmanmkoikaaGreatDoor
open Go.RowKit

theorem n_bytes {B : Nat} {w : World} {L : List (Value × Nat × Bool)} {v1 : Value} {n1 : Nat} {k1 : Bool} (hE : NEnv B w L) (h1 : (v1, n1, k1) ∈ L) :
    Calls Tryz.prog 74 #[v1] w fun e w' => ∃ a c bs, e = .returned (.tuple #[.slice a bs.length c, .int .i64 0]) ∧ own8 w' w.heap.size (.slice a bs.length c) bs ∧ bs.length ≤ 1024 ∧ BNum bs n1 ∧ NEnv B w' L ∧ Below w.heap.size w w' := by
  obtain ⟨a, ca, xs, rfl, ho1, hb1, rfl, hl1, -⟩ := hE.get h1
  refine (bytes_any a _ ca xs w rfl (by omega) (own64.room ho1).1 (own64.rd ho1).2 hb1).mono ?_
  rintro e w' ⟨hb, a', c', k, bs, rfl, ho, hl, hT⟩
  have f1 := fl_le_128 hl1
  rcases hT with ⟨h, _⟩ | ⟨_, rfl, hN⟩
  · omega
  · exact ⟨a', c', bs, rfl, ho, hl, hN, hE.below hb, hb⟩
theorem n_bits2 {B : Nat} {w : World} {L : List (Value × Nat × Bool)} {v1 : Value} {n1 : Nat} {k1 : Bool} (hE : NEnv B w L) (h1 : (v1, n1, k1) ∈ L) :
    Calls Tryz.prog 41 #[v1] w fun e w' => ∃ k : Nat, e = .returned (.int .i64 (k : Nat)) ∧ BitsIs n1 k ∧ k ≤ 8192 ∧ w = w' := by
  obtain ⟨a, ca, xs, rfl, ho1, hb1, rfl, hl1, -⟩ := hE.get h1
  refine (bits_any a _ ca xs w rfl (by omega) (own64.room ho1).1 (own64.rd ho1).2 hb1).mono ?_
  rintro e w' ⟨⟨k, rfl, hk, hk2⟩, rfl⟩
  have f1 := fl_le_128 hl1
  exact ⟨k, rfl, hk, by omega, rfl⟩
theorem bits_pow {m k : Nat} (h : BitsIs (2 ^ m) k) : k = m + 1 := by
  have hp := Nat.two_pow_pos m
  rcases h with ⟨h, _⟩ | ⟨h0, h1, h2⟩
  · omega
  · have e1 := (Nat.pow_le_pow_iff_right (by decide : 1 < 2)).1 h1
    have e2 := (Nat.pow_lt_pow_iff_right (by decide : 1 < 2)).1 h2
    omega
theorem bits_len {bs : List Nat} {n k : Nat} (hB : BNum bs n) (h : BitsIs n k) : (k + 7) / 8 = bs.length := by
  rcases Nat.eq_zero_or_pos bs.length with h0 | hp
  · have hn : n = 0 := by rw [← hB.vl, List.length_eq_zero_iff.1 h0]; rfl
    rcases h with ⟨_, rfl⟩ | ⟨_, h1, _⟩
    · omega
    · have := Nat.two_pow_pos (k - 1); omega
  · have g1 := bval_ge (hB.cn hp)
    have g2 := bval_lt hB.b8
    rw [hB.vl] at g1 g2
    have e : ∀ q, (256 : Nat) ^ q = 2 ^ (8 * q) := fun q => by rw [show (256 : Nat) = 2 ^ 8 by decide, ← Nat.pow_mul]
    rw [e] at g1 g2
    have hpp := Nat.two_pow_pos (8 * (bs.length - 1))
    rcases h with ⟨h1, _⟩ | ⟨h0, h1, h2⟩
    · omega
    · have e1 := (Nat.pow_lt_pow_iff_right (by decide : 1 < 2)).1 (Nat.lt_of_le_of_lt h1 g2)
      have e2 := (Nat.pow_lt_pow_iff_right (by decide : 1 < 2)).1 (Nat.lt_of_le_of_lt g1 h2)
      omega
set_option exponentiation.threshold 10000 in
theorem bits_over {n m k : Nat} (h : BitsIs n k) (hm : 18446744073709551616 ^ 128 ≤ n * 2 ^ m) : 8192 < k + m := by
  have hp := Nat.two_pow_pos m
  rcases h with ⟨h1, _⟩ | ⟨h0, h1, h2⟩
  · rw [h1, Nat.zero_mul] at hm
    have := Nat.pow_pos (n := 128) (show 0 < 18446744073709551616 by decide)
    omega
  · have h3 : n * 2 ^ m < 2 ^ k * 2 ^ m := Nat.mul_lt_mul_of_pos_right h2 hp
    rw [← Nat.pow_add] at h3
    rw [pow_64] at hm
    exact (Nat.pow_lt_pow_iff_right (by decide : 1 < 2)).1 (Nat.lt_of_le_of_lt hm h3)
theorem n_lit {B : Nat} {w : World} {L : List (Value × Nat × Bool)} (hE : NEnv B w L) : NEnv B (w.alloc (.cells #[.int .u64 1] 51)) ((.slice (some ⟨w.heap.size, 0, none⟩) 1 1, 1, true) :: L) := by
  have hb : Below w.heap.size w (w.alloc (.cells #[.int .u64 1] 51)) := (Below.refl _ _).alloc (Nat.le_refl _) _
  have hown : own64 (w.alloc (.cells #[.int .u64 1] 51)) w.heap.size (.slice (some ⟨w.heap.size, 0, none⟩) 1 1) [1] :=
    own64_of_blk (zs := [1]) (c := 1) (heap_new w _) (Nat.le_refl _) (by decide) (by decide) rfl ⟨by decide, fun i hi => by
      obtain rfl : i = 0 := by simp at hi; omega
      rfl⟩
  refine hE.add hb (isn_of_num (own64.low hown hE.1) (num_of (by decide) (by decide) (by decide)) ?_)
  decide +kernel

set_option maxHeartbeats 1000000 in
theorem pick_any (i : Int) (w : World) (_h1 : -9223372036854775808 ≤ i) (_h2 : i ≤ 9223372036854775807) :
    Calls Tryz.prog 26 #[.int .i64 i, .int .i64 8192] w fun e w' => ∃ m : Nat, e = .returned (.int .i64 (m : Nat)) ∧ m < 8192 ∧ w = w' := by
  have g1 : i.tmod 8192 < 8192 := Int.tmod_lt_of_pos _ (by decide)
  have g2 : -8192 < i.tmod 8192 := by
    have h : (-i).tmod 8192 < 8192 := Int.tmod_lt_of_pos _ (by decide)
    rw [Int.neg_tmod] at h
    omega
  go_enter Tryz.func26, Tryz.ntmps26
  obtain ⟨t, ht⟩ : ∃ t, i.tmod 8192 = t := ⟨_, rfl⟩
  rw [ht] at g1 g2
  by_cases hn : t < 0
  · have hd : decide (t < 0) = true := by simp; omega
    go_wp2_with (simp only [ht])
    go_ret
    exact ⟨(t + 8192).toNat, ret_int (by omega), by omega, rfl⟩
  · have hd : decide (t < 0) = false := by simp; omega
    go_wp2_with (simp only [ht])
    go_ret
    exact ⟨t.toNat, ret_int (by omega), by omega, rfl⟩
end Go.Proofs.YtclbjmanmkoikaaGreatDoor
