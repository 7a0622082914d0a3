import Derived.Test.YtpipjkpjpkgmpaaDoorShQ
import Derived.BigQuiet
namespace Go.Proofs.YtpipjkpjpkgmpaaDoor
open Go.RowKit

/-- A byte of what stands behind a message, by the length alone. -/
theorem padI_at (n i : Nat) (h1 : 1 ≤ i) (h2 : i < padN n + 9) : (padI n)[i]? = some (n * 8 % 18446744073709551616 / 2 ^ (8 * (padN n + 8 - i)) % 256) := by
  rw [padI_eq]
  by_cases h : i < padN n + 1
  · rw [List.getElem?_append_left (by simp; omega)]
    obtain ⟨j, rfl⟩ : ∃ j, i = j + 1 := ⟨i - 1, by omega⟩
    rw [List.getElem?_cons_succ, List.getElem?_replicate, if_pos (by omega)]
    have hz : n * 8 % 18446744073709551616 / 2 ^ (8 * (padN n + 8 - (j + 1))) = 0 := by
      apply Nat.div_eq_of_lt
      refine Nat.lt_of_lt_of_le (Nat.mod_lt _ (by decide)) ?_
      have : 2 ^ 64 ≤ 2 ^ (8 * (padN n + 8 - (j + 1))) := Nat.pow_le_pow_right (by decide) (by omega)
      simpa using this
    rw [hz]
  · rw [List.getElem?_append_right (by simp; omega)]
    have hl : (128 :: List.replicate (padN n) 0).length = padN n + 1 := by simp
    rw [hl, len8, List.getElem?_map, List.getElem?_range (by omega)]
    simp only [Option.map_some]
    rw [show 56 - 8 * (i - (padN n + 1)) = 8 * (padN n + 8 - i) by omega]
theorem u64_join (x b : Nat) (hx : x * 256 < 18446744073709551616) (hb : b < 256) : bits .or .u64 ((x : Int) * 256) (b : Nat) = ((x * 256 + b : Nat) : Int) := by
  rw [show (x : Int) * 256 = ((x * 256 : Nat) : Int) by omega, u64_or_nat _ _ hx (by omega), nat_join 8 _ _ (by omega) (by omega)]

set_option maxHeartbeats 1600000 in
set_option maxRecDepth 100000 in
theorem shaFills_any (n : Nat) (w : World) (hn : n < 18446744073709551616) (hF : Five w) : Calls Tryd.prog 22 #[.int .u64 (n : Nat)] w fun e w' => e = .returned (.bool true) ∧ Below w.heap.size w w' := by
  have hp := padN_lt n
  have HF := Lib.hid hF
  clear hF
  go_enter Tryd.func22, Tryd.ntmps22
  go_upto_region 2 with ((go_at_call 37; refine (spad_any n _ hn).mono ?_; rintro e w1 ⟨g, c, rfl, hown, hb1⟩))
  obtain ⟨L, hL⟩ : ∃ L, L = padN n + 9 := ⟨_, rfl⟩
  rw [← hL] at hown
  rw [← hL]
  have HAT : Hid (∀ i, 1 ≤ i → i < L → w1.cell? ⟨g, i, none⟩ = some (.int .u8 ((n * 8 % 18446744073709551616 / 2 ^ (8 * (L - 1 - i)) % 256 : Nat) : Int))) := fun i h1 h2 => by
    rw [World.ownsRow.cellAt hown i (by omega), u8s, List.getElem?_map, padI_at n i h1 (by omega), show padN n + 8 - i = L - 1 - i by omega]; rfl
  have k0 : w1.cell? ⟨g, 0, none⟩ = some (.int .u8 128) := by rw [World.ownsRow.cellAt hown 0 (by omega)]; rfl
  have HF := Lib.hid (HF.out.below hb1)
  have HB := Lib.hid hb1
  have hL9 : 9 ≤ L := by omega
  have hL72 : L ≤ 72 := by omega
  have q1 : decide ((L : Int) < 9) = false := decide_eq_false (by omega)
  have q2 : decide ((72 : Int) < (L : Int)) = false := decide_eq_false (by omega)
  have u0 : IntKind.u64.wrap (L : Int) = (L : Int) := by rw [IntKind.wrap_u64]; omega
  have u1 : (n : Int).tmod 64 = ((n % 64 : Nat) : Int) := by rw [Int.tmod_eq_emod_of_nonneg (by omega)]; omega
  obtain ⟨r, hr⟩ : ∃ r, r = n % 64 := ⟨_, rfl⟩
  rw [← hr] at u1
  have u2 : IntKind.u64.wrap ((r : Int) + (L : Int)) = (r : Int) + (L : Int) := by rw [IntKind.wrap_u64]; omega
  have u3 : ((r : Int) + (L : Int)).tmod 64 = 0 := by
    rw [Int.tmod_eq_emod_of_nonneg (by omega)]
    have := padI_whole n; rw [padI_len, ← hL] at this; omega
  obtain ⟨N, hN⟩ : ∃ N, N = n * 8 % 18446744073709551616 := ⟨_, rfl⟩
  have hN64 : N < 18446744073709551616 := by rw [hN]; exact Nat.mod_lt _ (by decide)
  have e8 : IntKind.u64.wrap ((n : Int) * 8) = (N : Int) := by rw [IntKind.wrap_u64, hN]; omega
  rw [← hN] at HAT
  have HN64 := Lib.hid hN64
  have HBIG : Hid (∀ k, 64 ≤ k → N / 2 ^ k = 0) := fun k hk => Nat.div_eq_of_lt (Nat.lt_of_lt_of_le hN64 (by have : 2 ^ 64 ≤ 2 ^ k := Nat.pow_le_pow_right (by decide) hk; simpa using this))
  have HSTEP : Hid (∀ k, N / 2 ^ (8 * k) = N / 2 ^ (8 * (k + 1)) * 256 + N / 2 ^ (8 * k) % 256) := fun k => by
    rw [show 8 * (k + 1) = 8 * k + 8 by omega, Nat.pow_add, ← Nat.div_div_eq_div_mul]
    omega
  clear hown hb1 hL hr hp hN hN64
  go_wp2
  clear q1 q2 u0 u1 u2 u3 k0
  go_loopw [4, 5] (fun bv iv wr => ∃ i y : Nat, iv = .int .i64 (i : Nat) ∧ 1 ≤ i ∧ i ≤ L ∧ bv = .int .u64 (y : Nat) ∧ Hid (y = N / 2 ^ (8 * (L - i))) ∧ wr = w1) (fun _ iv _ => L - (intOf iv).toNat)
  case atStart => exact ⟨1, 0, rfl, Nat.le_refl _, by omega, rfl, (HBIG.out _ (by omega)).symm, rfl⟩
  case round =>
    obtain ⟨i, y, rfl, h1, hi, rfl, HY, rfl⟩ := hrel
    by_cases hlt : i < L
    · obtain ⟨k, hk⟩ : ∃ k, k = L - 1 - i := ⟨_, rfl⟩
      have HA := HAT.out i h1 hlt
      have HS := HSTEP.out k
      rw [← hk] at HA
      have hy := HY.out
      rw [show L - i = k + 1 by omega] at hy
      have hnx : N / 2 ^ (8 * (L - (i + 1))) = N / 2 ^ (8 * k) := by rw [show L - (i + 1) = k by omega]
      rw [← hy] at HS
      obtain ⟨x, hx⟩ : ∃ x, x = N / 2 ^ (8 * k) % 256 := ⟨_, rfl⟩
      rw [← hx] at HA HS
      have hx256 : x < 256 := by rw [hx]; exact Nat.mod_lt _ (by decide)
      have hyb : y < 72057594037927936 := by
        have h9 : N / 2 ^ (8 * k) ≤ N := Nat.div_le_self _ _
        have := HN64.out
        omega
      have HOR := Lib.hid (u64_join y x (by omega) hx256)
      have HNX : Hid (y * 256 + x = N / 2 ^ (8 * (L - (i + 1)))) := by show _ = _; rw [hnx, ← HS]
      have hlow0 : i + 8 < L → x = 0 := fun h => by rw [hx, HBIG.out _ (by omega)]
      clear hx hnx HS hy hk
      by_cases hlow : i + 8 < L
      · obtain rfl := hlow0 hlow
        have d1 : decide ((i : Int) < (L : Int) - 8) = true := decide_eq_true (by omega)
        clear hlow0
        go_wp2
        go_roundw
        case rel => exact ⟨i + 1, y * 256 + 0, by go_num, by omega, by omega, by have h := HOR.out; rw [show ((0 : Nat) : Int) = 0 from rfl] at h; rw [h], HNX.out, trivial⟩
        case measure => simp [intOf]; omega
      · have d1 : decide ((i : Int) < (L : Int) - 8) = false := decide_eq_false (by omega)
        clear hlow0
        go_wp2
        go_roundw
        case rel => exact ⟨i + 1, y * 256 + x, by go_num, by omega, by omega, by rw [HOR.out], HNX.out, trivial⟩
        case measure => simp [intOf]; omega
    · have hiL : i = L := by omega
      have hq : decide ((i : Int) < (L : Int)) = false := decide_eq_false (by omega)
      have hyN : y = N := by rw [HY.out, hiL, Nat.sub_self]; simp
      subst hyN
      have hee : ((y : Int) == (y : Int)) = true := beq_self_eq_true _
      clear hiL
      go_wp2_with ((go_at_call 14; refine (works5_any _ HF.out).mono ?_; rintro e w2 ⟨rfl, hb2⟩))
      go_ret
      exact ⟨rfl, HB.out.trans (hb2.mono HB.out.size)⟩
end Go.Proofs.YtpipjkpjpkgmpaaDoor
