import Derived.Test.YtpipjkpjpkgmpaaDoorShH
namespace Go.Proofs.YtpipjkpjpkgmpaaDoor
open Go.RowKit

/-- The eight bytes as the program lays them: from behind. -/
def laidN (n i : Nat) : List Nat := (128 :: List.replicate (padN n) 0) ++ (List.replicate (8 - i) 0 ++ (len8 n).drop (8 - i))
theorem laidN_len (n i : Nat) (h : i ≤ 8) : (laidN n i).length = padN n + 9 := by simp [laidN, len8_len] <;> omega
theorem laidN_next (n i x : Nat) (h : i < 8) (hx : x = n * 8 % 18446744073709551616 / 2 ^ (8 * i) % 256) : (laidN n i).set (padN n + 8 - i) x = laidN n (i + 1) := by
  unfold laidN
  rw [List.set_append_right _ _ (by simp; omega)]
  congr 1
  have e : (len8 n).drop (8 - (i + 1)) = x :: (len8 n).drop (8 - i) := by
    rw [List.drop_eq_getElem_cons (by rw [len8_len]; omega), show 8 - (i + 1) + 1 = 8 - i by omega]
    congr 1
    simp [len8, hx, show 56 - 8 * (7 - i) = 8 * i by omega]
  rw [e, show 8 - i = 8 - (i + 1) + 1 by omega, List.replicate_succ', List.append_assoc]
  rw [List.set_append_right _ _ (by simp; omega)]
  congr 1
  rw [show padN n + 8 - i - (128 :: List.replicate (padN n) 0).length - (List.replicate (8 - (i + 1)) 0).length = 0 by simp; omega]
  rfl
theorem laidN_zero (n : Nat) : laidN n 0 = (List.replicate (padN n + 9) 0).set 0 128 := by
  show (128 :: List.replicate (padN n) 0) ++ (List.replicate 8 0 ++ (len8 n).drop 8) = _
  rw [List.drop_of_length_le (by rw [len8_len]; exact Nat.le_refl _), List.append_nil, List.cons_append, List.replicate_append_replicate]
  rfl
theorem laidN_all (n : Nat) : laidN n 8 = padI n := by simp [laidN, padI_eq]

set_option maxHeartbeats 800000 in
set_option maxRecDepth 100000 in
theorem spad_any (n : Nat) (w : World) (hn : n < 18446744073709551616) : Calls Tryd.prog 37 #[.int .u64 (n : Nat)] w (PadPost n w) := by
  have hp := padN_lt n
  have e1 : (IntKind.u64.wrap (55 - (n : Int))).tmod 64 = (padN n : Int) := by
    rw [IntKind.wrap_u64, Int.tmod_eq_emod_of_nonneg (by omega)]; unfold padN; omega
  have HX1 : Hid (∀ i, i < 8 → IntKind.u64.wrap (8 * (n : Int)) / 2 ^ (8 * i) % 256 = ((n * 8 % 18446744073709551616 / 2 ^ (8 * i) % 256 : Nat) : Int)) := fun i hi => by
    have h := u64_shr n (7 - i) (by omega)
    rw [IntKind.wrap_u8', show 56 - 8 * (7 - i) = 8 * i by omega] at h
    rw [Int.mul_comm]; exact h
  have HN1 : Hid (∀ i x, i < 8 → x = n * 8 % 18446744073709551616 / 2 ^ (8 * i) % 256 → (laidN n i).set (padN n + 8 - i) x = laidN n (i + 1)) := fun i x hi hx => laidN_next n i x hi hx
  obtain ⟨N, hN⟩ : ∃ N, N = padN n := ⟨_, rfl⟩
  have HNN := Lib.hid hN
  rw [← hN] at hp e1 HN1
  clear hN
  go_enter Tryd.func37, Tryd.ntmps37
  go_wp2_with (at_make; refine wpl_make8s rfl _ _ rfl w.heap.size _ _ _ _ (N + 9) rfl rfl (by omega) (by omega) (by omega) (Nat.le_refl _) ?_)
  intro w1 hown hbl hlt
  have c0 := World.ownsRow.cellAt hown 0 (by omega)
  rw [u8s_ats _ _ (by simp)] at c0
  have f0 := World.ownsRow.frozenAt hown 0
  generalize at0 (List.replicate (N + 9) 0) 0 = old at c0
  have HO := Lib.hid (ow8.set hown 0 128)
  have HB := Lib.hid (hbl.setCell (p := ⟨w.heap.size, 0, none⟩) (Nat.le_refl _) (.int .u8 (128 : Nat)))
  clear hown hbl hlt
  go_wp2
  clear c0 f0
  go_loopw [15] (fun iv wr => ∃ i : Nat, iv = .int .i64 (i : Nat) ∧ i ≤ 8 ∧ Hid (wr.ownsRow w.heap.size 5 1 (.slice (some ⟨w.heap.size, 0, none⟩) (N + 9) (N + 9)) (N + 9) (u8s (laidN n i))) ∧ Hid (Below w.heap.size w wr)) (fun iv _ => 8 - (intOf iv).toNat)
  case atStart => exact ⟨0, rfl, by decide, by rw [laidN_zero, ← HNN.out]; exact HO.out, HB.out⟩
  case round =>
    clear HO HB
    obtain ⟨i, rfl, hi, HO, HB⟩ := hrel
    by_cases hi8 : i < 8
    · obtain ⟨p, hp2⟩ : ∃ p, p = N + 8 - i := ⟨_, rfl⟩
      obtain ⟨m, hm⟩ : ∃ m, m = 8 * i := ⟨_, rfl⟩
      obtain ⟨x, hx⟩ : ∃ x, x = n * 8 % 18446744073709551616 / 2 ^ (8 * i) % 256 := ⟨_, rfl⟩
      have HX := Lib.hid (HX1.out i hi8)
      rw [← hx, ← hm] at HX
      have HN2 := Lib.hid (HN1.out i x hi8 hx)
      rw [← hp2] at HN2
      have c0 := World.ownsRow.cellAt HO.out p (by omega)
      rw [u8s_ats _ _ (by rw [laidN_len _ _ hi, ← HNN.out]; omega)] at c0
      have f0 := World.ownsRow.frozenAt HO.out p
      generalize at0 (laidN n i) p = old at c0
      have e3 : (N : Int) + 9 - 1 - (i : Int) = (p : Int) := by omega
      have e5 : (N : Int) + 8 - (i : Int) = (p : Int) := by omega
      have e4 : (8 : Int) * (i : Int) = (m : Int) := by omega
      have hp3 : p < N + 9 := by omega
      have hm64 : m < 64 := by omega
      have HN3 := Lib.hid (ow8.set HO.out p x)
      rw [HN2.out] at HN3
      clear hx hm hp2 HN2
      go_wp2
      trace_state
      go_roundw
      case rel =>
        refine ⟨i + 1, by go_num, by omega, ?_, HB.out.setCell (p := ⟨w.heap.size, p, none⟩) (Nat.le_refl _) _⟩
        rw [HX.out]; exact HN3.out
      case measure => simp [intOf]; omega
    · obtain rfl : i = 8 := by omega
      go_wp2
      go_ret
      have e : N = padN n := HNN.out
      subst e
      refine ⟨w.heap.size, padN n + 9, rfl, ?_, HB.out⟩
      rw [← laidN_all]; exact HO.out
end Go.Proofs.YtpipjkpjpkgmpaaDoor
