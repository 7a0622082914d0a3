import Derived.Test.YtpipjkpjpkgmpaaDoorShE0
namespace Go.Proofs.YtpipjkpjpkgmpaaDoor
open Go.RowKit

theorem index64 (cs : Array Value) (k : Nat) (v : Value) (hk : k < 64) (hv : cs[k]? = some v) (W : World) : (Instr.index 57 (.agg cs) (.int .i64 (k : Nat))).run Tryd.prog W = .ok v W := by
  have hu := run_underlying (P := Tryd.prog) Tryd.underlying57
  have hu8 := run_underlying (P := Tryd.prog) Tryd.underlying5
  simp [Instr.index, asIntOf, hu, part, isAgg, hu8, hv, Sem.run_bind, Result.andThen]
  omega
theorem index80 (cs : Array Value) (k : Nat) (v : Value) (hk : k < 80) (hv : cs[k]? = some v) (W : World) : (Instr.index 72 (.agg cs) (.int .i64 (k : Nat))).run Tryd.prog W = .ok v W := by
  have hu := run_underlying (P := Tryd.prog) Tryd.underlying72
  have hu8 := run_underlying (P := Tryd.prog) Tryd.underlying54
  simp [Instr.index, asIntOf, hu, part, isAgg, hu8, hv, Sem.run_bind, Result.andThen]
  omega

set_option maxHeartbeats 800000 in
set_option maxRecDepth 100000 in
theorem numbersOf_any (b : List Nat) (w : World) (hl : b.length = 64) (hb : ∀ x ∈ b, x < 256) :
    Calls Tryd.prog 54 #[.agg (u8s b).toArray] w fun e w' => e = .returned (.agg (i32s (words16 b)).toArray) ∧ Below w.heap.size w w' := by
  have hz := (zero_of_info info16).1
  go_enter Tryd.func54, Tryd.ntmps54
  have hbl : (u8s b).length = 64 := by rw [u8s_len, hl]
  have HB0 : Hid (CB (((w.alloc (.cells (u8s b).toArray 57)).alloc (.cells (i32s (z32 16)).toArray 81)).alloc (.cells (i32s (z32 16)).toArray 81)) 57 w.heap.size (u8s b)) := ((CB.new w _ _).alloc _).alloc _
  generalize hy : (u8s b) = ys at *
  go_wp2_with fail
  refine wp_loadc 57 (.tmp 1) rfl w.heap.size 0 64 rfl HB0.out _ Tryd.underlying57 rfl (zero_of_info infoB64).2 (by omega) ys (by rw [List.drop_zero]; exact List.take_of_length_le (by omega)) ?_
  go_wp2
  have H0 := Lib.hid ((cb2 w (.cells ys.toArray 57) 81 (i32s (z32 16))).alloc (.cells (i32s (z32 16)).toArray 81))
  have H1 := Lib.hid (cb3 w (.cells ys.toArray 57) (.cells (i32s (z32 16)).toArray 81) 81 (i32s (z32 16)))
  have HB := Lib.hid (bl3 w (.cells ys.toArray 57) (.cells (i32s (z32 16)).toArray 81) (.cells (i32s (z32 16)).toArray 81))
  go_loopw [7] (fun iv wr => ∃ k : Nat, iv = .int .i64 (k : Nat) ∧ k ≤ 64 ∧ Hid (CB wr 81 (w.heap.size + 1) (i32s (z32 16))) ∧ Hid (CB wr 81 (w.heap.size + 1 + 1) (i32s (st16 b k))) ∧ Hid (Below w.heap.size w wr)) (fun iv _ => 64 - (intOf iv).toNat)
  case atStart => exact ⟨0, rfl, by decide, H0.out, by rw [st16_zero]; exact H1.out, HB.out⟩
  case round =>
    clear H0 H1 HB HB0
    obtain ⟨k, rfl, hk, H0, H1, HB⟩ := hrel
    by_cases h64 : k < 64
    · obtain ⟨q, hq⟩ : ∃ q, q = k / 4 := ⟨_, rfl⟩
      have hq4 : (k : Int).tdiv 4 = (q : Int) := by rw [Int.tdiv_eq_ediv_of_nonneg (by omega)]; omega
      have hy1 : ys[k]? = some (.int .u8 ((b.getD k 0 : Nat) : Int)) := by rw [← hy]; simp [u8s, List.getD, show k < b.length by omega]
      have hx := getD_lt hb k
      have hp := pw_lt b q (getD_lt hb) (k % 4)
      have c1 : wr.cell? ⟨w.heap.size + 1 + 1, q, none⟩ = some (.int .u32 ((pw b q (k % 4) : Nat) : Int)) := by
        rw [H1.out.cell, i32s_at _ _ (by rw [st16_len]; omega), st16_at _ _ _ (by omega), show min 4 (k - 4 * q) = k % 4 by omega]
      have f1 := H1.out.free q
      have hp2 : pw b q (k % 4) < 16777216 := Nat.lt_of_lt_of_le hp (by have : 256 ^ (k % 4) ≤ 256 ^ 3 := Nat.pow_le_pow_right (by decide) (by omega); simpa using this)
      have HN : Hid (CB (wr.setCell ⟨w.heap.size + 1 + 1, q, none⟩ (.int .u32 ((pw b q (k % 4) * 256 + b.getD k 0 : Nat) : Int))) 81 (w.heap.size + 1 + 1) (i32s (st16 b (k + 1)))) := by
        have h := H1.out.set q (.int .u32 ((pw b q (k % 4) * 256 + b.getD k 0 : Nat) : Int))
        rw [i32s_set] at h
        have e := st16_next b k h64
        rw [← hq] at e
        rw [e] at h
        exact h
      generalize b.getD k 0 = x at *
      generalize pw b q (k % 4) = p at *
      have HO : Hid (bits .or .u32 ((p : Int) * 256) (x : Nat) = ((p * 256 + x : Nat) : Int)) := or_join p x 8 (by decide) (by omega) (by omega)
      rw [← HO.out] at HN
      have hq16 : (q : Int) < 16 := by omega
      have hq0 : (0 : Int) ≤ (q : Int) := by omega
      have hix := index64 ys.toArray k _ h64 (by simpa using hy1)
      clear hq hp hy1
      go_wp2
      go_roundw
      case rel => exact ⟨k + 1, by go_num, by omega, H0.out.other ⟨w.heap.size + 1 + 1, q, none⟩ (by show w.heap.size + 1 + 1 ≠ _; omega) _, HN.out, HB.out.setCell (p := ⟨w.heap.size + 1 + 1, q, none⟩) (by show _ ≤ w.heap.size + 1 + 1; omega) _⟩
      case measure => simp [intOf]; omega
    · have hk64 : k = 64 := by omega
      have hq : decide ((k : Int) < 64) = false := by rw [decide_eq_false_iff_not]; omega
      rw [hk64, st16_all] at H1
      clear hk64
      go_upto_region 7 with fail
      refine wp_region_lit ?_
      refine wpList_plain rfl fun K1 hK1 => wp_loadc 81 (.tmp 3) rfl (w.heap.size + 1 + 1) 0 16 rfl H1.out _ Tryd.underlying81 rfl (zero_of_info info16).2 (by simp [i32s, words16]) (i32s (words16 b)) (by rw [List.drop_zero]; exact List.take_of_length_le (by simp [i32s, words16])) (hK1 _ _ ?_)
      clear hK1 K1
      refine wpList_plain rfl fun K1 hK1 => wp_storec 81 (.tmp 2) (.tmp 23) rfl (w.heap.size + 1) 0 16 rfl (i32s (words16 b)) rfl (by simp [i32s, words16]) H0.out (zero_of_info info16).2 (by simp [i32s, z32]) (i32s_one _) fun w' hc hch hsz => hK1 _ _ ?_
      clear hK1 K1
      rw [splice_all (by simp [i32s, words16, z32])] at hc
      go_wp2
      refine bodyPost_ret (ret_row rfl rfl hc _ Tryd.underlying81 rfl (by rw [(zero_of_info info16).2]; simp [i32s, words16])) rfl ⟨rfl, ?_⟩
      exact HB.out.trans (hch.below HB.out.size (fun k hk => by omega))
end Go.Proofs.YtpipjkpjpkgmpaaDoor
