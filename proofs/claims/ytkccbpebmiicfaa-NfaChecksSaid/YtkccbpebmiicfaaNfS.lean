import Derived.Test.YtkccbpebmiicfaaNfM
namespace Go.Proofs.Ytkccbpebmiicfaa
open Go.RowKit

/-! The document's Check of a machine. -/
theorem okS_iff (n : Nat) (k : Int) (s : S4) (x y : Int) : okS n ⟨k, s, x, y⟩ = true ↔ ((k = 1 ∨ k = 3 ∨ k = 4) ∧ 0 ≤ x ∧ x < (n : Int)) ∨ (k = 2 ∧ (0 ≤ x ∧ x < (n : Int)) ∧ (0 ≤ y ∧ y < (n : Int))) ∨ k = 5 := by
  unfold okS
  simp [Bool.or_eq_true, Bool.and_eq_true]
set_option maxHeartbeats 2000000 in
set_option maxRecDepth 100000 in
theorem n_rcheck (L : List St) (a : Option Addr) (c : Nat) (q : Int) (w : World) (hlen : L.length ≤ 1099511627776) (hr : RowAt w a (L.flatMap St.cells)) :
    Calls Try.prog 19 #[.agg #[.slice a L.length c, .int .i64 q]] w fun e w' => e = .returned (.int .i64 (chkM L q)) ∧ Below w.heap.size w w' := by
  unfold chkM
  obtain ⟨len, hl⟩ : ∃ len, L.length = len := ⟨_, rfl⟩
  rw [hl] at hlen ⊢
  have HR := Lib.hid hr
  have HL := Lib.hid hl
  clear hr hl
  have HB1 : Hid (Below w.heap.size w (w.alloc (.cells #[.slice a len c, .int .i64 q] 35))) := (Below.refl _ _).alloc (Nat.le_refl _) _
  have HC1 : Hid (CB (w.alloc (.cells #[.slice a len c, .int .i64 q] 35)) 35 w.heap.size [.slice a len c, .int .i64 q]) := CB.new w _ _
  by_cases hg : 1 ≤ len ∧ len ≤ 4096 ∧ 0 ≤ q ∧ q < (len : Int)
  · obtain ⟨g1, g2, g3, g4⟩ := hg
    have d1 : decide ((len : Int) < 1) = false := decide_eq_false (by omega)
    have d2 : decide ((4096 : Int) < (len : Int)) = false := decide_eq_false (by omega)
    have d3 : decide (q < 0) = false := decide_eq_false (by omega)
    have d4 : decide ((len : Int) ≤ q) = false := decide_eq_false (by omega)
    obtain ⟨R, hR⟩ : ∃ R, (if len ≤ 4096 ∧ (0 ≤ q ∧ q < (len : Int)) ∧ L.all (okS len) = true then (0 : Int) else 110) = R := ⟨_, rfl⟩
    have HR0 : Hid (L.all (okS len) = true → R = 0) := fun h => by rw [← hR, if_pos ⟨g2, ⟨g3, g4⟩, h⟩]
    have HR1 : Hid (L.all (okS len) = false → R = 110) := fun h => by rw [← hR, if_neg (fun h9 => by rw [h] at h9; cases h9.2.2)]
    rw [hR]
    clear hR
    go_enter Try.func19, Try.ntmps19
    go_wp2
    go_loopw [4] (fun iv wr => ∃ i : Nat, i ≤ len ∧ iv = .int .i64 (i : Nat) ∧ Hid ((L.take i).all (okS len) = true) ∧ Hid (Below w.heap.size w wr) ∧ Hid (CB wr 35 w.heap.size [.slice a len c, .int .i64 q])) (fun iv _ => len - (intOf iv).toNat)
    case atStart => exact ⟨0, by omega, rfl, (by show _ = _; simp), HB1.out, HC1.out⟩
    case round =>
      obtain ⟨i, hi, rfl, HX, HB, HC⟩ := hrel
      obtain ⟨⟨x0, x1⟩, -⟩ := CB.two HC.out
      by_cases hlt : i < len
      · have hip : i < L.length := by rw [HL.out]; exact hlt
        obtain ⟨b, off, rfl, hra⟩ := st_elem HR.out hip
        have htk := all_take (f := okS len) hip
        obtain ⟨s, hs⟩ : ∃ s, L[i] = s := ⟨_, rfl⟩
        rw [hs] at hra htk
        obtain ⟨sk, ss, sx, sy⟩ := s
        have HRA : Hid (wr.rangeAt b (off + i * 7) (St.cells ⟨sk, ss, sx, sy⟩)) := fun j v hv => below_cell HB.out _ _ (hra j v hv)
        rw [HX.out, Bool.true_and] at htk
        have HTK := Lib.hid htk
        have hbx := HB.out.size
        have HBn : Hid (Below w.heap.size w (wr.alloc (.cells #[.int .i64 sk, .int .u64 (ss.a : Nat), .int .u64 (ss.b : Nat), .int .u64 (ss.c : Nat), .int .u64 (ss.d : Nat), .int .i64 sx, .int .i64 sy] 47))) := HB.out.alloc hbx _
        have HCn : Hid (CB (wr.alloc (.cells #[.int .i64 sk, .int .u64 (ss.a : Nat), .int .u64 (ss.b : Nat), .int .u64 (ss.c : Nat), .int .u64 (ss.d : Nat), .int .i64 sx, .int .i64 sy] 47)) 35 w.heap.size [.slice (some ⟨b, off, none⟩) len c, .int .i64 q]) := CB.alloc HC.out _
        clear hra htk hs hbx
        have hcases : (sk < 1) ∨ (5 < sk) ∨ ((1 ≤ sk ∧ sk ≤ 4) ∧ sx < 0) ∨ ((1 ≤ sk ∧ sk ≤ 4) ∧ (len : Int) ≤ sx) ∨ (sk = 2 ∧ (0 ≤ sx ∧ sx < (len : Int)) ∧ sy < 0) ∨ (sk = 2 ∧ (0 ≤ sx ∧ sx < (len : Int)) ∧ (len : Int) ≤ sy) ∨ (sk = 5) ∨ (sk = 2 ∧ (0 ≤ sx ∧ sx < (len : Int)) ∧ (0 ≤ sy ∧ sy < (len : Int))) ∨ ((sk = 1 ∨ sk = 3 ∨ sk = 4) ∧ (0 ≤ sx ∧ sx < (len : Int))) := by omega
        rcases hcases with hk | hk | hk | hk | hk | hk | hk | hk | hk
        · have HOK : Hid (okS len ⟨sk, ss, sx, sy⟩ = false) := by
            show _ = _
            rw [Bool.eq_false_iff]
            intro h
            rw [okS_iff] at h
            omega
          have f1 : decide (sk < 1) = true := decide_eq_true (by omega)
          clear hk
          have HMK : Hid True := trivial
          go_wp2_with (first | (clear HMK; refine wpl_loadSt (.tmp 34) rfl rfl (g := b) (off := off + i * 7) (k := sk) (s := ss) (x1 := sx) (y1 := sy) ?_ ?_ ?_; rfl; exact HRA.out))
          go_ret
          exact ⟨ret_int (HR1.out (all_not (by rw [HTK.out]; exact HOK.out))).symm, HBn.out⟩
        · have HOK : Hid (okS len ⟨sk, ss, sx, sy⟩ = false) := by
            show _ = _
            rw [Bool.eq_false_iff]
            intro h
            rw [okS_iff] at h
            omega
          have f1 : decide (sk < 1) = false := decide_eq_false (by omega)
          have f2 : ¬ sk < 1 := by omega
          have f3 : decide (5 < sk) = true := decide_eq_true (by omega)
          clear hk
          have HMK : Hid True := trivial
          go_wp2_with (first | (clear HMK; refine wpl_loadSt (.tmp 34) rfl rfl (g := b) (off := off + i * 7) (k := sk) (s := ss) (x1 := sx) (y1 := sy) ?_ ?_ ?_; rfl; exact HRA.out))
          go_ret
          exact ⟨ret_int (HR1.out (all_not (by rw [HTK.out]; exact HOK.out))).symm, HBn.out⟩
        · have HOK : Hid (okS len ⟨sk, ss, sx, sy⟩ = false) := by
            show _ = _
            rw [Bool.eq_false_iff]
            intro h
            rw [okS_iff] at h
            omega
          have f1 : decide (sk < 1) = false := decide_eq_false (by omega)
          have f2 : ¬ sk < 1 := by omega
          have f3 : decide (5 < sk) = false := decide_eq_false (by omega)
          have f4 : ¬ 5 < sk := by omega
          have f5 : (sk != 5) = true := by simp; omega
          have f6 : (sk == 5) = false := by simp; omega
          have f7 : ¬ sk = 5 := by omega
          have f8 : decide (sk = 5) = false := decide_eq_false (by omega)
          have f9 : decide (sx < 0) = true := decide_eq_true (by omega)
          clear hk
          have HMK : Hid True := trivial
          go_wp2_with (first | (clear HMK; refine wpl_loadSt (.tmp 34) rfl rfl (g := b) (off := off + i * 7) (k := sk) (s := ss) (x1 := sx) (y1 := sy) ?_ ?_ ?_; rfl; exact HRA.out))
          go_ret
          exact ⟨ret_int (HR1.out (all_not (by rw [HTK.out]; exact HOK.out))).symm, HBn.out⟩
        · have HOK : Hid (okS len ⟨sk, ss, sx, sy⟩ = false) := by
            show _ = _
            rw [Bool.eq_false_iff]
            intro h
            rw [okS_iff] at h
            omega
          have f1 : decide (sk < 1) = false := decide_eq_false (by omega)
          have f2 : ¬ sk < 1 := by omega
          have f3 : decide (5 < sk) = false := decide_eq_false (by omega)
          have f4 : ¬ 5 < sk := by omega
          have f5 : (sk != 5) = true := by simp; omega
          have f6 : (sk == 5) = false := by simp; omega
          have f7 : ¬ sk = 5 := by omega
          have f8 : decide (sk = 5) = false := decide_eq_false (by omega)
          have f9 : decide (sx < 0) = false := decide_eq_false (by omega)
          have f10 : ¬ sx < 0 := by omega
          have f11 : decide ((len : Int) ≤ sx) = true := decide_eq_true (by omega)
          clear hk
          have HMK : Hid True := trivial
          go_wp2_with (first | (clear HMK; refine wpl_loadSt (.tmp 34) rfl rfl (g := b) (off := off + i * 7) (k := sk) (s := ss) (x1 := sx) (y1 := sy) ?_ ?_ ?_; rfl; exact HRA.out))
          go_ret
          exact ⟨ret_int (HR1.out (all_not (by rw [HTK.out]; exact HOK.out))).symm, HBn.out⟩
        · have HOK : Hid (okS len ⟨sk, ss, sx, sy⟩ = false) := by
            show _ = _
            rw [Bool.eq_false_iff]
            intro h
            rw [okS_iff] at h
            omega
          have f1 : decide (sx < 0) = false := decide_eq_false (by omega)
          have f2 : ¬ sx < 0 := by omega
          have f3 : decide ((len : Int) ≤ sx) = false := decide_eq_false (by omega)
          have f4 : ¬ (len : Int) ≤ sx := by omega
          have f5 : decide (sy < 0) = true := decide_eq_true (by omega)
          obtain rfl : sk = 2 := by omega
          clear hk
          have HMK : Hid True := trivial
          go_wp2_with (first | (clear HMK; refine wpl_loadSt (.tmp 34) rfl rfl (g := b) (off := off + i * 7) (k := 2) (s := ss) (x1 := sx) (y1 := sy) ?_ ?_ ?_; rfl; exact HRA.out))
          go_ret
          exact ⟨ret_int (HR1.out (all_not (by rw [HTK.out]; exact HOK.out))).symm, HBn.out⟩
        · have HOK : Hid (okS len ⟨sk, ss, sx, sy⟩ = false) := by
            show _ = _
            rw [Bool.eq_false_iff]
            intro h
            rw [okS_iff] at h
            omega
          have f1 : decide (sx < 0) = false := decide_eq_false (by omega)
          have f2 : ¬ sx < 0 := by omega
          have f3 : decide ((len : Int) ≤ sx) = false := decide_eq_false (by omega)
          have f4 : ¬ (len : Int) ≤ sx := by omega
          have f5 : decide (sy < 0) = false := decide_eq_false (by omega)
          have f6 : ¬ sy < 0 := by omega
          have f7 : decide ((len : Int) ≤ sy) = true := decide_eq_true (by omega)
          obtain rfl : sk = 2 := by omega
          clear hk
          have HMK : Hid True := trivial
          go_wp2_with (first | (clear HMK; refine wpl_loadSt (.tmp 34) rfl rfl (g := b) (off := off + i * 7) (k := 2) (s := ss) (x1 := sx) (y1 := sy) ?_ ?_ ?_; rfl; exact HRA.out))
          go_ret
          exact ⟨ret_int (HR1.out (all_not (by rw [HTK.out]; exact HOK.out))).symm, HBn.out⟩
        · have HOK : Hid (okS len ⟨sk, ss, sx, sy⟩ = true) := by
            show _ = _
            rw [okS_iff]
            omega
          obtain rfl : sk = 5 := by omega
          clear hk
          have HMK : Hid True := trivial
          go_wp2_with (first | (clear HMK; refine wpl_loadSt (.tmp 34) rfl rfl (g := b) (off := off + i * 7) (k := 5) (s := ss) (x1 := sx) (y1 := sy) ?_ ?_ ?_; rfl; exact HRA.out))
          go_roundw
          case rel => exact ⟨i + 1, by omega, by go_num, (by show _ = _; rw [HTK.out]; exact HOK.out), HBn.out, HCn.out⟩
          case measure => simp [intOf]; omega
        · have HOK : Hid (okS len ⟨sk, ss, sx, sy⟩ = true) := by
            show _ = _
            rw [okS_iff]
            omega
          have f1 : decide (sx < 0) = false := decide_eq_false (by omega)
          have f2 : ¬ sx < 0 := by omega
          have f3 : decide ((len : Int) ≤ sx) = false := decide_eq_false (by omega)
          have f4 : ¬ (len : Int) ≤ sx := by omega
          have f5 : decide (sy < 0) = false := decide_eq_false (by omega)
          have f6 : ¬ sy < 0 := by omega
          have f7 : decide ((len : Int) ≤ sy) = false := decide_eq_false (by omega)
          have f8 : ¬ (len : Int) ≤ sy := by omega
          obtain rfl : sk = 2 := by omega
          clear hk
          have HMK : Hid True := trivial
          go_wp2_with (first | (clear HMK; refine wpl_loadSt (.tmp 34) rfl rfl (g := b) (off := off + i * 7) (k := 2) (s := ss) (x1 := sx) (y1 := sy) ?_ ?_ ?_; rfl; exact HRA.out))
          go_roundw
          case rel => exact ⟨i + 1, by omega, by go_num, (by show _ = _; rw [HTK.out]; exact HOK.out), HBn.out, HCn.out⟩
          case measure => simp [intOf]; omega
        · have HOK : Hid (okS len ⟨sk, ss, sx, sy⟩ = true) := by
            show _ = _
            rw [okS_iff]
            omega
          have f1 : decide (sk < 1) = false := decide_eq_false (by omega)
          have f2 : ¬ sk < 1 := by omega
          have f3 : decide (5 < sk) = false := decide_eq_false (by omega)
          have f4 : ¬ 5 < sk := by omega
          have f5 : (sk != 5) = true := by simp; omega
          have f6 : (sk == 5) = false := by simp; omega
          have f7 : ¬ sk = 5 := by omega
          have f8 : decide (sk = 5) = false := decide_eq_false (by omega)
          have f9 : (sk == 2) = false := by simp; omega
          have f10 : ¬ sk = 2 := by omega
          have f11 : decide (sk = 2) = false := decide_eq_false (by omega)
          have f12 : decide (sx < 0) = false := decide_eq_false (by omega)
          have f13 : ¬ sx < 0 := by omega
          have f14 : decide ((len : Int) ≤ sx) = false := decide_eq_false (by omega)
          have f15 : ¬ (len : Int) ≤ sx := by omega
          clear hk
          have HMK : Hid True := trivial
          go_wp2_with (first | (clear HMK; refine wpl_loadSt (.tmp 34) rfl rfl (g := b) (off := off + i * 7) (k := sk) (s := ss) (x1 := sx) (y1 := sy) ?_ ?_ ?_; rfl; exact HRA.out))
          go_roundw
          case rel => exact ⟨i + 1, by omega, by go_num, (by show _ = _; rw [HTK.out]; exact HOK.out), HBn.out, HCn.out⟩
          case measure => simp [intOf]; omega
      · obtain rfl : i = len := by omega
        have hfin : L.all (okS i) = true := by
          have := HX.out
          rw [List.take_of_length_le (by rw [HL.out]; exact Nat.le_refl _)] at this
          exact this
        have HF := Lib.hid hfin
        clear hfin
        go_wp2
        go_ret
        exact ⟨ret_int (HR0.out HF.out).symm, HB.out⟩
  · have hif : (if len ≤ 4096 ∧ (0 ≤ q ∧ q < (len : Int)) ∧ L.all (okS len) = true then (0 : Int) else 110) = 110 := if_neg fun h => hg ⟨by omega, h.1, h.2.1⟩
    rw [hif]
    clear hif
    have hcs : len < 1 ∨ (1 ≤ len ∧ 4096 < len) ∨ (1 ≤ len ∧ len ≤ 4096 ∧ q < 0) ∨ (1 ≤ len ∧ len ≤ 4096 ∧ 0 ≤ q ∧ (len : Int) ≤ q) := by omega
    rcases hcs with h | h | h | h
    · have d1 : decide ((len : Int) < 1) = true := decide_eq_true (by omega)
      clear hg
      go_enter Try.func19, Try.ntmps19
      go_wp2
      go_ret
      exact ⟨rfl, HB1.out⟩
    · have d1 : decide ((len : Int) < 1) = false := decide_eq_false (by omega)
      have d2 : decide ((4096 : Int) < (len : Int)) = true := decide_eq_true (by omega)
      clear hg
      go_enter Try.func19, Try.ntmps19
      go_wp2
      go_ret
      exact ⟨rfl, HB1.out⟩
    · have d1 : decide ((len : Int) < 1) = false := decide_eq_false (by omega)
      have d2 : decide ((4096 : Int) < (len : Int)) = false := decide_eq_false (by omega)
      have d3 : decide (q < 0) = true := decide_eq_true (by omega)
      clear hg
      go_enter Try.func19, Try.ntmps19
      go_wp2
      go_ret
      exact ⟨rfl, HB1.out⟩
    · have d1 : decide ((len : Int) < 1) = false := decide_eq_false (by omega)
      have d2 : decide ((4096 : Int) < (len : Int)) = false := decide_eq_false (by omega)
      have d3 : decide (q < 0) = false := decide_eq_false (by omega)
      have d4 : decide ((len : Int) ≤ q) = true := decide_eq_true (by omega)
      clear hg
      go_enter Try.func19, Try.ntmps19
      go_wp2
      go_ret
      exact ⟨rfl, HB1.out⟩
end Go.Proofs.Ytkccbpebmiicfaa
