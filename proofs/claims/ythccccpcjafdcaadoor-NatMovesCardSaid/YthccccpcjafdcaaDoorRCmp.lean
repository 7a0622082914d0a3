import Derived.Test.YthccccpcjafdcaaDoorRText
import Derived.Test.YthccccpcjafdcaaDoorGA
import Derived.BigQuiet
import Derived.Deep.QuietTactic
namespace Go.Proofs.YthccccpcjafdcaaDoor
open Go.RowKit

theorem v32_lt_of_top {xs ys : List Nat} {k : Nat} (bx : Hd xs) (hl : xs.length = ys.length) (hk : k < xs.length) (h : xs.drop (k + 1) = ys.drop (k + 1)) (hlt : at0 xs k < at0 ys k) : v32 xs < v32 ys := by
  rw [v32_at xs k hk, v32_at ys k (by omega), h]
  have h1 := v32_lt (bx.take k)
  rw [List.length_take, Nat.min_eq_left (by omega)] at h1
  generalize v32 (ys.drop (k + 1)) = t
  have h2 : 4294967296 ^ k * (at0 xs k + 4294967296 * t + 1) ≤ 4294967296 ^ k * (at0 ys k + 4294967296 * t) := Nat.mul_le_mul_left _ (by omega)
  rw [Nat.mul_add] at h2
  omega
set_option maxHeartbeats 1000000 in
set_option maxRecDepth 100000 in
theorem rcompare_any (a b : Option Addr) (la lb ca cb V1 V2 : Nat) (xs ys : List Nat) (w : World) (hla : xs.length = la) (hlb : ys.length = lb) (hba : la ≤ 1099511627776) (hbb : lb ≤ 1099511627776)
    (hra : Rd .u64 w a xs) (hrb : Rd .u64 w b ys) (h1 : Num32 xs V1) (h2 : Num32 ys V2) :
    Calls Tryd.prog 76 #[.slice a la ca, .slice b lb cb] w (CmpPost (cmpI V1 V2) w) := by
  have H1 := Lib.hid h1
  have H2 := Lib.hid h2
  clear h1 h2
  go_enter Tryd.func76, Tryd.ntmps76
  by_cases hne : la = lb
  · subst hne
    have hne1 : ((la : Int) != (la : Int)) = false := by simp
    have HLA := Lib.hid hla
    have HLB := Lib.hid hlb
    go_wp2
    go_loopw [5] (fun v wr => ∃ i n : Nat, i ≤ la ∧ v = .int .i64 ((i : Int) - 1) ∧ wr = w.drewN n ∧ Hid (xs.drop i = ys.drop i)) (fun v _ => (intOf v + 1).toNat)
    case atStart => exact ⟨la, 0, Nat.le_refl _, rfl, rfl, by show _ = _; rw [List.drop_of_length_le (by omega), List.drop_of_length_le (by omega)]⟩
    case round =>
      obtain ⟨i, n, hi, rfl, rfl, hd⟩ := hrel
      by_cases h0 : i = 0
      · subst h0
        have hv : Hid (cmpI V1 V2 = 0) := by
          have hd1 := hd.out
          rw [List.drop_zero, List.drop_zero] at hd1
          show cmpI V1 V2 = 0
          rw [← H1.out.vl, ← H2.out.vl, hd1]
          exact cmpI_self _
        go_wp2
        go_ret
        exact ⟨by rw [hv.out]; rfl, n, rfl⟩
      · obtain ⟨m, rfl⟩ : ∃ m, i = m + 1 := ⟨i - 1, by omega⟩
        have hm : m < xs.length := by omega
        have hm' : m < ys.length := by omega
        obtain ⟨ba, oa, rfl⟩ := hra.isAt (by omega)
        obtain ⟨bb, ob, rfl⟩ := hrb.isAt (by omega)
        have hc1 := hra.cell hm
        have hc2 := hrb.cell hm'
        have hb1 := H1.out.bd.at0 m
        have hb2 := H2.out.bd.at0 m
        have HL : Hid (cmpI V1 V2 = cmpI (at0 xs m) (at0 ys m) ∨ at0 xs m = at0 ys m) := by
          rcases Nat.lt_trichotomy (at0 xs m) (at0 ys m) with h | h | h
          · refine .inl ?_
            rw [cmpI_of_lt h, ← H1.out.vl, ← H2.out.vl]
            exact cmpI_of_lt (v32_lt_of_top H1.out.bd (by omega) hm hd.out h)
          · exact .inr h
          · refine .inl ?_
            rw [cmpI_of_gt h, ← H1.out.vl, ← H2.out.vl]
            exact cmpI_of_gt (v32_lt_of_top H2.out.bd (by omega) hm' hd.out.symm h)
        have HS : Hid (at0 xs m = at0 ys m → xs.drop m = ys.drop m) := fun h => drop_succ_eq (by omega) hm hd.out h
        have hm2 : m < la := by omega
        clear hd hra hrb hm hm' hla hlb
        generalize at0 xs m = x at *
        generalize at0 ys m = y at *
        have hm1 : ((m + 1 : Nat) : Int) - 1 = (m : Int) := by omega
        rw [hm1]
        have h00 : (0 : Int) ≤ (m : Int) := by omega
        have hmI : (m : Int) < (la : Int) := by omega
        rcases Nat.lt_trichotomy x y with h | h | h
        · have hq1 : decide (x < y) = true := by rw [decide_eq_true_iff]; exact h
          have hv : Hid (cmpI V1 V2 = -1) := by
            rcases HL.out with h9 | h9
            · show _ = _; rw [h9]; exact cmpI_of_lt h
            · omega
          have HX := Lib.hid h
          clear h
          go_wp2
          go_quiet (fail)
          go_wp2
          go_ret
          exact ⟨by rw [hv.out]; rfl, _, by first | rfl | exact World.drewN_drewN _ _ _⟩
        · subst h
          have hq1 : decide (x < x) = false := by rw [decide_eq_false_iff_not]; omega
          go_wp2
          go_quiet (fail)
          go_wp2
          go_quiet (fail)
          go_wp2
          go_roundw
          case rel => exact ⟨m, _, by omega, by go_num, by first | rfl | (rw [World.drewN_drewN]) | (rw [World.drewN_drewN, World.drewN_drewN]), HS.out trivial⟩
          case measure => simp [intOf]
        · have hq1 : decide (x < y) = false := by rw [decide_eq_false_iff_not]; omega
          have hq2 : decide (y < x) = true := by rw [decide_eq_true_iff]; exact h
          have hv : Hid (cmpI V1 V2 = 1) := by
            rcases HL.out with h9 | h9
            · show _ = _; rw [h9]; exact cmpI_of_gt h
            · omega
          have HX := Lib.hid h
          clear h
          go_wp2
          go_quiet (fail)
          go_wp2
          go_quiet (fail)
          go_wp2
          go_ret
          exact ⟨by rw [hv.out]; rfl, _, (congrArg (fun W => World.drewN W _) (World.drewN_drewN _ _ _)).trans (World.drewN_drewN _ _ _)⟩
  · have hne1 : ((la : Int) != (lb : Int)) = true := by rw [bne_iff_ne]; omega
    have hor : (la < lb ∧ cmpI V1 V2 = -1) ∨ (lb < la ∧ cmpI V1 V2 = 1) := by
      rcases Nat.lt_or_ge la lb with h | h
      · refine .inl ⟨h, cmpI_of_lt ?_⟩
        exact Nat.lt_of_lt_of_le (H1.out.len_le.1 (Nat.le_of_eq hla)) (H2.out.len_lt.1 (by omega))
      · refine .inr ⟨by omega, cmpI_of_gt ?_⟩
        exact Nat.lt_of_lt_of_le (H2.out.len_le.1 (Nat.le_of_eq hlb)) (H1.out.len_lt.1 (by omega))
    rcases hor with ⟨h, hv⟩ | ⟨h, hv⟩
    · have hq1 : decide (la < lb) = true := by rw [decide_eq_true_iff]; exact h
      have HV := Lib.hid hv
      clear hv hne h
      go_wp2
      go_ret
      exact ⟨by rw [HV.out]; rfl, 0, rfl⟩
    · have hq1 : decide (la < lb) = false := by rw [decide_eq_false_iff_not]; omega
      have HV := Lib.hid hv
      clear hv hne h
      go_wp2
      go_ret
      exact ⟨by rw [HV.out]; rfl, 0, rfl⟩
end Go.Proofs.YthccccpcjafdcaaDoor
