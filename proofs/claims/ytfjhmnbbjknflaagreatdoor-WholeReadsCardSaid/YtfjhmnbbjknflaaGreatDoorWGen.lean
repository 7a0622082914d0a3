import Derived.Test.YtfjhmnbbjknflaaGreatDoorWholeE
import Derived.Test.YtfjhmnbbjknflaaGreatDoorKom
namespace Go.Proofs.YtfjhmnbbjknflaaGreatDoor
open Go.RowKit

theorem ext_below {xs ys : List Nat} {n : Nat} (h1 : xs.length = n) (h2 : ys.length = n) (h : ∀ j, j < n → at0 xs j = at0 ys j) : xs = ys :=
  ext_at0 (by omega) fun i hi => h i (by omega)
set_option maxHeartbeats 1000000 in
/-- Two lists of limbs, whatever they hold. -/
theorem words_any (a b : Option Addr) (la lb ca cb : Nat) (xs ys : List Nat) (w : World) (hla : xs.length = la) (hlb : ys.length = lb) (hba : la ≤ 1099511627776) (hra : Rd .u64 w a xs) (hrb : Rd .u64 w b ys) :
    Calls Tryz.prog 82 #[.slice a la ca, .slice b lb cb] w fun e w' => e = .returned (.bool (decide (xs = ys))) ∧ ∃ n, w' = w.drewN n := by
  by_cases hll : la = lb
  · subst hll
    have HXY : Hid (xs.length = la ∧ ys.length = la) := ⟨hla, hlb⟩
    go_enter Tryz.func82, Tryz.ntmps82
    have hne : ((la : Int) != (la : Int)) = false := by simp
    go_wp2
    go_loopw [5] (fun v wr => ∃ i n' : Nat, i ≤ la ∧ v = .int .i64 (i : Nat) ∧ wr = w.drewN n' ∧ Hid (∀ j, j < i → at0 xs j = at0 ys j)) (fun v _ => la - (intOf v).toNat)
    case atStart => exact ⟨0, 0, Nat.zero_le _, rfl, rfl, fun j hj => absurd hj (Nat.not_lt_zero _)⟩
    case round =>
      obtain ⟨i, n', hi, rfl, rfl, HS⟩ := hrel
      by_cases h0 : i < la
      · obtain ⟨ba, oa, rfl⟩ := hra.isAt (by omega)
        obtain ⟨bb, ob, rfl⟩ := hrb.isAt (by omega)
        have hc1 := hra.cell (i := i) (by omega)
        have hc2 := hrb.cell (i := i) (by omega)
        have h00 : (0 : Int) ≤ (i : Int) := by omega
        clear hra hrb hla hlb
        by_cases hxy : at0 xs i = at0 ys i
        · have HXE := Lib.hid hxy
          rw [← hxy] at hc2
          clear hxy
          generalize at0 xs i = x at hc1 hc2
          have hxx : ((x : Int) != (x : Int)) = false := by simp
          go_wp2
          go_quiet (fail)
          go_wp2
          go_roundw
          case rel =>
            refine ⟨i + 1, n' + nq, by omega, by go_num, by first | rfl | exact World.drewN_drewN _ _ _, fun j hj => ?_⟩
            rcases Nat.lt_or_ge j i with h | h
            · exact HS.out j h
            · obtain rfl : j = i := by omega
              exact HXE.out
          case measure => simp [intOf]; omega
        · have HNE : Hid (xs ≠ ys) := fun h => hxy (by rw [h])
          generalize at0 xs i = x at hc1 hxy
          generalize at0 ys i = y at hc2 hxy
          have hxx : ((x : Int) != (y : Int)) = true := by simp; omega
          clear hxy
          go_wp2
          go_quiet (fail)
          go_wp2
          go_ret
          exact ⟨by rw [decide_eq_false HNE.out]; rfl, n' + nq, by first | rfl | exact World.drewN_drewN _ _ _⟩
      · obtain rfl : i = la := by omega
        have hq : decide (i < i) = false := by simp
        go_wp2
        go_ret
        exact ⟨by rw [decide_eq_true (ext_below HXY.out.1 HXY.out.2 HS.out)]; rfl, n', rfl⟩
  · have HNE : Hid (xs ≠ ys) := fun h => hll (by rw [← hla, ← hlb, h])
    have hne : ((la : Int) != (lb : Int)) = true := by simp; omega
    clear hll
    go_enter Tryz.func82, Tryz.ntmps82
    go_wp2
    go_ret
    exact ⟨by rw [decide_eq_false HNE.out]; rfl, 0, rfl⟩

theorem whole_eq {n m : Bool} {xs ys : List Nat} {Z1 Z2 : Int} (hn : n = decide (Z1 < 0)) (hm : m = decide (Z2 < 0)) (h1 : Num xs Z1.natAbs) (h2 : Num ys Z2.natAbs) : (n = m ∧ xs = ys) ↔ Z1 = Z2 := by
  subst hn hm
  constructor
  · rintro ⟨h, rfl⟩
    have h3 := h1.vl
    have h4 := h2.vl
    have h5 : (Z1 < 0) = (Z2 < 0) := by simpa using h
    have h6 : Z1.natAbs = Z2.natAbs := by rw [← h3, ← h4]
    by_cases h7 : Z1 < 0
    · have h8 := h5 ▸ h7; omega
    · have h8 : ¬ Z2 < 0 := fun h => h7 (h5 ▸ h)
      omega
  · rintro rfl
    exact ⟨rfl, h1.unique h2⟩

set_option maxHeartbeats 1000000 in
set_option maxRecDepth 100000 in
/-- Two whole numbers, whatever they are. -/
theorem wsameW_any (n m : Bool) (a b : Option Addr) (la ca lb cb : Nat) (xs ys : List Nat) (w : World) (hla : xs.length = la) (hlb : ys.length = lb) (hba : la ≤ 1048576) (hra : Rd .u64 w a xs) (hrb : Rd .u64 w b ys) :
    Calls Tryz.prog 40 #[.agg #[.bool n, .slice a la ca], .agg #[.bool m, .slice b lb cb]] w fun e w' => e = .returned (.bool (decide (n = m ∧ xs = ys))) ∧ Below w.heap.size w w' := by
  have HA := Lib.hid (fun (W : World) (h : Below w.heap.size w W) => hra.below h)
  have HB := Lib.hid (fun (W : World) (h : Below w.heap.size w W) => hrb.below h)
  clear hra hrb
  by_cases hnm : n = m
  · subst hnm
    have hnn : (n == n) = true := by simp
    go_enter Tryz.func40, Tryz.ntmps40
    go_wp2_with fail
    have hb0 : Below w.heap.size w ((w.alloc (WO n a la ca)).alloc (WO n b lb cb)) := ((Below.refl _ _).alloc (Nat.le_refl _) _).alloc (by simp) _
    refine (words_any a b la lb ca cb xs ys _ hla hlb (by omega) (HA.out _ hb0) (HB.out _ hb0)).mono ?_
    rintro e w1 ⟨rfl, nd, rfl⟩
    have HB0 := Lib.hid (Below.drewM hb0 nd)
    clear hb0
    have HD : Hid (decide (n = n ∧ xs = ys) = decide (xs = ys)) := by show _ = _; simp
    generalize decide (xs = ys) = q at *
    go_wp2
    go_ret
    exact ⟨by rw [HD.out]; rfl, HB0.out⟩
  · have hnn : (n == m) = false := by simpa using hnm
    have hd : decide (n = m ∧ xs = ys) = false := by simp [hnm]
    have HD := Lib.hid hd
    clear hd hnm
    go_enter Tryz.func40, Tryz.ntmps40
    have hb0 := Lib.hid (show Below w.heap.size w ((w.alloc (WO n a la ca)).alloc (WO m b lb cb)) from ((Below.refl _ _).alloc (Nat.le_refl _) _).alloc (by simp) _)
    go_wp2
    go_ret
    exact ⟨by rw [HD.out]; rfl, hb0.out⟩
theorem wmul_any (n m : Bool) (a b : Option Addr) (la ca lb cb : Nat) (xs ys : List Nat) (w : World) (hla : xs.length = la) (hlb : ys.length = lb) (hba : la ≤ 1048576) (hbb : lb ≤ 1048576) (hca : la ≤ ca) (hcb : lb ≤ cb)
    (hra : Rd .u64 w a xs) (hrb : Rd .u64 w b ys) (bx : Bd xs) (bY : Bd ys) (ht : Tabs w) (hT : Trig w) :
    Calls Tryz.prog 17 #[.agg #[.bool n, .slice a la ca], .agg #[.bool m, .slice b lb cb]] w (WTold (WTells (val xs < LIM ∧ val ys < LIM) (wv n xs * wv m ys)) w) :=
  wmul_of n m a b la ca lb cb xs ys w hla hlb hba hbb hca hcb hra hrb bx bY ht fun W hb => mul_any a b la lb ca cb xs ys W hla hlb hba hbb hca hcb (hra.below hb) (hrb.below hb) bx bY (hT.below hb)
theorem wquo_any (n m : Bool) (a b : Option Addr) (la ca lb cb : Nat) (xs ys : List Nat) (w : World) (hla : xs.length = la) (hlb : ys.length = lb) (hba : la ≤ 1048575) (hbb : lb ≤ 1048575) (hca : la ≤ ca) (hcb : lb ≤ cb) (hna : a = none → ca = 0)
    (hra : Rd .u64 w a xs) (hrb : Rd .u64 w b ys) (bx : Bd xs) (bY : Bd ys) (ht : Tabs w) :
    Calls Tryz.prog 18 #[.agg #[.bool n, .slice a la ca], .agg #[.bool m, .slice b lb cb]] w (WTold (WQuoTells (val xs < LIM ∧ val ys < LIM) (val ys) (Int.tdiv (wv n xs) (wv m ys))) w) :=
  wquo_of n m a b la ca lb cb xs ys w hla hlb (by omega) (by omega) hca hcb hra hrb bx bY ht fun W hb => quo_all a b la lb ca cb xs ys W hla hlb hba hbb hca hcb hna (hra.below hb) (hrb.below hb) bx bY
theorem wrem_any (n m : Bool) (a b : Option Addr) (la ca lb cb : Nat) (xs ys : List Nat) (w : World) (hla : xs.length = la) (hlb : ys.length = lb) (hba : la ≤ 1048575) (hbb : lb ≤ 1048575) (hca : la ≤ ca) (hcb : lb ≤ cb) (hna : a = none → ca = 0)
    (hra : Rd .u64 w a xs) (hrb : Rd .u64 w b ys) (bx : Bd xs) (bY : Bd ys) :
    Calls Tryz.prog 19 #[.agg #[.bool n, .slice a la ca], .agg #[.bool m, .slice b lb cb]] w (WTold (WQuoTells (val xs < LIM ∧ val ys < LIM) (val ys) (Int.tmod (wv n xs) (wv m ys))) w) :=
  wrem_of n m a b la ca lb cb xs ys w hla hlb (by omega) (by omega) hca hcb hra hrb bx bY fun W hb => quo_all a b la lb ca cb xs ys W hla hlb hba hbb hca hcb hna (hra.below hb) (hrb.below hb) bx bY
end Go.Proofs.YtfjhmnbbjknflaaGreatDoor
