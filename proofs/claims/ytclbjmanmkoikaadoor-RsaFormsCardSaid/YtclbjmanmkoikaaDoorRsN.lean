import Derived.Test.YtclbjmanmkoikaaDoorRsM
import Derived.BigQuiet
namespace Go.Proofs.YtclbjmanmkoikaaDoor
open Go.RowKit

/-! The laws: what they share. -/
theorem ext_below8 {xs ys : List Nat} {n : Nat} (h1 : xs.length = n) (h2 : ys.length = n) (h : ∀ j, j < n → at0 xs j = at0 ys j) : xs = ys :=
  ext_at0 (by omega) fun i hi => h i (by omega)
set_option maxHeartbeats 1000000 in
/-- Two lists of limbs, whatever they hold. -/
theorem words8_any (a b : Option Addr) (la lb ca cb : Nat) (xs ys : List Nat) (w : World) (hla : xs.length = la) (hlb : ys.length = lb) (hba : la ≤ 1099511627776) (hra : Rd .u64 w a xs) (hrb : Rd .u64 w b ys) :
    Calls Tryd.prog 15 #[.slice a la ca, .slice b lb cb] w fun e w' => e = .returned (.bool (decide (xs = ys))) ∧ ∃ n, w' = w.drewN n := by
  by_cases hll : la = lb
  · subst hll
    have HXY : Hid (xs.length = la ∧ ys.length = la) := ⟨hla, hlb⟩
    go_enter Tryd.func15, Tryd.ntmps15
    have hne : ((la : Int) != (la : Int)) = false := by simp
    go_wp2
    go_loopw [5] (fun v wr => ∃ i n' : Nat, i ≤ la ∧ v = .int .i64 (i : Nat) ∧ wr = w.drewN n' ∧ Hid (∀ j, j < i → at0 xs j = at0 ys j)) (fun v _ => la - (intOf v).toNat)
    case atStart => exact ⟨0, 0, Nat.zero_le _, rfl, rfl, fun j hj => absurd hj (Nat.not_lt_zero _)⟩
    case round =>
      obtain ⟨i, n', hi, rfl, rfl, HS⟩ := hrel
      by_cases h0 : i < la
      · obtain ⟨ba, oa, rfl⟩ := hra.isAt (by omega)
        obtain ⟨bb, ob, rfl⟩ := hrb.isAt (by omega)
        have hc1 := hra.cell (i := i) (by omega)
        have hc2 := hrb.cell (i := i) (by omega)
        have h00 : (0 : Int) ≤ (i : Int) := by omega
        clear hra hrb hla hlb
        by_cases hxy : at0 xs i = at0 ys i
        · have HXE := Lib.hid hxy
          rw [← hxy] at hc2
          clear hxy
          generalize at0 xs i = x at hc1 hc2
          have hxx : ((x : Int) != (x : Int)) = false := by simp
          go_wp2
          go_quiet (fail)
          go_wp2
          go_roundw
          case rel =>
            refine ⟨i + 1, n' + nq, by omega, by go_num, by first | rfl | exact World.drewN_drewN _ _ _, fun j hj => ?_⟩
            rcases Nat.lt_or_ge j i with h | h
            · exact HS.out j h
            · obtain rfl : j = i := by omega
              exact HXE.out
          case measure => simp [intOf]; omega
        · have HNE : Hid (xs ≠ ys) := fun h => hxy (by rw [h])
          generalize at0 xs i = x at hc1 hxy
          generalize at0 ys i = y at hc2 hxy
          have hxx : ((x : Int) != (y : Int)) = true := by simp; omega
          clear hxy
          go_wp2
          go_quiet (fail)
          go_wp2
          go_ret
          exact ⟨by rw [decide_eq_false HNE.out]; rfl, n' + nq, by first | rfl | exact World.drewN_drewN _ _ _⟩
      · obtain rfl : i = la := by omega
        have hq : decide (i < i) = false := by simp
        go_wp2
        go_ret
        exact ⟨by rw [decide_eq_true (ext_below8 HXY.out.1 HXY.out.2 HS.out)]; rfl, n', rfl⟩
  · have HNE : Hid (xs ≠ ys) := fun h => hll (by rw [← hla, ← hlb, h])
    have hne : ((la : Int) != (lb : Int)) = true := by simp; omega
    clear hll
    go_enter Tryd.func15, Tryd.ntmps15
    go_wp2
    go_ret
    exact ⟨by rw [decide_eq_false HNE.out]; rfl, 0, rfl⟩

set_option maxHeartbeats 1000000 in
/-- Two rows of bytes, whatever they hold. -/
theorem bytes8_any (a b : Option Addr) (la lb ca cb : Nat) (xs ys : List Nat) (w : World) (hla : xs.length = la) (hlb : ys.length = lb) (hba : la ≤ 1099511627776) (hra : Rd .u8 w a xs) (hrb : Rd .u8 w b ys) :
    Calls Tryd.prog 17 #[.slice a la ca, .slice b lb cb] w fun e w' => e = .returned (.bool (decide (xs = ys))) ∧ ∃ n, w' = w.drewN n := by
  by_cases hll : la = lb
  · subst hll
    have HXY : Hid (xs.length = la ∧ ys.length = la) := ⟨hla, hlb⟩
    go_enter Tryd.func17, Tryd.ntmps17
    have hne : ((la : Int) != (la : Int)) = false := by simp
    go_wp2
    go_loopw [5] (fun v wr => ∃ i n' : Nat, i ≤ la ∧ v = .int .i64 (i : Nat) ∧ wr = w.drewN n' ∧ Hid (∀ j, j < i → at0 xs j = at0 ys j)) (fun v _ => la - (intOf v).toNat)
    case atStart => exact ⟨0, 0, Nat.zero_le _, rfl, rfl, fun j hj => absurd hj (Nat.not_lt_zero _)⟩
    case round =>
      obtain ⟨i, n', hi, rfl, rfl, HS⟩ := hrel
      by_cases h0 : i < la
      · obtain ⟨ba, oa, rfl⟩ := hra.isAt (by omega)
        obtain ⟨bb, ob, rfl⟩ := hrb.isAt (by omega)
        have hc1 := hra.cell (i := i) (by omega)
        have hc2 := hrb.cell (i := i) (by omega)
        have h00 : (0 : Int) ≤ (i : Int) := by omega
        clear hra hrb hla hlb
        by_cases hxy : at0 xs i = at0 ys i
        · have HXE := Lib.hid hxy
          rw [← hxy] at hc2
          clear hxy
          generalize at0 xs i = x at hc1 hc2
          have hxx : ((x : Int) != (x : Int)) = false := by simp
          go_wp2
          go_quiet (fail)
          go_wp2
          go_roundw
          case rel =>
            refine ⟨i + 1, n' + nq, by omega, by go_num, by first | rfl | exact World.drewN_drewN _ _ _, fun j hj => ?_⟩
            rcases Nat.lt_or_ge j i with h | h
            · exact HS.out j h
            · obtain rfl : j = i := by omega
              exact HXE.out
          case measure => simp [intOf]; omega
        · have HNE : Hid (xs ≠ ys) := fun h => hxy (by rw [h])
          generalize at0 xs i = x at hc1 hxy
          generalize at0 ys i = y at hc2 hxy
          have hxx : ((x : Int) != (y : Int)) = true := by simp; omega
          clear hxy
          go_wp2
          go_quiet (fail)
          go_wp2
          go_ret
          exact ⟨by rw [decide_eq_false HNE.out]; rfl, n' + nq, by first | rfl | exact World.drewN_drewN _ _ _⟩
      · obtain rfl : i = la := by omega
        have hq : decide (i < i) = false := by simp
        go_wp2
        go_ret
        exact ⟨by rw [decide_eq_true (ext_below8 HXY.out.1 HXY.out.2 HS.out)]; rfl, n', rfl⟩
  · have HNE : Hid (xs ≠ ys) := fun h => hll (by rw [← hla, ← hlb, h])
    have hne : ((la : Int) != (lb : Int)) = true := by simp; omega
    clear hll
    go_enter Tryd.func17, Tryd.ntmps17
    go_wp2
    go_ret
    exact ⟨by rw [decide_eq_false HNE.out]; rfl, 0, rfl⟩

theorem p_sameb {w : World} {v1 v2 : Value} {l1 l2 : List Nat} (h1 : Raw8 w v1 l1) (h2 : Raw8 w v2 l2) (hb : l1.length ≤ 1099511627776) :
    Calls Tryd.prog 17 #[v1, v2] w fun e w' => Below w.heap.size w w' ∧ ((l1 = l2 ∧ e = .returned (.bool true)) ∨ (l1 ≠ l2 ∧ e = .returned (.bool false))) := by
  obtain ⟨a, c, rfl, _, _, r1, _⟩ := h1
  obtain ⟨b, d, rfl, _, _, r2, _⟩ := h2
  refine (bytes8_any a b _ _ c d l1 l2 w rfl rfl hb r1 r2).mono ?_
  rintro e w' ⟨rfl, n, rfl⟩
  refine ⟨⟨rfl, rfl, rfl, Nat.le_refl _, fun _ _ => rfl⟩, ?_⟩
  by_cases h : l1 = l2
  · exact .inl ⟨h, by rw [decide_eq_true h]⟩
  · exact .inr ⟨h, by rw [decide_eq_false h]⟩
theorem p_samew {w : World} {v1 v2 : Value} {l1 l2 : List Nat} {B1 B2 : Nat} (h1 : own64 w B1 v1 l1) (h2 : own64 w B2 v2 l2) (hb : l1.length ≤ 1099511627776) :
    Calls Tryd.prog 15 #[v1, v2] w fun e w' => Below w.heap.size w w' ∧ ((l1 = l2 ∧ e = .returned (.bool true)) ∨ (l1 ≠ l2 ∧ e = .returned (.bool false))) := by
  obtain ⟨a, c, rfl, r1⟩ := own64.form h1
  obtain ⟨b, d, rfl, r2⟩ := own64.form h2
  refine (words8_any a b _ _ c d l1 l2 w rfl rfl hb r1 r2).mono ?_
  rintro e w' ⟨rfl, n, rfl⟩
  refine ⟨⟨rfl, rfl, rfl, Nat.le_refl _, fun _ _ => rfl⟩, ?_⟩
  by_cases h : l1 = l2
  · exact .inl ⟨h, by rw [decide_eq_true h]⟩
  · exact .inr ⟨h, by rw [decide_eq_false h]⟩
theorem short8_any (aN : Option Addr) (lN cN : Nat) (aE : Option Addr) (lE cE : Nat) (w : World) :
    Calls Tryd.prog 5 #[.agg #[.slice aN lN cN, .slice aE lE cE]] w fun e w' => Below w.heap.size w w' ∧ ∃ b : Bool, e = .returned (.bool b) ∧ (b = true → lN ≤ 150 ∧ lE ≤ 150) := by
  have HB := Lib.hid ((Below.refl w.heap.size w).alloc (Nat.le_refl _) (KB (.slice aN lN cN) (.slice aE lE cE)))
  by_cases h1 : lN ≤ 150
  · by_cases h2 : lE ≤ 150
    · have q1 : decide ((lN : Int) ≤ 150) = true := decide_eq_true (by omega)
      have q2 : decide ((lE : Int) ≤ 150) = true := decide_eq_true (by omega)
      have HH := Lib.hid (And.intro h1 h2)
      clear h1 h2
      have q3 : decide ((lE : Int) ≤ 4) = true ∨ decide ((lE : Int) ≤ 4) = false := by cases decide ((lE : Int) ≤ 4) <;> simp
      have q4 : decide ((lN : Int) ≤ 8) = true ∨ decide ((lN : Int) ≤ 8) = false := by cases decide ((lN : Int) ≤ 8) <;> simp
      rcases q3 with q3 | q3 <;> rcases q4 with q4 | q4
      all_goals
        go_enter Tryd.func5, Tryd.ntmps5
        go_wp2
        go_ret
        exact ⟨HB.out, _, rfl, fun _ => HH.out⟩
    · have q1 : decide ((lN : Int) ≤ 150) = true := decide_eq_true (by omega)
      have q2 : decide ((lE : Int) ≤ 150) = false := decide_eq_false (by omega)
      clear h1 h2
      go_enter Tryd.func5, Tryd.ntmps5
      go_wp2
      go_ret
      exact ⟨HB.out, _, rfl, fun h => by cases h⟩
  · have q1 : decide ((lN : Int) ≤ 150) = false := decide_eq_false (by omega)
    clear h1
    go_enter Tryd.func5, Tryd.ntmps5
    go_wp2
    go_ret
    exact ⟨HB.out, _, rfl, fun h => by cases h⟩
end Go.Proofs.YtclbjmanmkoikaaDoor
