import Derived.Test.YtflmgdfcgggmbaaDoorSub
namespace Go.Proofs.YtflmgdfcgggmbaaDoor
open Go.RowKit

/-- Two lists that are the same are found to be. -/
def YesPost (w : World) (e : Ending) (w' : World) : Prop := e = .returned (.bool true) ∧ ∃ n, w' = w.drewN n
theorem words_same (a b : Option Addr) (n ca cb : Nat) (xs : List Nat) (w : World) (hla : xs.length = n) (hba : n ≤ 1099511627776) 
    (hra : Rd .u64 w a xs) (hrb : Rd .u64 w b xs) :
    Calls Tryd.prog 33 #[.slice a n ca, .slice b n cb] w (YesPost w) := by
  go_enter Tryd.func33, Tryd.ntmps33
  have hne : ((n : Int) != (n : Int)) = false := by simp
  go_wp2
  go_loopw [5] (fun v wr => ∃ i n' : Nat, i ≤ n ∧ v = .int .i64 (i : Nat) ∧ wr = w.drewN n') (fun v _ => n - (intOf v).toNat)
  case atStart => exact ⟨0, 0, Nat.zero_le _, rfl, rfl⟩
  case round =>
    obtain ⟨i, n', hi, rfl, rfl⟩ := hrel
    by_cases h0 : i < n
    · obtain ⟨ba, oa, rfl⟩ := hra.isAt (by omega)
      obtain ⟨bb, ob, rfl⟩ := hrb.isAt (by omega)
      have hc1 := hra.cell (i := i) (by omega)
      have hc2 := hrb.cell (i := i) (by omega)
      have h00 : (0 : Int) ≤ (i : Int) := by omega
      clear hra hrb
      generalize at0 xs i = x at *
      have hxx : ((x : Int) != (x : Int)) = false := by simp
      go_wp2
      go_quiet (fail)
      go_wp2
      go_roundw
      case rel => exact ⟨i + 1, n' + nq, by omega, by go_num, by first | rfl | exact World.drewN_drewN _ _ _⟩
      case measure => simp [intOf]; omega
    · have hq : decide (i < n) = false := by simp; omega
      go_wp2
      go_ret
      exact ⟨rfl, n', rfl⟩
end Go.Proofs.YtflmgdfcgggmbaaDoor
