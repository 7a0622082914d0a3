import Derived.Test.YtpipjkpjpkgmpaaDoorShA
import Derived.Test.YtpipjkpjpkgmpaaDoorGB
import Derived.StillTailTactics
namespace Go.Proofs.YtpipjkpjpkgmpaaDoor
open Go.RowKit

/-- A call that only reads (it may draw). -/
def QP (v : Value) (w : World) (e : Ending) (w' : World) : Prop := e = .returned v ∧ ∃ m, w' = w.drewN m

set_option maxHeartbeats 800000 in
theorem turn1_any (x : Int) (w : World) : Calls Tryd.prog 48 #[.int .u32 x, .int .i64 1] w (QP (.int .u32 (turnI x 1)) w) := by
  go_enter Tryd.func48, Tryd.ntmps48
  go_wp2
  go_quiet (fail)
  go_wp2
  go_ret
  exact ⟨rfl, _, rfl⟩
set_option maxHeartbeats 800000 in
theorem rot1_any (x : Int) (w : World) : Calls Tryd.prog 52 #[.int .u32 x, .int .i64 1] w fun e w' => e = .returned (.int .u32 (turnI x 1)) ∧ w' = w := by
  have h : bits BinOp.and IntKind.u64 1 31 = 1 := by decide
  go_enter Tryd.func52, Tryd.ntmps52
  go_wp2
  go_ret
  exact ⟨rfl, rfl⟩

set_option maxHeartbeats 800000 in
theorem turn5_any (x : Int) (w : World) : Calls Tryd.prog 48 #[.int .u32 x, .int .i64 5] w (QP (.int .u32 (turnI x 5)) w) := by
  go_enter Tryd.func48, Tryd.ntmps48
  go_wp2
  go_quiet (fail)
  go_wp2
  go_ret
  exact ⟨rfl, _, rfl⟩
set_option maxHeartbeats 800000 in
theorem rot5_any (x : Int) (w : World) : Calls Tryd.prog 52 #[.int .u32 x, .int .i64 5] w fun e w' => e = .returned (.int .u32 (turnI x 5)) ∧ w' = w := by
  have h : bits BinOp.and IntKind.u64 5 31 = 5 := by decide
  go_enter Tryd.func52, Tryd.ntmps52
  go_wp2
  go_ret
  exact ⟨rfl, rfl⟩

set_option maxHeartbeats 800000 in
theorem turn30_any (x : Int) (w : World) : Calls Tryd.prog 48 #[.int .u32 x, .int .i64 30] w (QP (.int .u32 (turnI x 30)) w) := by
  go_enter Tryd.func48, Tryd.ntmps48
  go_wp2
  go_quiet (fail)
  go_wp2
  go_ret
  exact ⟨rfl, _, rfl⟩
set_option maxHeartbeats 800000 in
theorem rot30_any (x : Int) (w : World) : Calls Tryd.prog 52 #[.int .u32 x, .int .i64 30] w fun e w' => e = .returned (.int .u32 (turnI x 30)) ∧ w' = w := by
  have h : bits BinOp.and IntKind.u64 30 31 = 30 := by decide
  go_enter Tryd.func52, Tryd.ntmps52
  go_wp2
  go_ret
  exact ⟨rfl, rfl⟩

set_option maxHeartbeats 800000 in
theorem mix_any (t : Nat) (b c d : Int) (w : World) : Calls Tryd.prog 51 #[.int .i64 t, .int .u32 b, .int .u32 c, .int .u32 d] w fun e w' => e = .returned (.tuple #[.int .u32 (fI t b c d), .int .u32 (kI t)]) ∧ w' = w := by
  rw [fI, kI]
  by_cases h1 : t < 20
  · simp only [h1, if_true]
    go_enter Tryd.func51, Tryd.ntmps51
    go_wp2
    go_ret2
    exact ⟨rfl, rfl⟩
  simp only [h1, if_false]
  by_cases h2 : t < 40
  · simp only [h2, if_true]
    go_enter Tryd.func51, Tryd.ntmps51
    go_wp2
    go_ret2
    exact ⟨rfl, rfl⟩
  simp only [h2, if_false]
  by_cases h3 : t < 60
  · simp only [h3, if_true]
    go_enter Tryd.func51, Tryd.ntmps51
    go_wp2
    go_ret2
    exact ⟨rfl, rfl⟩
  simp only [h3, if_false]
  go_enter Tryd.func51, Tryd.ntmps51
  go_wp2
  go_ret2
  exact ⟨rfl, rfl⟩

set_option maxHeartbeats 800000 in
theorem mixed_any (t : Nat) (b c d : Int) (w : World) : Calls Tryd.prog 49 #[.int .i64 t, .int .u32 b, .int .u32 c, .int .u32 d] w fun e w' => e = .returned (.tuple #[.int .u32 (fI t b c d), .int .u32 (kI t)]) ∧ w' = w := by
  rw [fI, kI]
  by_cases h1 : t < 20
  · simp only [h1, if_true]
    go_enter Tryd.func49, Tryd.ntmps49
    go_wp2
    go_ret2
    exact ⟨rfl, rfl⟩
  simp only [h1, if_false]
  by_cases h2 : t < 40
  · simp only [h2, if_true]
    go_enter Tryd.func49, Tryd.ntmps49
    go_wp2
    go_ret2
    exact ⟨rfl, rfl⟩
  simp only [h2, if_false]
  by_cases h3 : t < 60
  · simp only [h3, if_true]
    go_enter Tryd.func49, Tryd.ntmps49
    go_wp2
    go_ret2
    exact ⟨rfl, rfl⟩
  simp only [h3, if_false]
  go_enter Tryd.func49, Tryd.ntmps49
  go_wp2
  go_ret2
  exact ⟨rfl, rfl⟩
end Go.Proofs.YtpipjkpjpkgmpaaDoor
