import Derived.Test.YtpipjkpjpkgmpaaDoorOpen
import Derived.Test.YtpipjkpjpkgmpaaDoorCoB
namespace Go.Proofs.YtpipjkpjpkgmpaaDoor
open Go.ChangeShapes Go.WideShapes Go.ChangeAt Go.RowKit

/-- The tables of worths. -/
def hexT : List Int := [-1, -1, -1, -1, -1, -1, -1, -1, -1, -1, -1, -1, -1, -1, -1, -1, -1, -1, -1, -1, -1, -1, -1, -1, -1, -1, -1, -1, -1, -1, -1, -1, -1, -1, -1, -1, -1, -1, -1, -1, -1, -1, -1, -1, -1, -1, -1, -1, 0, 1, 2, 3, 4, 5, 6, 7, 8, 9, -1, -1, -1, -1, -1, -1, -1, 10, 11, 12, 13, 14, 15, -1, -1, -1, -1, -1, -1, -1, -1, -1, -1, -1, -1, -1, -1, -1, -1, -1, -1, -1, -1, -1, -1, -1, -1, -1, -1, 10, 11, 12, 13, 14, 15, -1, -1, -1, -1, -1, -1, -1, -1, -1, -1, -1, -1, -1, -1, -1, -1, -1, -1, -1, -1, -1, -1, -1, -1, -1]
def b64T : List Int := [-1, -1, -1, -1, -1, -1, -1, -1, -1, -1, -1, -1, -1, -1, -1, -1, -1, -1, -1, -1, -1, -1, -1, -1, -1, -1, -1, -1, -1, -1, -1, -1, -1, -1, -1, -1, -1, -1, -1, -1, -1, -1, -1, 62, -1, -1, -1, 63, 52, 53, 54, 55, 56, 57, 58, 59, 60, 61, -1, -1, -1, -1, -1, -1, -1, 0, 1, 2, 3, 4, 5, 6, 7, 8, 9, 10, 11, 12, 13, 14, 15, 16, 17, 18, 19, 20, 21, 22, 23, 24, 25, -1, -1, -1, -1, -1, -1, 26, 27, 28, 29, 30, 31, 32, 33, 34, 35, 36, 37, 38, 39, 40, 41, 42, 43, 44, 45, 46, 47, 48, 49, 50, 51, -1, -1, -1, -1, -1]
def hw (i : Nat) : Int := hexT.getD i 0
def bw (i : Nat) : Int := b64T.getD i 0
def HT (w : World) : Prop := ∀ i, i < 128 → w.cell? ⟨1, i, none⟩ = some (.int .i8 (hw i))
def BT (w : World) : Prop := ∀ i, i < 128 → w.cell? ⟨2, i, none⟩ = some (.int .i8 (bw i))
theorem HT.below {w w' : World} (h : HT w) (hb : Below w.heap.size w w') : HT w' := fun i hi => below_cell hb _ _ (h i hi)
theorem BT.below {w w' : World} (h : BT w) (hb : Below w.heap.size w w') : BT w' := fun i hi => below_cell hb _ _ (h i hi)
theorem HT.chg {w w' : World} {S : Nat → Prop} (h : HT w) (hc : Chg S w w') (hn : ¬ S 1) : HT w' := fun i hi => hc.cell (h i hi) hn
theorem BT.chg {w w' : World} {S : Nat → Prop} (h : BT w) (hc : Chg S w w') (hn : ¬ S 2) : BT w' := fun i hi => hc.cell (h i hi) hn
theorem HT.lt {w : World} (h : HT w) : (1 : Nat) < w.heap.size := World.block_lt_of_cell? w _ (h 0 (by decide))
theorem BT.lt {w : World} (h : BT w) : (2 : Nat) < w.heap.size := World.block_lt_of_cell? w _ (h 0 (by decide))
set_option maxRecDepth 100000 in
theorem hw_cases (i : Nat) (h : i < 128) : (hw i = -1 ∧ ∀ d, d < 16 → hexD d ≠ low i) ∨ ∃ d : Nat, d < 16 ∧ hw i = (d : Int) ∧ hexD d = low i := by
  have : ∀ i : Fin 128, (hw i.val = -1 ∧ ∀ d : Fin 16, hexD d.val ≠ low i.val) ∨ ∃ d : Fin 16, hw i.val = (d.val : Int) ∧ hexD d.val = low i.val := by decide +kernel
  rcases this ⟨i, h⟩ with ⟨h1, h2⟩ | ⟨d, h1, h2⟩
  · exact .inl ⟨h1, fun d hd => h2 ⟨d, hd⟩⟩
  · exact .inr ⟨d.val, d.isLt, h1, h2⟩
set_option maxRecDepth 100000 in
theorem bw_cases (i : Nat) (h : i < 128) : (bw i = -1 ∧ ∀ d, d < 64 → b64D d ≠ i) ∨ ∃ d : Nat, d < 64 ∧ bw i = (d : Int) ∧ b64D d = i := by
  have : ∀ i : Fin 128, (bw i.val = -1 ∧ ∀ d : Fin 64, b64D d.val ≠ i.val) ∨ ∃ d : Fin 64, bw i.val = (d.val : Int) ∧ b64D d.val = i.val := by decide +kernel
  rcases this ⟨i, h⟩ with ⟨h1, h2⟩ | ⟨d, h1, h2⟩
  · exact .inl ⟨h1, fun d hd => h2 ⟨d, hd⟩⟩
  · exact .inr ⟨d.val, d.isLt, h1, h2⟩

set_option maxHeartbeats 800000 in
theorem whex_high (r : Int) (w : World) (h : 128 ≤ r) (h2 : r ≤ 2147483647) : Calls Tryd.prog 44 #[.int .i32 r] w fun e w' => e = .returned (.tuple #[.int .u8 0, .bool false]) ∧ w = w' := by
  have hq : decide ((128 : Int) ≤ r) = true := decide_eq_true h
  go_enter Tryd.func44, Tryd.ntmps44
  go_wp2
  go_ret2
  exact ⟨rfl, rfl⟩
set_option maxHeartbeats 800000 in
theorem whex_no (i : Nat) (w : World) (h : i < 128) (hT : HT w) (hn : hw i = -1) : Calls Tryd.prog 44 #[.int .i32 (i : Nat)] w fun e w' => e = .returned (.tuple #[.int .u8 0, .bool false]) ∧ w = w' := by
  have hq : decide ((128 : Int) ≤ (i : Int)) = false := decide_eq_false (by omega)
  have hc := hT i h
  rw [hn] at hc
  clear hT hn
  go_enter Tryd.func44, Tryd.ntmps44
  go_wp2
  go_ret2
  exact ⟨rfl, rfl⟩
set_option maxHeartbeats 800000 in
theorem whex_yes (i d : Nat) (w : World) (h : i < 128) (hT : HT w) (hd : d < 16) (hn : hw i = (d : Int)) : Calls Tryd.prog 44 #[.int .i32 (i : Nat)] w fun e w' => e = .returned (.tuple #[.int .u8 (d : Nat), .bool true]) ∧ w = w' := by
  have hq : decide ((128 : Int) ≤ (i : Int)) = false := decide_eq_false (by omega)
  have hc := hT i h
  rw [hn] at hc
  have e1 : IntKind.u8.wrap (d : Int) = (d : Int) := wrap_u8_in d (by omega)
  have hm : ((d : Int) == -1) = false := by simp
  clear hT hn
  go_enter Tryd.func44, Tryd.ntmps44
  go_wp2
  go_ret2
  exact ⟨rfl, rfl⟩
set_option maxHeartbeats 800000 in
theorem w64_high (r : Int) (w : World) (h : 128 ≤ r) (h2 : r ≤ 2147483647) : Calls Tryd.prog 46 #[.int .i32 r] w fun e w' => e = .returned (.tuple #[.int .u8 0, .bool false]) ∧ w = w' := by
  have hq : decide ((128 : Int) ≤ r) = true := decide_eq_true h
  go_enter Tryd.func46, Tryd.ntmps46
  go_wp2
  go_ret2
  exact ⟨rfl, rfl⟩
set_option maxHeartbeats 800000 in
theorem w64_no (i : Nat) (w : World) (h : i < 128) (hT : BT w) (hn : bw i = -1) : Calls Tryd.prog 46 #[.int .i32 (i : Nat)] w fun e w' => e = .returned (.tuple #[.int .u8 0, .bool false]) ∧ w = w' := by
  have hq : decide ((128 : Int) ≤ (i : Int)) = false := decide_eq_false (by omega)
  have hc := hT i h
  rw [hn] at hc
  clear hT hn
  go_enter Tryd.func46, Tryd.ntmps46
  go_wp2
  go_ret2
  exact ⟨rfl, rfl⟩
set_option maxHeartbeats 800000 in
theorem w64_yes (i d : Nat) (w : World) (h : i < 128) (hT : BT w) (hd : d < 64) (hn : bw i = (d : Int)) : Calls Tryd.prog 46 #[.int .i32 (i : Nat)] w fun e w' => e = .returned (.tuple #[.int .u8 (d : Nat), .bool true]) ∧ w = w' := by
  have hq : decide ((128 : Int) ≤ (i : Int)) = false := decide_eq_false (by omega)
  have hc := hT i h
  rw [hn] at hc
  have e1 : IntKind.u8.wrap (d : Int) = (d : Int) := wrap_u8_in d (by omega)
  have hm : ((d : Int) == -1) = false := by simp
  clear hT hn
  go_enter Tryd.func46, Tryd.ntmps46
  go_wp2
  go_ret2
  exact ⟨rfl, rfl⟩
end Go.Proofs.YtpipjkpjpkgmpaaDoor
