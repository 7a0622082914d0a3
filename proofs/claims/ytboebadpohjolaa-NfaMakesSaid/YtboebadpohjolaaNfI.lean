import Derived.Test.YtboebadpohjolaaNfD
namespace Go.Proofs.Ytboebadpohjolaa
open Go.RowKit

variable {B : Nat}

/-! The layout made; Make. -/
def waysL : List Value := [wayF 37, wayF 38, wayF 39, wayF 40, wayF 41, wayF 42, wayF 43]
@[reducible] def waysV : Value := .agg #[wayF 37, wayF 38, wayF 39, wayF 40, wayF 41, wayF 42, wayF 43]
theorem infoWays : (Try.prog.info? 53).map (·.size) = some 7 := by kernel_rfl
set_option maxHeartbeats 1000000 in
set_option maxRecDepth 100000 in
theorem n_ways (w : World) : Calls Try.prog 32 #[] w fun e w' => e = .returned waysV ∧ Below w.heap.size w w' := by
  have HC : Hid (CB (w.alloc (.cells waysL.toArray 53)) 53 w.heap.size waysL) := CB.new w _ _
  go_enter Try.func32, Try.ntmps32
  go_wp2
  refine bodyPost_ret (ret_row rfl rfl HC.out _ Try.underlying53 rfl infoWays) rfl ⟨rfl, ?_⟩
  exact (Below.refl _ _).alloc (Nat.le_refl _) _
/-- A new row of states, empty yet. -/
theorem make_states (n : Nat) (hn : n ≤ 4096) : ∃ cs : Array Value, (∀ W : World, (Instr.makeSlice 33 (.int .i64 0) (.int .i64 (n : Int))).run Try.prog W = .ok (.slice (some ⟨W.heap.size, 0, none⟩) 0 n) (W.alloc (.cells cs 45))) ∧
    ∀ (W : World) (B : Nat), B ≤ W.heap.size → (W.alloc (.cells cs 45)).ownsRow B 45 7 (.slice (some ⟨W.heap.size, 0, none⟩) 0 n) 0 [] := by
  obtain ⟨i, hi, hz, hsz, hb⟩ := info_parts infoSt3
  refine ⟨madeCells (stVal 0 .zero 0 0).cells (n * i.size), fun W => ?_, fun W B hB => ?_⟩
  · have hr := run_make (P := Try.prog) W 33 45 i (stVal 0 .zero 0 0) Try.underlying33 hi hz .i64 .i64 0 n (Int.le_refl _) (by omega) (by rw [hb]; omega) (by omega)
    simp only [Int.toNat_zero, Int.toNat_natCast] at hr
    exact hr
  · rw [hsz]
    exact World.ownsRow_made W (madeCells (stVal 0 .zero 0 0).cells (n * 7)) n hB (by simp only [maxLen]; omega) (size_madeCells _ _)
theorem LC.made {W : World} {g n : Nat} (hown : W.ownsRow B 45 7 (.slice (some ⟨g, 0, none⟩) 0 n) 0 []) (hB : B ≤ W.heap.size) :
    LC B (W.alloc (.cells #[.slice (some ⟨g, 0, none⟩) 0 n, wayF 37, wayF 38, wayF 39, wayF 40, wayF 41, wayF 42, wayF 43] 55)) W.heap.size [] (.slice (some ⟨g, 0, none⟩) 0 n) :=
  ⟨CB.new W _ _, (Chg.of_below ((Below.refl W.heap.size W).alloc (Nat.le_refl _) _)).ownsS hown fun k hk => (by have := World.ownsRow.lt hown k hk; omega), fun e => (by have := World.ownsRow.lt hown _ e; omega), hB⟩
set_option maxHeartbeats 2000000 in
set_option maxRecDepth 100000 in
theorem n_newLayout (n : Nat) (w : World) (hn : n ≤ 4096) : Calls Try.prog 19 #[.int .i64 (n : Nat)] w fun e w' => Below w.heap.size w w' ∧ ∃ lb v, e = .returned (.pointer (some ⟨lb, 0, none⟩)) ∧ LC w.heap.size w' lb [] v := by
  obtain ⟨cs, hmk, hown⟩ := make_states n hn
  have HO := Lib.hid hown
  clear hown
  go_enter Try.func19, Try.ntmps19
  go_wp2
  go_region_with (go_at_call 32; refine (n_ways _).mono ?_; rintro e w2 ⟨rfl, hb2⟩; have HB2 := Lib.hid hb2; clear hb2)
  all_goals
    go_wp2
    go_ret
  · exact ⟨(((Below.refl _ _).alloc (Nat.le_refl _) _).drew.trans (HB2.out.mono (by show _ ≤ Array.size (Array.push _ _); simp))).alloc (Nat.le_trans (Nat.le_succ _) (by have := HB2.out.size; simp at this; omega)) _, _, _, rfl, LC.made ((Chg.of_below HB2.out).ownsS (HO.out w w.heap.size (Nat.le_refl _)) fun k hk => (by have := World.ownsRow.lt (HO.out w w.heap.size (Nat.le_refl _)) k hk; exact Nat.not_le.2 this.2)) (by have := HB2.out.size; simp at this; omega)⟩
  · exact ⟨((((Below.refl _ _).drew.trans HB2.out).alloc HB2.out.size _)).alloc (by have := HB2.out.size; simp at this ⊢; omega) _, _, _, rfl, by have h9 := LC.made (HO.out w2 w.heap.size HB2.out.size) (by have := HB2.out.size; simp at this ⊢; omega); simp only [World.size_alloc] at h9; exact h9⟩
end Go.Proofs.Ytboebadpohjolaa
