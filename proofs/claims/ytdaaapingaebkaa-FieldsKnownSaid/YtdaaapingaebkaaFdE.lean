import Derived.Test.YtdaaapingaebkaaFdD
namespace Go.Proofs.Ytdaaapingaebkaa
open Go.RowKit

/-! fields: an array of bools that goes as a value. -/
@[reducible] def kL (b1 b2 b3 b4 b5 b6 b7 : Bool) : List Value := [.bool false, .bool b1, .bool b2, .bool b3, .bool b4, .bool b5, .bool b6, .bool b7]
theorem infoKi : (Try.prog.info? 52).map (·.size) = some 8 := by kernel_rfl
theorem eqKi9 (b1 b2 b3 b4 b5 b6 b7 : Bool) (w : World) : (Op.equalIn 10000 52 (.agg #[.bool false, .bool b1, .bool b2, .bool b3, .bool b4, .bool b5, .bool b6, .bool b7]) (.agg #[.bool false, .bool false, .bool false, .bool false, .bool false, .bool false, .bool false, .bool false])).run Try.prog w = .ok (!(b1 || b2 || b3 || b4 || b5 || b6 || b7)) w := by
  have u3 := Try.underlying4
  have a3 := Try.isAgg4
  have z3 := Try.sizeOf4
  rw [show (10000 : Nat) = 9999 + 1 from rfl, Op.equalIn]
  simp only [Sem.run_bind, run_underlying Try.underlying52, Result.andThen_ok]
  simp only [Std.Legacy.Range.forIn_eq_forIn_range', Std.Legacy.Range.size, Nat.sub_zero, Nat.add_sub_cancel, Nat.div_one, List.range'_succ, List.range'_zero, List.forIn_cons, List.forIn_nil]
  go_simp
  cases b1 <;> cases b2 <;> cases b3 <;> cases b4 <;> cases b5 <;> cases b6 <;> cases b7 <;> rfl
set_option maxHeartbeats 4000000 in
set_option maxRecDepth 100000 in
theorem f_with_twice (b1 b2 b3 b4 b5 b6 b7 : Bool) (k : Nat) (w : World) (h1 : 1 ≤ k) (h7 : k ≤ 7) (hb : ([b1, b2, b3, b4, b5, b6, b7])[k - 1]? = some true) :
    Calls Try.prog 41 #[.agg (kL b1 b2 b3 b4 b5 b6 b7).toArray, .int .u8 (k : Nat)] w fun e w' => e = .returned (.tuple #[.agg (kL false false false false false false false).toArray, .int .i64 132]) ∧ Below w.heap.size w w' := by
  have HC : Hid (CB ((w.alloc (.cells (kL b1 b2 b3 b4 b5 b6 b7).toArray 52)).alloc (.cells (kL false false false false false false false).toArray 52)) 52 (w.heap.size + 1) (kL false false false false false false false)) := cb2 w _ _ _
  have HBW : Hid (Below w.heap.size w ((w.alloc (.cells (kL b1 b2 b3 b4 b5 b6 b7).toArray 52)).alloc (.cells (kL false false false false false false false).toArray 52))) := bel_alloc (bel_alloc (Below.refl _ _) _) _
  rcases (show k = 1 ∨ k = 2 ∨ k = 3 ∨ k = 4 ∨ k = 5 ∨ k = 6 ∨ k = 7 by omega) with u | u | u | u | u | u | u
  all_goals
    subst u
    simp only [Nat.sub_self, Nat.reduceSub, List.getElem?_cons_zero, List.getElem?_cons_succ, Option.some.injEq] at hb
    subst hb
    clear h1 h7
    go_enter Try.func41, Try.ntmps41
    go_wp2_with (refine wpl_storeS 52 (.tmp 4) _ rfl rfl (t := 52) (g := w.heap.size + 1) (cur := kL false false false false false false false) (vs := (kL false false false false false false false).toArray) ?_ ?_ ?_ ?_ ?_ ?_ ?_; exact HC.out; rfl; rfl; rfl; exact infoKi; rfl; intro w5 hc5 hch5 hsz5)
    refine bodyPost_ret (results_cbD rfl rfl rfl hc5 Try.underlying52 infoKi) rfl ?_
    exact ⟨rfl, bel_store HBW.out hch5 (by omega)⟩
set_option maxHeartbeats 4000000 in
set_option maxRecDepth 100000 in
theorem f_with_last (b1 b2 b3 b4 b5 b6 : Bool) (k : Nat) (w : World) (h1 : 1 ≤ k) (h7 : k ≤ 6) (hb : ([b1, b2, b3, b4, b5, b6])[k - 1]? = some false) :
    Calls Try.prog 41 #[.agg (kL b1 b2 b3 b4 b5 b6 true).toArray, .int .u8 (k : Nat)] w fun e w' => e = .returned (.tuple #[.agg (kL false false false false false false false).toArray, .int .i64 133]) ∧ Below w.heap.size w w' := by
  have HC : Hid (CB ((w.alloc (.cells (kL b1 b2 b3 b4 b5 b6 true).toArray 52)).alloc (.cells (kL false false false false false false false).toArray 52)) 52 (w.heap.size + 1) (kL false false false false false false false)) := cb2 w _ _ _
  have HBW : Hid (Below w.heap.size w ((w.alloc (.cells (kL b1 b2 b3 b4 b5 b6 true).toArray 52)).alloc (.cells (kL false false false false false false false).toArray 52))) := bel_alloc (bel_alloc (Below.refl _ _) _) _
  rcases (show k = 1 ∨ k = 2 ∨ k = 3 ∨ k = 4 ∨ k = 5 ∨ k = 6 by omega) with u | u | u | u | u | u
  all_goals
    subst u
    simp only [Nat.sub_self, Nat.reduceSub, List.getElem?_cons_zero, List.getElem?_cons_succ, Option.some.injEq] at hb
    subst hb
    clear h1 h7
    go_enter Try.func41, Try.ntmps41
    go_wp2_with (refine wpl_storeS 52 (.tmp 4) _ rfl rfl (t := 52) (g := w.heap.size + 1) (cur := kL false false false false false false false) (vs := (kL false false false false false false false).toArray) ?_ ?_ ?_ ?_ ?_ ?_ ?_; exact HC.out; rfl; rfl; rfl; exact infoKi; rfl; intro w5 hc5 hch5 hsz5)
    refine bodyPost_ret (results_cbD rfl rfl rfl hc5 Try.underlying52 infoKi) rfl ?_
    exact ⟨rfl, bel_store HBW.out hch5 (by omega)⟩
set_option maxHeartbeats 4000000 in
set_option maxRecDepth 100000 in
theorem f_with_first (b1 b2 b3 b4 b5 b6 b7 : Bool) (k : Nat) (w : World) (h1 : b1 = false) (h7 : b7 = false) (hk : k = 1) (hb : (b1 || b2 || b3 || b4 || b5 || b6 || b7) = true) :
    Calls Try.prog 41 #[.agg (kL b1 b2 b3 b4 b5 b6 b7).toArray, .int .u8 (k : Nat)] w fun e w' => e = .returned (.tuple #[.agg (kL false false false false false false false).toArray, .int .i64 133]) ∧ Below w.heap.size w w' := by
  have HC : Hid (CB ((w.alloc (.cells (kL b1 b2 b3 b4 b5 b6 b7).toArray 52)).alloc (.cells (kL false false false false false false false).toArray 52)) 52 (w.heap.size + 1) (kL false false false false false false false)) := cb2 w _ _ _
  have HBW : Hid (Below w.heap.size w ((w.alloc (.cells (kL b1 b2 b3 b4 b5 b6 b7).toArray 52)).alloc (.cells (kL false false false false false false false).toArray 52))) := bel_alloc (bel_alloc (Below.refl _ _) _) _
  have hE : ∀ W, (Op.equalIn 10000 52 (.agg #[.bool false, .bool b1, .bool b2, .bool b3, .bool b4, .bool b5, .bool b6, .bool b7]) (.agg #[.bool false, .bool false, .bool false, .bool false, .bool false, .bool false, .bool false, .bool false])).run Try.prog W = .ok false W := fun W => by rw [eqKi9, hb]; rfl
  subst h1 h7 hk
  clear hb
  all_goals
    go_enter Try.func41, Try.ntmps41
    go_wp2_with (refine wpl_storeS 52 (.tmp 4) _ rfl rfl (t := 52) (g := w.heap.size + 1) (cur := kL false false false false false false false) (vs := (kL false false false false false false false).toArray) ?_ ?_ ?_ ?_ ?_ ?_ ?_; exact HC.out; rfl; rfl; rfl; exact infoKi; rfl; intro w5 hc5 hch5 hsz5)
    refine bodyPost_ret (results_cbD rfl rfl rfl hc5 Try.underlying52 infoKi) rfl ?_
    exact ⟨rfl, bel_store HBW.out hch5 (by omega)⟩
set_option maxHeartbeats 4000000 in
set_option maxRecDepth 100000 in
theorem f_with_ok (b1 b2 b3 b4 b5 b6 b7 : Bool) (k : Nat) (w : World) (h1 : 1 ≤ k) (h7 : k ≤ 7) (h77 : b7 = false) (hb : ([b1, b2, b3, b4, b5, b6, b7])[k - 1]? = some false) (hf : k = 1 → (b1 || b2 || b3 || b4 || b5 || b6 || b7) = false) :
    Calls Try.prog 41 #[.agg (kL b1 b2 b3 b4 b5 b6 b7).toArray, .int .u8 (k : Nat)] w fun e w' => e = .returned (.tuple #[.agg (kL (b1 || decide (k = 1)) (b2 || decide (k = 2)) (b3 || decide (k = 3)) (b4 || decide (k = 4)) (b5 || decide (k = 5)) (b6 || decide (k = 6)) (b7 || decide (k = 7))).toArray, .int .i64 0]) ∧ Below w.heap.size w w' := by
  subst h77
  rcases (show k = 1 ∨ (k = 2 ∨ k = 3 ∨ k = 4 ∨ k = 5 ∨ k = 6 ∨ k = 7) by omega) with u | u
  · have hall := hf u
    simp only [Bool.or_eq_false_iff] at hall
    obtain ⟨⟨⟨⟨⟨⟨g1, g2⟩, g3⟩, g4⟩, g5⟩, g6⟩, -⟩ := hall
    subst g1 g2 g3 g4 g5 g6 u
    have hE : ∀ W, (Op.equalIn 10000 52 (.agg #[.bool false, .bool false, .bool false, .bool false, .bool false, .bool false, .bool false, .bool false]) (.agg #[.bool false, .bool false, .bool false, .bool false, .bool false, .bool false, .bool false, .bool false])).run Try.prog W = .ok true W := fun W => eqKi9 false false false false false false false W
    clear h1 h7 hb hf
    go_enter Try.func41, Try.ntmps41
    go_wp2
    refine bodyPost_ret (results_cbD rfl rfl rfl (cb2 w _ 52 (kL true false false false false false false)) Try.underlying52 infoKi) rfl ?_
    exact ⟨rfl, bel_alloc (bel_alloc (Below.refl _ _) _) _⟩
  · rcases u with u | u | u | u | u | u
    all_goals
      subst u
      simp only [Nat.reduceSub, List.getElem?_cons_zero, List.getElem?_cons_succ, Option.some.injEq] at hb
      try subst hb
      clear h1 h7 hf
      go_enter Try.func41, Try.ntmps41
      go_wp2
    · refine bodyPost_ret (results_cbD rfl rfl rfl (cb2 w _ 52 (kL b1 true b3 b4 b5 b6 false)) Try.underlying52 infoKi) rfl ?_
      refine ⟨?_, bel_alloc (bel_alloc (Below.refl _ _) _) _⟩
      simp
    · refine bodyPost_ret (results_cbD rfl rfl rfl (cb2 w _ 52 (kL b1 b2 true b4 b5 b6 false)) Try.underlying52 infoKi) rfl ?_
      refine ⟨?_, bel_alloc (bel_alloc (Below.refl _ _) _) _⟩
      simp
    · refine bodyPost_ret (results_cbD rfl rfl rfl (cb2 w _ 52 (kL b1 b2 b3 true b5 b6 false)) Try.underlying52 infoKi) rfl ?_
      refine ⟨?_, bel_alloc (bel_alloc (Below.refl _ _) _) _⟩
      simp
    · refine bodyPost_ret (results_cbD rfl rfl rfl (cb2 w _ 52 (kL b1 b2 b3 b4 true b6 false)) Try.underlying52 infoKi) rfl ?_
      refine ⟨?_, bel_alloc (bel_alloc (Below.refl _ _) _) _⟩
      simp
    · refine bodyPost_ret (results_cbD rfl rfl rfl (cb2 w _ 52 (kL b1 b2 b3 b4 b5 true false)) Try.underlying52 infoKi) rfl ?_
      refine ⟨?_, bel_alloc (bel_alloc (Below.refl _ _) _) _⟩
      simp
    · refine bodyPost_ret (results_cbD rfl rfl rfl (cb2 w _ 52 (kL b1 b2 b3 b4 b5 b6 true)) Try.underlying52 infoKi) rfl ?_
      refine ⟨?_, bel_alloc (bel_alloc (Below.refl _ _) _) _⟩
      simp
end Go.Proofs.Ytdaaapingaebkaa
