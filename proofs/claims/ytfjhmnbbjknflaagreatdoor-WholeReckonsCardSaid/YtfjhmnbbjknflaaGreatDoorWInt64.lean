import Derived.Test.YtfjhmnbbjknflaaGreatDoorWb
import Derived.Test.YtfjhmnbbjknflaaGreatDoorRInt64
import Derived.Test.YtfjhmnbbjknflaaGreatDoorWSt
namespace Go.Proofs.YtfjhmnbbjknflaaGreatDoor
open Go.RowKit

set_option maxHeartbeats 1000000 in
set_option maxRecDepth 100000 in
theorem int64_zero (n : Bool) (a : Option Addr) (la ca : Nat) (xs : List Nat) (w : World) (hla : xs.length = la) (hba : la ≤ 1048576) (hca : la ≤ ca) (hra : Rd .u64 w a xs) (bx : Bd xs) (ht : Tabs w) (h0 : wv n xs = 0) :
    Calls Tryz.prog 22 #[.agg #[.bool n, .slice a la ca]] w fun e w' => e = .returned (.tuple #[.int .i64 0, .bool true]) ∧ Below w.heap.size w w' := by
  have HA := Lib.hid (fun (W : World) (h : Below w.heap.size w W) => hra.below h)
  have HT := Lib.hid (fun (W : World) (h : Below w.heap.size w W) => ht.below h)
  have HBX := Lib.hid bx
  have HS0 : Hid (Box1 n a la ca w ((w.alloc (WO n a la ca)).drew)) := ⟨(box1_0 n _ la ca w).1, (box1_0 n _ la ca w).2.1, (box1_0 n _ la ca w).2.2.drew⟩
  have HKB : Hid (∀ W W', Box1 n a la ca w W → Below W.heap.size W W' → Box1 n a la ca w W') := fun W W' h hb => h.below hb
  have HKW : Hid (∀ W, Box1 n a la ca w W → Below w.heap.size w W) := fun W h => h.2.2
  have HZ := Lib.hid h0
  clear hra bx ht h0
  go_enter Tryz.func22, Tryz.ntmps22
  go_wp2_with fail
  go_region_held3 (fun W => W.cell? ⟨w.heap.size, 0, none⟩ = some (.bool n) ∧ W.cell? ⟨w.heap.size, 1, none⟩ = some (.slice a la ca) ∧ Below w.heap.size w W)
    (first | exact HS0.out | exact HKB.out _ _ (by assumption) hb3)
    (first
    | (go_at_call 37; (with_reducible refine (int_any (-9223372036854775808) _ (by decide) (by decide)).mono ?_); rintro e w3 ⟨hb3, ai, ci, zi, rfl, hoi, hNi⟩
       have hzi := Lib.hid (wv_int hNi)
       have HOI := Lib.hid hoi
       have HNI := Lib.hid hNi
       have hli : zi.length ≤ 1048576 := by have := (hNi.len_le (k := 1)).2 (by decide); omega
       have hqi : Hid (∀ r, r = sg (wv n xs - wv (decide ((-9223372036854775808 : Int) < 0)) zi) → decide (r < 0) = false) := by
         intro r hr
         rw [hzi.out] at hr
         rw [decide_eq_false_iff_not, hr]
         have := HZ.out
         unfold sg; (repeat' split) <;> omega
       generalize decide ((-9223372036854775808 : Int) < 0) = bi at *
       clear hoi hNi)
    | (go_at_call 37; (with_reducible refine (int_any (9223372036854775807) _ (by decide) (by decide)).mono ?_); rintro e w3 ⟨hb3, ai, ci, zi, rfl, hoi, hNi⟩
       have hzi := Lib.hid (wv_int hNi)
       have HOI := Lib.hid hoi
       have HNI := Lib.hid hNi
       have hli : zi.length ≤ 1048576 := by have := (hNi.len_le (k := 1)).2 (by decide); omega
       have hqi : Hid (∀ r, r = sg (wv n xs - wv (decide ((9223372036854775807 : Int) < 0)) zi) → decide (0 < r) = false) := by
         intro r hr
         rw [hzi.out] at hr
         rw [decide_eq_false_iff_not, hr]
         have := HZ.out
         unfold sg; (repeat' split) <;> omega
       generalize decide ((9223372036854775807 : Int) < 0) = bi at *
       clear hoi hNi)
    | (go_at_call 31; (refine (wcmp_any n bi a ai la ca zi.length ci xs zi _ hla rfl hba hli hca (own64.room HOI.out).1 (HA.out _ (HKW.out _ (by assumption))) (own64.rd HOI.out).2 HBX.out HNI.out.bd (HT.out _ (HKW.out _ (by assumption)))).mono ?_); rintro e w4 ⟨rfl, hb3⟩
       obtain ⟨r, hr⟩ : ∃ r, r = sg (wv n xs - wv bi zi) := ⟨_, rfl⟩
       rw [← hr]
       have hqr := hqi.out r hr
       have HRR := Lib.hid hr
       clear hr))
  have HX := Lib.hid (show Box1 n a la ca w w4 from by assumption)
  clear hb3 HOI HNI
  obtain ⟨c0, c1, _⟩ := HX.out
  go_wp2_with fail
  refine (wsign_any n a la ca xs _ hla hba hca (HA.out _ HX.out.2.2) HBX.out).mono ?_
  rintro e w5 ⟨rfl, rfl⟩
  have HX5 := Lib.hid (HX.out.below ((Below.refl _ _).alloc (Nat.le_refl _) (WO n a la ca)))
  rw [show sg (wv n xs) = 0 by rw [HZ.out]; decide]
  clear c0 c1
  go_wp2
  go_ret2
  exact ⟨rfl, HX5.out.2.2⟩
set_option maxHeartbeats 1000000 in
set_option maxRecDepth 100000 in
theorem int64_great (n : Bool) (a : Option Addr) (la ca : Nat) (xs : List Nat) (w : World) (hla : xs.length = la) (hba : la ≤ 1048576) (hca : la ≤ ca) (hra : Rd .u64 w a xs) (bx : Bd xs) (ht : Tabs w) (h0 : 9223372036854775807 < wv n xs) :
    Calls Tryz.prog 22 #[.agg #[.bool n, .slice a la ca]] w fun e w' => e = .returned (.tuple #[.int .i64 0, .bool false]) ∧ Below w.heap.size w w' := by
  have HA := Lib.hid (fun (W : World) (h : Below w.heap.size w W) => hra.below h)
  have HT := Lib.hid (fun (W : World) (h : Below w.heap.size w W) => ht.below h)
  have HBX := Lib.hid bx
  have HS0 : Hid (Box1 n a la ca w ((w.alloc (WO n a la ca)).drew)) := ⟨(box1_0 n _ la ca w).1, (box1_0 n _ la ca w).2.1, (box1_0 n _ la ca w).2.2.drew⟩
  have HKB : Hid (∀ W W', Box1 n a la ca w W → Below W.heap.size W W' → Box1 n a la ca w W') := fun W W' h hb => h.below hb
  have HKW : Hid (∀ W, Box1 n a la ca w W → Below w.heap.size w W) := fun W h => h.2.2
  have HZ := Lib.hid h0
  clear hra bx ht h0
  go_enter Tryz.func22, Tryz.ntmps22
  go_wp2_with fail
  go_region_held3 (fun W => W.cell? ⟨w.heap.size, 0, none⟩ = some (.bool n) ∧ W.cell? ⟨w.heap.size, 1, none⟩ = some (.slice a la ca) ∧ Below w.heap.size w W)
    (first | exact HS0.out | exact HKB.out _ _ (by assumption) hb3)
    (first
    | (go_at_call 37; (with_reducible refine (int_any (-9223372036854775808) _ (by decide) (by decide)).mono ?_); rintro e w3 ⟨hb3, ai, ci, zi, rfl, hoi, hNi⟩
       have hzi := Lib.hid (wv_int hNi)
       have HOI := Lib.hid hoi
       have HNI := Lib.hid hNi
       have hli : zi.length ≤ 1048576 := by have := (hNi.len_le (k := 1)).2 (by decide); omega
       have hqi : Hid (∀ r, r = sg (wv n xs - wv (decide ((-9223372036854775808 : Int) < 0)) zi) → decide (r < 0) = false) := by
         intro r hr
         rw [hzi.out] at hr
         rw [decide_eq_false_iff_not, hr]
         have := HZ.out
         unfold sg; (repeat' split) <;> omega
       generalize decide ((-9223372036854775808 : Int) < 0) = bi at *
       clear hoi hNi)
    | (go_at_call 37; (with_reducible refine (int_any (9223372036854775807) _ (by decide) (by decide)).mono ?_); rintro e w3 ⟨hb3, ai, ci, zi, rfl, hoi, hNi⟩
       have hzi := Lib.hid (wv_int hNi)
       have HOI := Lib.hid hoi
       have HNI := Lib.hid hNi
       have hli : zi.length ≤ 1048576 := by have := (hNi.len_le (k := 1)).2 (by decide); omega
       have hqi : Hid (∀ r, r = sg (wv n xs - wv (decide ((9223372036854775807 : Int) < 0)) zi) → decide (0 < r) = true) := by
         intro r hr
         rw [hzi.out] at hr
         rw [decide_eq_true_iff, hr]
         have := HZ.out
         unfold sg; (repeat' split) <;> omega
       generalize decide ((9223372036854775807 : Int) < 0) = bi at *
       clear hoi hNi)
    | (go_at_call 31; (refine (wcmp_any n bi a ai la ca zi.length ci xs zi _ hla rfl hba hli hca (own64.room HOI.out).1 (HA.out _ (HKW.out _ (by assumption))) (own64.rd HOI.out).2 HBX.out HNI.out.bd (HT.out _ (HKW.out _ (by assumption)))).mono ?_); rintro e w4 ⟨rfl, hb3⟩
       obtain ⟨r, hr⟩ : ∃ r, r = sg (wv n xs - wv bi zi) := ⟨_, rfl⟩
       rw [← hr]
       have hqr := hqi.out r hr
       have HRR := Lib.hid hr
       clear hr))
  have HX := Lib.hid (show Box1 n a la ca w w4 from by assumption)
  clear hb3 HOI HNI
  go_wp2
  go_ret2
  exact ⟨rfl, HX.out.2.2⟩
set_option maxHeartbeats 1000000 in
set_option maxRecDepth 100000 in
theorem int64_small (n : Bool) (a : Option Addr) (la ca : Nat) (xs : List Nat) (w : World) (hla : xs.length = la) (hba : la ≤ 1048576) (hca : la ≤ ca) (hra : Rd .u64 w a xs) (bx : Bd xs) (ht : Tabs w) (h0 : wv n xs < -9223372036854775808) :
    Calls Tryz.prog 22 #[.agg #[.bool n, .slice a la ca]] w fun e w' => e = .returned (.tuple #[.int .i64 0, .bool false]) ∧ Below w.heap.size w w' := by
  have HA := Lib.hid (fun (W : World) (h : Below w.heap.size w W) => hra.below h)
  have HT := Lib.hid (fun (W : World) (h : Below w.heap.size w W) => ht.below h)
  have HBX := Lib.hid bx
  have HS0 : Hid (Box1 n a la ca w ((w.alloc (WO n a la ca)).drew)) := ⟨(box1_0 n _ la ca w).1, (box1_0 n _ la ca w).2.1, (box1_0 n _ la ca w).2.2.drew⟩
  have HKB : Hid (∀ W W', Box1 n a la ca w W → Below W.heap.size W W' → Box1 n a la ca w W') := fun W W' h hb => h.below hb
  have HKW : Hid (∀ W, Box1 n a la ca w W → Below w.heap.size w W) := fun W h => h.2.2
  have HZ := Lib.hid h0
  have HE := HS0
  clear hra bx ht h0
  go_enter Tryz.func22, Tryz.ntmps22
  go_wp2_with fail
  refine wp_region_held_drew (S := fun W => W.cell? ⟨w.heap.size, 0, none⟩ = some (.bool n) ∧ W.cell? ⟨w.heap.size, 1, none⟩ = some (.slice a la ca)) (by kernel_rfl) ⟨HE.out.1, HE.out.2.1⟩ (fun hHeld => ?_)
  refine wpAnyH_take (i := 0) (oi := { dst := some 4, op := Op.load 24 (Operand.tmp 1), type := 24, pos := "whole.go:46", after := #[], guard := none }) (v := ?_) rfl (by kernel_rfl) (by kernel_rfl) (by kernel_rfl) (fun _ _ _ h => h) (Or.inl ⟨by rfl, ?_⟩) (by assumption) ?_
  rotate_left
  · (intro w hSw; (try dsimp only at hSw); go_simp; all_goals (with_reducible rfl))
  (try simp only [Act.put, List.setIfInBounds_toArray, List.set_cons_zero, List.set_cons_succ])
  refine wpAnyH_ready (rs := [1]) (by kernel_rfl) (by simp) ?_
  refine AllReadyH.cons (o := { dst := some 5, op := Op.call { callee := Callee.value (Operand.func 37), args := #[Operand.const (Value.int IntKind.i64 (-9223372036854775808))], argTypes := #[2] }, type := 24, pos := "whole.go:46", after := #[], guard := none }) rfl (fun K hK => ?_) AllReadyH.nil
  go_simp
  refine (int_any (-9223372036854775808) _ (by decide) (by decide)).mono ?_
  rintro e w3 ⟨hb3, ai, ci, zi, rfl, hoi, hNi⟩
  have HE := Lib.hid (HE.out.below hb3)
  have hzi := Lib.hid (wv_int hNi)
  have HOI := Lib.hid hoi
  have HNI := Lib.hid hNi
  have hli : zi.length ≤ 1048576 := by have := (hNi.len_le (k := 1)).2 (by decide); omega
  have hqi : Hid (∀ r, r = sg (wv n xs - wv (decide ((-9223372036854775808 : Int) < 0)) zi) → decide (r < 0) = true) := by
    intro r hr
    rw [hzi.out] at hr
    rw [decide_eq_true_iff, hr]
    have := HZ.out
    unfold sg; (repeat' split) <;> omega
  generalize decide ((-9223372036854775808 : Int) < 0) = bi at *
  clear hoi hNi hb3
  go_simp
  refine hK.out _ _ (⟨HE.out.1, HE.out.2.1⟩) (fun hHeld => ?_)
  clear hK K
  (try simp only [Act.put, List.setIfInBounds_toArray, List.set_cons_zero, List.set_cons_succ])
  refine wpAnyH_ready (rs := [2]) (by kernel_rfl) (by simp) ?_
  refine AllReadyH.cons (o := { dst := some 6, op := Op.call { callee := Callee.value (Operand.func 31), args := #[Operand.tmp 4, Operand.tmp 5], argTypes := #[24, 24] }, type := 3, pos := "whole.go:46", after := #[{ on := 0, ground := Ground.data }, { on := 1, ground := Ground.data }, { on := 1, ground := Ground.chain }], guard := none }) rfl (fun K hK => ?_) AllReadyH.nil
  go_simp
  refine (wcmp_any n bi a ai la ca zi.length ci xs zi _ hla rfl hba hli hca (own64.room HOI.out).1 (HA.out _ HE.out.2.2) (own64.rd HOI.out).2 HBX.out HNI.out.bd (HT.out _ HE.out.2.2)).mono ?_
  rintro e w4 ⟨rfl, hb3⟩
  have HE := Lib.hid (HE.out.below hb3)
  obtain ⟨r, hr⟩ : ∃ r, r = sg (wv n xs - wv bi zi) := ⟨_, rfl⟩
  rw [← hr]
  have hqr := hqi.out r hr
  have HRR := Lib.hid hr
  clear hr hb3
  go_simp
  refine hK.out _ _ (⟨HE.out.1, HE.out.2.1⟩) (fun hHeld => ?_)
  clear hK K
  (try simp only [Act.put, List.setIfInBounds_toArray, List.set_cons_zero, List.set_cons_succ])
  refine wpAnyH_take (i := 3) (oi := { dst := some 7, op := Op.binOp BinOp.lss 3 (Operand.tmp 6) (Operand.const (Value.int IntKind.i64 0)) 3, type := 4, pos := "whole.go:46", after := #[{ on := 2, ground := Ground.data }], guard := none }) (v := ?_) rfl (by kernel_rfl) (by kernel_rfl) (by kernel_rfl) (fun _ _ _ h => h) (Or.inl ⟨by rfl, ?_⟩) (by assumption) ?_
  rotate_left
  · (intro w hSw; (try dsimp only at hSw); go_simp; all_goals (with_reducible rfl))
  (try simp only [Act.put, List.setIfInBounds_toArray, List.set_cons_zero, List.set_cons_succ])
  refine wpAnyH_take (i := 4) (oi := { dst := some 8, op := Op.move (Operand.tmp 7), type := 4, pos := "whole.go:46", after := #[{ on := 3, ground := Ground.data }, { on := 2, ground := Ground.chain }], guard := none }) (v := ?_) rfl (by kernel_rfl) (by kernel_rfl) (by kernel_rfl) (fun _ _ _ h => h) (Or.inl ⟨by rfl, ?_⟩) (by assumption) ?_
  rotate_left
  · (intro w hSw; (try dsimp only at hSw); go_simp; all_goals (with_reducible rfl))
  (try simp only [Act.put, List.setIfInBounds_toArray, List.set_cons_zero, List.set_cons_succ])
  refine wpAnyH_take (i := 5) (oi := { dst := some 9, op := Op.load 24 (Operand.tmp 1), type := 24, pos := "whole.go:46", after := #[{ on := 4, ground := Ground.guard }], guard := some (4, false) }) (v := undef) rfl (by kernel_rfl) (by kernel_rfl) (by kernel_rfl) (fun _ _ _ h => h) (Or.inr ⟨by rfl, rfl⟩) (by assumption) ?_
  (try simp only [Act.put, List.setIfInBounds_toArray, List.set_cons_zero, List.set_cons_succ])
  refine wpAnyH_take (i := 6) (oi := { dst := some 10, op := Op.call { callee := Callee.value (Operand.func 37), args := #[Operand.const (Value.int IntKind.i64 9223372036854775807)], argTypes := #[2] }, type := 24, pos := "whole.go:46", after := #[{ on := 4, ground := Ground.chain }, { on := 4, ground := Ground.guard }], guard := some (4, false) }) (v := undef) rfl (by kernel_rfl) (by kernel_rfl) (by kernel_rfl) (fun _ _ _ h => h) (Or.inr ⟨by rfl, rfl⟩) (by assumption) ?_
  (try simp only [Act.put, List.setIfInBounds_toArray, List.set_cons_zero, List.set_cons_succ])
  refine wpAnyH_take (i := 7) (oi := { dst := some 11, op := Op.call { callee := Callee.value (Operand.func 31), args := #[Operand.tmp 9, Operand.tmp 10], argTypes := #[24, 24] }, type := 3, pos := "whole.go:46", after := #[{ on := 5, ground := Ground.data }, { on := 6, ground := Ground.data }, { on := 6, ground := Ground.chain }, { on := 4, ground := Ground.guard }], guard := some (4, false) }) (v := undef) rfl (by kernel_rfl) (by kernel_rfl) (by kernel_rfl) (fun _ _ _ h => h) (Or.inr ⟨by rfl, rfl⟩) (by assumption) ?_
  (try simp only [Act.put, List.setIfInBounds_toArray, List.set_cons_zero, List.set_cons_succ])
  refine wpAnyH_take (i := 8) (oi := { dst := some 12, op := Op.binOp BinOp.gtr 3 (Operand.tmp 11) (Operand.const (Value.int IntKind.i64 0)) 3, type := 4, pos := "whole.go:46", after := #[{ on := 7, ground := Ground.data }, { on := 4, ground := Ground.guard }], guard := some (4, false) }) (v := undef) rfl (by kernel_rfl) (by kernel_rfl) (by kernel_rfl) (fun _ _ _ h => h) (Or.inr ⟨by rfl, rfl⟩) (by assumption) ?_
  (try simp only [Act.put, List.setIfInBounds_toArray, List.set_cons_zero, List.set_cons_succ])
  refine wpAnyH_take (i := 9) (oi := { dst := some 13, op := Op.pick (Operand.tmp 8) (Operand.const (Value.bool true)) (Operand.tmp 12), type := 4, pos := "whole.go:46", after := #[{ on := 4, ground := Ground.data }, { on := 8, ground := Ground.data }], guard := none }) (v := ?_) rfl (by kernel_rfl) (by kernel_rfl) (by kernel_rfl) (fun _ _ _ h => h) (Or.inl ⟨by rfl, ?_⟩) (by assumption) ?_
  rotate_left
  · (intro w hSw; (try dsimp only at hSw); go_simp; all_goals (with_reducible rfl))
  (try simp only [Act.put, List.setIfInBounds_toArray, List.set_cons_zero, List.set_cons_succ])
  refine wpAnyH_done (by kernel_rfl) ?_ _
  go_wp2
  go_ret2
  exact ⟨rfl, HE.out.2.2⟩
theorem wint64_any (n : Bool) (a : Option Addr) (la ca : Nat) (xs : List Nat) (w : World) (hla : xs.length = la) (hba : la ≤ 1048576) (hca : la ≤ ca) (hra : Rd .u64 w a xs) (bx : Bd xs) (ht : Tabs w) :
    Calls Tryz.prog 22 #[.agg #[.bool n, .slice a la ca]] w fun e w' => e = .returned (.tuple #[.int .i64 (if Is64 (wv n xs) then wv n xs else 0), .bool (decide (Is64 (wv n xs)))]) ∧ Below w.heap.size w w' := by
  by_cases h : Is64 (wv n xs)
  · rw [if_pos h, decide_eq_true h]
    by_cases h0 : wv n xs = 0
    · rw [h0]
      exact int64_zero n a la ca xs w hla hba hca hra bx ht h0
    · exact int64_some n a la ca xs w hla hba hca hra bx ht h0 h.1 h.2
  · rw [if_neg h, decide_eq_false h]
    by_cases h1 : wv n xs < -9223372036854775808
    · exact int64_small n a la ca xs w hla hba hca hra bx ht h1
    · exact int64_great n a la ca xs w hla hba hca hra bx ht (by unfold Is64 at h; omega)
end Go.Proofs.YtfjhmnbbjknflaaGreatDoor
