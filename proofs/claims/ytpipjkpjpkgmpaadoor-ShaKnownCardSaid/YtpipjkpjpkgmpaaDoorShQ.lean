import Derived.Test.YtpipjkpjpkgmpaaDoorShO
import Derived.Test.YtpipjkpjpkgmpaaDoorShP
namespace Go.Proofs.YtpipjkpjpkgmpaaDoor
open Go.RowKit

def wantL : List Int := [169, 153, 62, 54, 71, 6, 129, 106, 186, 62, 37, 113, 120, 80, 194, 108, 156, 208, 216, 157]
theorem abc_sum : bytes20 (sha5 [97, 98, 99]) = wantL := by decide +kernel
theorem a_sum : ¬ bytes20 (sha5 [97]) = wantL := by decide +kernel
theorem builtW : Tryd.prog.built 28 [(0, .int .u8 169), (1, .int .u8 153), (2, .int .u8 62), (3, .int .u8 54), (4, .int .u8 71), (5, .int .u8 6), (6, .int .u8 129), (7, .int .u8 106), (8, .int .u8 186), (9, .int .u8 62), (10, .int .u8 37), (11, .int .u8 113), (12, .int .u8 120), (13, .int .u8 80), (14, .int .u8 194), (15, .int .u8 108), (16, .int .u8 156), (17, .int .u8 208), (18, .int .u8 216), (19, .int .u8 157)] = some (i8s wantL).toArray := by kernel_rfl
theorem Five.chg {w w' : World} {S : Nat → Prop} (h : Five w) (hc : Chg S w w') (hn : ¬ S 0) : Five w' := fun i hi => hc.cell (h i hi) hn
theorem Five.lt {w : World} (h : Five w) : (0 : Nat) < w.heap.size := World.block_lt_of_cell? w _ (h 0 (by decide))
theorem rd_cb {w : World} {t : TypeId} {g : Nat} {xs : List Nat} (h : CB w t g (u8s xs)) : Rd .u8 w (some ⟨g, 0, none⟩) xs := fun _ _ => ⟨g, 0, rfl, fun i hi => by
  rw [h.cell, Nat.zero_add, u8s, List.getElem?_map, List.getElem?_eq_getElem hi, List.getD_eq_getElem?_getD, List.getElem?_eq_getElem hi]; rfl⟩
theorem range_below {w w' : World} {g o : Nat} {cs : List Value} (h : w.rangeAt g o cs) (hb : Below w.heap.size w w') : w'.rangeAt g o cs := fun j v hv => below_cell hb _ _ (h j v hv)
theorem CB.range0 {w : World} {t : TypeId} {g : Nat} {cs : List Value} (h : CB w t g cs) : w.rangeAt g 0 cs := by have := h.range 0 cs.length; simpa using this

set_option maxHeartbeats 1500000 in
set_option maxRecDepth 100000 in
theorem works5_any (w : World) (hF : Five w) : Calls Tryd.prog 14 #[] w fun e w' => e = .returned (.bool true) ∧ Below w.heap.size w w' := by
  have hz := (zero_of_info info20).1
  obtain ⟨WL, hWL⟩ : ∃ WL, WL = i8s wantL := ⟨_, rfl⟩
  obtain ⟨X1, hX1⟩ : ∃ X1, X1 = shaC [97] := ⟨_, rfl⟩
  have HABC : Hid (shaC [97, 98, 99] = WL) := by show _ = _; rw [hWL, ← abc_sum]; rfl
  have E1 : ∀ W, (binOp .eql 28 (.agg WL.toArray) (.agg WL.toArray)).run Tryd.prog W = .ok (.bool true) W := fun W => by rw [hWL, eql20 _ _ rfl rfl]; simp
  have E2 : ∀ W, (binOp .neq 28 (.agg X1.toArray) (.agg WL.toArray)).run Tryd.prog W = .ok (.bool true) W := fun W => by
    rw [hWL, hX1]; exact (neq20 (bytes20 (sha5 [97])) wantL (by simp [bytes20]) rfl W).trans (by rw [decide_eq_false a_sum]; rfl)
  have HWL : Hid (WL.length = 20) := by show _ = _; rw [hWL]; rfl
  have HX1 : Hid (X1.length = 20) := by show _ = _; rw [hX1]; exact bcells_len _
  have HX1E := Lib.hid hX1
  have HX1o : Hid (∀ v ∈ X1, v.oneCell' = true) := by show ∀ v ∈ X1, _; rw [hX1]; exact bcells_one _
  have HWE := Lib.hid hWL
  clear hX1 hWL
  have HF := Lib.hid hF
  have HF0 := Lib.hid hF
  have hGS : (0 : Nat) < w.heap.size := hF.lt
  clear hF
  go_enter Tryd.func14, Tryd.ntmps14
  go_upto_region 1 with fail
  refine wp_region_lit ?_
  refine wpList_plain rfl fun K1 hK1 => wp_buildc 28 #[(0, .const (.int .u8 169)), (1, .const (.int .u8 153)), (2, .const (.int .u8 62)), (3, .const (.int .u8 54)), (4, .const (.int .u8 71)), (5, .const (.int .u8 6)), (6, .const (.int .u8 129)), (7, .const (.int .u8 106)), (8, .const (.int .u8 186)), (9, .const (.int .u8 62)), (10, .const (.int .u8 37)), (11, .const (.int .u8 113)), (12, .const (.int .u8 120)), (13, .const (.int .u8 80)), (14, .const (.int .u8 194)), (15, .const (.int .u8 108)), (16, .const (.int .u8 156)), (17, .const (.int .u8 208)), (18, .const (.int .u8 216)), (19, .const (.int .u8 157))] rfl (i8s wantL).toArray (by simp only [List.map_toArray, List.map_cons, List.map_nil]; exact builtW) (hK1 _ _ ?_)
  clear hK1 K1
  rw [← HWE.out]
  refine wpList_plain rfl fun K1 hK1 => ?_
  go_simp
  refine hK1 _ _ ?_
  clear hK1 K1
  have HB := Lib.hid ((Below.refl w.heap.size w).alloc (Nat.le_refl _) (.cells (u8s (z8 20)).toArray 28))
  have HF := Lib.hid (HF.out.below ((Below.refl _ _).alloc (Nat.le_refl _) (.cells (u8s (z8 20)).toArray 28)))
  have C0 := CB.new w 28 (u8s (z8 20))
  have hgw : w.heap.size < (w.alloc (.cells (u8s (z8 20)).toArray 28)).heap.size := by simp
  generalize w.alloc (.cells (u8s (z8 20)).toArray 28) = W0 at *
  have HWo : ∀ v ∈ WL, v.oneCell' = true := by rw [HWE.out]; intro v hv; obtain ⟨x, _, rfl⟩ := List.mem_map.1 hv; rfl
  refine wpList_plain rfl fun K1 hK1 => wp_storec 28 (.tmp 1) (.tmp 4) rfl w.heap.size 0 20 rfl WL rfl HWL.out C0 (zero_of_info info20).2 (by simp [u8s, z8]) HWo fun w1 C1 hch hsz => hK1 _ _ ?_
  clear hK1 K1
  rw [splice_all (by rw [HWL.out]; simp [u8s, z8])] at C1
  have HF : Hid (Five w1) := HF.out.chg hch (fun e => by omega)
  have HB := Lib.hid (HB.out.trans (hch.below HB.out.size (fun k hk => by omega)))
  have HW := Lib.hid C1
  have hg1 : w.heap.size < w1.heap.size := C1.lt
  clear hch hsz C0 C1 hgw
  go_upto_region 6 with (first
    | (go_at_call 10; refine (new_any _ HF.out).mono ?_; rintro e w2 ⟨rfl, S2, hb2⟩
       have HW := Lib.hid (HW.out.below hb2)
       have HF := Lib.hid (HF.out.below hb2)
       have HB := Lib.hid (HB.out.trans (hb2.mono HB.out.size))
       have hg2 : w1.heap.size < w2.heap.size := S2.lt
       have HR2 := Lib.hid (rd_cb (CB.new w2 5 (u8s [97])))
       have S2 := S2.below ((Below.refl _ _).alloc (Nat.le_refl _) (.cells (u8s [97]).toArray 5))
       have HW := Lib.hid (HW.out.alloc (.cells (u8s [97]).toArray 5))
       have HF := Lib.hid (HF.out.below ((Below.refl _ _).alloc (Nat.le_refl _) (.cells (u8s [97]).toArray 5)))
       have HB := Lib.hid (HB.out.alloc HB.out.size (.cells (u8s [97]).toArray 5))
       clear hb2)
    | (go_at_call 16; refine (write_any w1.heap.size [] (some ⟨w2.heap.size, 0, none⟩) 1 1 [97] _ S2 rfl (by decide) (by decide) (by decide) HR2.out (fun _ p hp => by obtain rfl := Option.some.inj hp; show w2.heap.size ≠ _; omega)).mono ?_; rintro e w3 ⟨rfl, S3, hw3⟩))
  have hlw : w2.heap.size < (w2.alloc (.cells (u8s [97]).toArray 5)).heap.size := by simp
  have HW := Lib.hid (HW.out.chg hw3 (fun h => by rcases h with h | h <;> omega))
  have HF := Lib.hid (HF.out.chg hw3 (fun h => by rcases h with h | h <;> omega))
  have HB := Lib.hid (HB.out.trans (hw3.of_ws (by omega) (by omega)))
  have hsz3 := hw3.size
  have hg3 : w1.heap.size < w3.heap.size := S3.lt
  clear hw3 HR2 S2
  generalize w1.heap.size = g1 at *
  generalize w2.heap.size = g2 at *
  rw [List.nil_append] at S3
  refine wp_region_lit ?_
  refine wpList_plain rfl fun K1 hK1 => ?_
  go_simp
  refine hK1 _ _ ?_
  clear hK1 K1
  refine wpList_plain rfl fun K1 hK1 => ?_
  go_simp
  go_at_call 11
  refine (hsum_any g1 [97] _ S3 (by decide)).mono ?_
  rintro e w4 ⟨rfl, hb4⟩
  go_simp
  refine hK1 _ _ ?_
  clear hK1 K1
  rw [← HX1E.out]
  have S4 := S3.below hb4
  have HW := Lib.hid (HW.out.below hb4)
  have HF := Lib.hid (HF.out.below hb4)
  have HB := Lib.hid (HB.out.trans (hb4.mono HB.out.size))
  have hsz4 : w3.heap.size ≤ w4.heap.size := (Chg.of_below hb4).size
  clear hb4 S3
  refine wpList_plain rfl fun K1 hK1 => ?_
  go_simp
  refine hK1 _ _ ?_
  clear hK1 K1
  have C5 := CB.new w4 28 (u8s (z8 20))
  have S4 := S4.below ((Below.refl _ _).alloc (Nat.le_refl _) (.cells (u8s (z8 20)).toArray 28))
  have HW := Lib.hid (HW.out.alloc (.cells (u8s (z8 20)).toArray 28))
  have HF := Lib.hid (HF.out.below ((Below.refl _ _).alloc (Nat.le_refl _) (.cells (u8s (z8 20)).toArray 28)))
  have HB := Lib.hid (HB.out.alloc HB.out.size (.cells (u8s (z8 20)).toArray 28))
  obtain ⟨g5, hg5⟩ : ∃ g5, g5 = w4.heap.size := ⟨_, rfl⟩
  rw [← hg5] at C5 hsz4
  rw [← hg5]
  generalize w4.alloc (.cells (u8s (z8 20)).toArray 28) = W5 at *
  clear hg5
  refine wpList_plain rfl fun K1 hK1 => wp_storec 28 (.tmp 3) (.tmp 12) rfl g5 0 20 rfl X1 rfl HX1.out C5 (zero_of_info info20).2 (by simp [u8s, z8]) HX1o.out fun w6 C6 hch hsz => hK1 _ _ ?_
  clear hK1 K1
  rw [splice_all (by rw [HX1.out]; simp [u8s, z8])] at C6
  have S6 := S4.chg hch (fun e => by omega)
  have HW := Lib.hid (HW.out.chg hch (fun e => by omega))
  have HF := Lib.hid (HF.out.chg hch (fun e => by omega))
  have HB := Lib.hid (HB.out.trans (hch.below HB.out.size (fun k hk => by omega)))
  have hg6 : g5 < w6.heap.size := C6.lt
  have HX := Lib.hid C6
  clear hch hsz C6 C5 S4
  go_upto_region 7 with fail
  refine wp_region_lit ?_
  refine wpList_plain rfl fun K1 hK1 => ?_
  go_simp
  refine hK1 _ _ ?_
  clear hK1 K1
  refine wpList_plain rfl fun K1 hK1 => ?_
  go_simp
  refine hK1 _ _ ?_
  clear hK1 K1
  have HR7 : Rd .u8 (w6.alloc (.cells #[.int .u8 98, .int .u8 99] 5)) (some ⟨w6.heap.size, 0, none⟩) [98, 99] := rd_cb (CB.new w6 5 (u8s [98, 99]))
  have S7 := S6.below ((Below.refl _ _).alloc (Nat.le_refl _) (.cells #[.int .u8 98, .int .u8 99] 5))
  have HW := Lib.hid (HW.out.alloc (.cells #[.int .u8 98, .int .u8 99] 5))
  have HX := Lib.hid (HX.out.alloc (.cells #[.int .u8 98, .int .u8 99] 5))
  have HF := Lib.hid (HF.out.below ((Below.refl _ _).alloc (Nat.le_refl _) (.cells #[.int .u8 98, .int .u8 99] 5)))
  have HB := Lib.hid (HB.out.alloc HB.out.size (.cells #[.int .u8 98, .int .u8 99] 5))
  have hlw7 : w6.heap.size < (w6.alloc (.cells #[.int .u8 98, .int .u8 99] 5)).heap.size := by simp
  obtain ⟨g6, hg6'⟩ : ∃ g6, g6 = w6.heap.size := ⟨_, rfl⟩
  rw [← hg6'] at HR7 hlw7
  rw [← hg6']
  rw [← hg6'] at hg6
  clear hg6'
  generalize w6.alloc (.cells #[.int .u8 98, .int .u8 99] 5) = W7 at *
  refine wpList_plain rfl fun K1 hK1 => ?_
  go_simp
  go_at_call 16
  refine (write_any g1 [97] (some ⟨g6, 0, none⟩) 2 2 [98, 99] _ S7 rfl (by decide) (by decide) (by decide) HR7 (fun _ p hp => by obtain rfl := Option.some.inj hp; show g6 ≠ _; omega)).mono ?_
  rintro e w7 ⟨rfl, S8, hw7⟩
  go_simp
  refine hK1 _ _ ?_
  clear hK1 K1
  have HW := Lib.hid (HW.out.chg hw7 (fun h => by rcases h with h | h <;> omega))
  have HX := Lib.hid (HX.out.chg hw7 (fun h => by rcases h with h | h <;> omega))
  have HF := Lib.hid (HF.out.chg hw7 (fun h => by rcases h with h | h <;> omega))
  have HB := Lib.hid (HB.out.trans (hw7.of_ws (by omega) (by omega)))
  have S8 : HSt w7 g1 [97, 98, 99] := by have h := S8; rwa [show ([97] ++ [98, 99] : List Nat) = [97, 98, 99] from rfl] at h
  have hg7 : g6 < w7.heap.size := Nat.lt_of_lt_of_le hlw7 hw7.size
  clear hw7 HR7 S7 S6 hlw7
  go_upto_region 8 with fail
  have HSS : Hid (w7.rangeAt w.heap.size 0 WL ∧ w7.rangeAt g5 0 X1) := ⟨HW.out.range0, HX.out.range0⟩
  refine wp_region_tail (fun W => W.rangeAt w.heap.size 0 WL ∧ W.rangeAt g5 0 X1) 25 (by kernel_rfl) ?_
  refine wpAnyT_take (i := 2) (v := .agg WL.toArray) rfl (by kernel_rfl) (by kernel_rfl) (by kernel_rfl) (by kernel_rfl) rfl (by kernel_rfl) (fun _ _ _ h => h) (yieldsIf_load_mid (by rfl) 28 (.tmp 1) rfl w.heap.size 0 (by go_simp) WL _ (fun W h => h.1) Tryd.underlying28 rfl (by rw [(zero_of_info info20).2, HWL.out])) HSS.out ?_
  refine wpAnyT_op (i := 0) (by kernel_rfl) rfl (by rfl) (fun K hK => ?_)
  go_simp
  have H3 : Hid (CB ((w7.alloc (.cells #[.int .u8 97, .int .u8 98, .int .u8 99] 5)).drew) 5 w7.heap.size (u8s [97, 98, 99])) := CB.new w7 5 (u8s [97, 98, 99])
  have b8 : Below w7.heap.size w7 ((w7.alloc (.cells #[.int .u8 97, .int .u8 98, .int .u8 99] 5)).drew) := ((Below.refl _ _).alloc (Nat.le_refl _) _).drew
  have S8 := S8.below b8
  have HF := Lib.hid (HF.out.below b8)
  have HSS := Lib.hid (And.intro (range_below HSS.out.1 b8) (range_below HSS.out.2 b8))
  have HB := Lib.hid (HB.out.trans (b8.mono HB.out.size))
  have hg8 : w7.heap.size < ((w7.alloc (.cells #[.int .u8 97, .int .u8 98, .int .u8 99] 5)).drew).heap.size := H3.out.lt
  clear b8
  generalize w7.heap.size = g8 at *
  generalize (w7.alloc (.cells #[.int .u8 97, .int .u8 98, .int .u8 99] 5)).drew = W8 at *
  refine hK _ _ (fun _ => HSS.out) ?_
  clear hK K
  refine wpAnyT_op (i := 1) (by kernel_rfl) rfl (by rfl) (fun K hK => ?_)
  go_simp
  go_at_call 19
  refine (ssum_any (some ⟨g8, 0, none⟩) 3 3 [97, 98, 99] W8 rfl (by decide) (by decide) (by decide) (rd_cb H3.out) HF.out).mono ?_
  rintro e w9 ⟨rfl, hb9⟩
  go_simp
  rw [HABC.out]
  have S8 := S8.below hb9
  have HSS := Lib.hid (And.intro (range_below HSS.out.1 hb9) (range_below HSS.out.2 hb9))
  have HB := Lib.hid (HB.out.trans (hb9.mono HB.out.size))
  refine hK _ _ (fun _ => HSS.out) ?_
  clear hK K hb9 H3 HF hg8
  refine wpAnyT_take (i := 3) (v := ?_) rfl (by kernel_rfl) (by kernel_rfl) (by kernel_rfl) (by kernel_rfl) rfl (by kernel_rfl) (fun _ _ _ h => h) (Or.inl ⟨by rfl, ?_⟩) HSS.out ?_
  case refine_2 => (rintro W ⟨c0, c1⟩; go_simp; try (with_reducible rfl))
  refine wpAnyT_take (i := 4) (v := ?_) rfl (by kernel_rfl) (by kernel_rfl) (by kernel_rfl) (by kernel_rfl) rfl (by kernel_rfl) (fun _ _ _ h => h) (Or.inl ⟨by rfl, ?_⟩) HSS.out ?_
  case refine_2 => (rintro W ⟨c0, c1⟩; go_simp; try (with_reducible rfl))
  refine wpAnyT_take (i := 5) (v := ?_) rfl (by kernel_rfl) (by kernel_rfl) (by kernel_rfl) (by kernel_rfl) rfl (by kernel_rfl) (fun _ _ _ h => h) (Or.inl ⟨by rfl, ?_⟩) HSS.out ?_
  case refine_2 => (rintro W ⟨c0, c1⟩; go_simp; try (with_reducible rfl))
  refine wpAnyT_take (i := 7) (v := .agg WL.toArray) rfl (by kernel_rfl) (by kernel_rfl) (by kernel_rfl) (by kernel_rfl) rfl (by kernel_rfl) (fun _ _ _ h => h) (yieldsIf_load_mid (by rfl) 28 (.tmp 1) rfl w.heap.size 0 (by go_simp) WL _ (fun W h => h.1) Tryd.underlying28 rfl (by rw [(zero_of_info info20).2, HWL.out])) HSS.out ?_
  refine wpAnyT_op (i := 6) (by kernel_rfl) rfl (by rfl) (fun K hK => ?_)
  go_simp
  go_at_call 11
  refine (hsum_any g1 [97, 98, 99] _ S8 (by decide)).mono ?_
  rintro e w10 ⟨rfl, hb10⟩
  go_simp
  rw [HABC.out]
  have S8 := S8.below hb10
  have HSS := Lib.hid (And.intro (range_below HSS.out.1 hb10) (range_below HSS.out.2 hb10))
  have HB := Lib.hid (HB.out.trans (hb10.mono HB.out.size))
  refine hK _ _ (fun _ => HSS.out) ?_
  clear hK K hb10
  refine wpAnyT_take (i := 8) (v := ?_) rfl (by kernel_rfl) (by kernel_rfl) (by kernel_rfl) (by kernel_rfl) rfl (by kernel_rfl) (fun _ _ _ h => h) (Or.inl ⟨by rfl, ?_⟩) HSS.out ?_
  case refine_2 => (rintro W ⟨c0, c1⟩; go_simp; try (with_reducible rfl))
  refine wpAnyT_take (i := 9) (v := ?_) rfl (by kernel_rfl) (by kernel_rfl) (by kernel_rfl) (by kernel_rfl) rfl (by kernel_rfl) (fun _ _ _ h => h) (Or.inl ⟨by rfl, ?_⟩) HSS.out ?_
  case refine_2 => (rintro W ⟨c0, c1⟩; go_simp; try (with_reducible rfl))
  refine wpAnyT_take (i := 10) (v := ?_) rfl (by kernel_rfl) (by kernel_rfl) (by kernel_rfl) (by kernel_rfl) rfl (by kernel_rfl) (fun _ _ _ h => h) (Or.inl ⟨by rfl, ?_⟩) HSS.out ?_
  case refine_2 => (rintro W ⟨c0, c1⟩; go_simp; try (with_reducible rfl))
  go_simp
  refine wpAnyT_take (i := 11) (v := .agg X1.toArray) rfl (by kernel_rfl) (by kernel_rfl) (by kernel_rfl) (by kernel_rfl) rfl (by kernel_rfl) (fun _ _ _ h => h) (yieldsIf_load_mid (by rfl) 28 (.tmp 3) rfl g5 0 (by go_simp) X1 _ (fun W h => h.2) Tryd.underlying28 rfl (by rw [(zero_of_info info20).2, HX1.out])) HSS.out ?_
  refine wpAnyT_take (i := 12) (v := .agg WL.toArray) rfl (by kernel_rfl) (by kernel_rfl) (by kernel_rfl) (by kernel_rfl) rfl (by kernel_rfl) (fun _ _ _ h => h) (yieldsIf_load_mid (by rfl) 28 (.tmp 1) rfl w.heap.size 0 (by go_simp) WL _ (fun W h => h.1) Tryd.underlying28 rfl (by rw [(zero_of_info info20).2, HWL.out])) HSS.out ?_
  go_simp
  refine wpAnyT_take (i := 13) (v := ?_) rfl (by kernel_rfl) (by kernel_rfl) (by kernel_rfl) (by kernel_rfl) rfl (by kernel_rfl) (fun _ _ _ h => h) (Or.inl ⟨by rfl, ?_⟩) HSS.out ?_
  case refine_2 => (rintro W ⟨c0, c1⟩; go_simp; try (with_reducible rfl))
  refine wpAnyT_take (i := 14) (v := ?_) rfl (by kernel_rfl) (by kernel_rfl) (by kernel_rfl) (by kernel_rfl) rfl (by kernel_rfl) (fun _ _ _ h => h) (Or.inl ⟨by rfl, ?_⟩) HSS.out ?_
  case refine_2 => (rintro W ⟨c0, c1⟩; go_simp; try (with_reducible rfl))
  refine wpAnyT_take (i := 15) (v := ?_) rfl (by kernel_rfl) (by kernel_rfl) (by kernel_rfl) (by kernel_rfl) rfl (by kernel_rfl) (fun _ _ _ h => h) (Or.inl ⟨by rfl, ?_⟩) HSS.out ?_
  case refine_2 => (rintro W ⟨c0, c1⟩; go_simp; try (with_reducible rfl))
  go_simp
  refine wpAnyT_take (i := 16) (v := ?_) rfl (by kernel_rfl) (by kernel_rfl) (by kernel_rfl) (by kernel_rfl) rfl (by kernel_rfl) (fun _ _ _ h => h) (Or.inl ⟨by rfl, ?_⟩) HSS.out ?_
  case refine_2 => (rintro W ⟨c0, c1⟩; go_simp; try (with_reducible rfl))
  refine wpAnyT_op (i := 17) (by kernel_rfl) rfl (by rfl) (fun K hK => ?_)
  go_simp
  go_at_call 18
  refine (len_any g1 [97, 98, 99] _ S8).mono ?_
  rintro e w11 ⟨rfl, rfl⟩
  go_simp
  refine hK _ _ (fun _ => HSS.out) ?_
  clear hK K
  refine wpAnyT_take (i := 18) (v := ?_) rfl (by kernel_rfl) (by kernel_rfl) (by kernel_rfl) (by kernel_rfl) rfl (by kernel_rfl) (fun _ _ _ h => h) (Or.inl ⟨by rfl, ?_⟩) HSS.out ?_
  case refine_2 => (rintro W ⟨c0, c1⟩; go_simp; try (with_reducible rfl))
  refine wpAnyT_take (i := 19) (v := ?_) rfl (by kernel_rfl) (by kernel_rfl) (by kernel_rfl) (by kernel_rfl) rfl (by kernel_rfl) (fun _ _ _ h => h) (Or.inl ⟨by rfl, ?_⟩) HSS.out ?_
  case refine_2 => (rintro W ⟨c0, c1⟩; go_simp; try (with_reducible rfl))
  refine wpAnyT_take (i := 20) (v := ?_) rfl (by kernel_rfl) (by kernel_rfl) (by kernel_rfl) (by kernel_rfl) rfl (by kernel_rfl) (fun _ _ _ h => h) (Or.inl ⟨by rfl, ?_⟩) HSS.out ?_
  case refine_2 => (rintro W ⟨c0, c1⟩; go_simp; try (with_reducible rfl))
  refine wpAnyT_op (i := 21) (by kernel_rfl) rfl (by rfl) (fun K hK => ?_)
  go_simp
  go_at_call 37
  refine (spad_any 55 _ (by decide)).mono ?_
  rintro e w12 ⟨g12, c12, rfl, hown12, hb12⟩
  go_simp
  have HSS := Lib.hid (And.intro (range_below HSS.out.1 hb12) (range_below HSS.out.2 hb12))
  have HB := Lib.hid (HB.out.trans (hb12.mono HB.out.size))
  rw [show padN 55 = 0 from rfl]
  refine hK _ _ (fun _ => HSS.out) ?_
  clear hK K hb12 hown12
  refine wpAnyT_take (i := 22) (v := ?_) rfl (by kernel_rfl) (by kernel_rfl) (by kernel_rfl) (by kernel_rfl) rfl (by kernel_rfl) (fun _ _ _ h => h) (Or.inl ⟨by rfl, ?_⟩) HSS.out ?_
  case refine_2 => (rintro W ⟨c0, c1⟩; go_simp; try (with_reducible rfl))
  refine wpAnyT_take (i := 23) (v := ?_) rfl (by kernel_rfl) (by kernel_rfl) (by kernel_rfl) (by kernel_rfl) rfl (by kernel_rfl) (fun _ _ _ h => h) (Or.inl ⟨by rfl, ?_⟩) HSS.out ?_
  case refine_2 => (rintro W ⟨c0, c1⟩; go_simp; try (with_reducible rfl))
  refine wpAnyT_take (i := 24) (v := ?_) rfl (by kernel_rfl) (by kernel_rfl) (by kernel_rfl) (by kernel_rfl) rfl (by kernel_rfl) (fun _ _ _ h => h) (Or.inl ⟨by rfl, ?_⟩) HSS.out ?_
  case refine_2 => (rintro W ⟨c0, c1⟩; go_simp; try (with_reducible rfl))
  refine wpAnyT_last (i := 25) (by kernel_rfl) rfl (by rfl) (by kernel_rfl) (by kernel_rfl) (fun K hK => ?_)
  go_simp
  refine hK _ _ ?_
  clear hK K
  go_wp2
  go_ret
  exact ⟨rfl, HB.out⟩
end Go.Proofs.YtpipjkpjpkgmpaaDoor
