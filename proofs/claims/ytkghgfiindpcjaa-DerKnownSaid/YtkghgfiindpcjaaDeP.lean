import Derived.Test.YtkghgfiindpcjaaDeO
namespace Go.Proofs.Ytkghgfiindpcjaa
open Go.RowKit

/-! works: 128 and 3. -/
def lit7 : List Nat := [48, 7, 2, 2, 0, 128, 2, 1, 3]
theorem lit7_dec : dec0 lit7 = (0, 128, 3) := by decide +kernel
theorem lit7_8 : B8 lit7 := fun x hx => by simp [lit7] at hx; omega
theorem lit7_key : KeyB 128 3 lit7 := (dec0_ok lit7_8 lit7_dec).1
theorem lit7_cut : (dec0 (lit7.take 8)).1 = 70 := by decide +kernel
theorem lit7_item : itemI [48, 129, 127] 0 = (72, 0, 0, 0) := by decide +kernel
theorem num1 {n : Nat} (h : n ≠ 0) (hb : n < 18446744073709551616) : Num [n] n := ⟨fun x hx => by simp at hx; omega, fun _ => by simpa [at0] using h, by simp [val]⟩
theorem rd_lit8 {w : World} (T : TypeId) (xs : List Nat) (cs : Array Value) (hc : cs = (u8s xs).toArray) : Rd .u8 (w.alloc (.cells cs T)) (some ⟨w.heap.size, 0, none⟩) xs := fun j hj => ⟨w.heap.size, 0, rfl, fun i hi => by
  rw [World.cell?_alloc_at _ _ _ _ rfl, hc]
  simp [u8s, hi, List.getD]⟩
/-- A key in a block. -/
@[reducible] def KO (x y : Value) : Obj := .cells #[x, y] 40
theorem KO.cells {w : World} {g : Nat} {x y : Value} (h : w.heap[g]? = some (KO x y)) : w.cell? ⟨g, 0, none⟩ = some x ∧ w.cell? ⟨g, 1, none⟩ = some y := ⟨cell_alloc (i := 0) h, cell_alloc (i := 1) h⟩
theorem KO.below {w w' : World} {g : Nat} {x y : Value} (h : w.heap[g]? = some (KO x y)) (hb : Below w.heap.size w w') : w'.heap[g]? = some (KO x y) := by rw [hb.block _ (lt_of_block h)]; exact h
theorem Sep.belowS {w w' : World} {B : Nat} {R : List Rw} (h : Sep w B R) (hb : Below w.heap.size w w') : Sep w' B R :=
  h.chg (Chg.of_below hb) (fun r hr k hk => by have := World.ownsRow.lt (h.1 r hr) k hk; omega)
theorem Sep.own {w : World} {B : Nat} {v : Value} {zs : List Nat} {R : List Rw} (h : Sep w B R) (hm : rw64 v zs ∈ R) : own64 w B v zs := h.1 _ hm

set_option maxHeartbeats 4000000 in
set_option maxRecDepth 100000 in
theorem works7_any (w : World) : Calls Try.prog 19 #[] w fun e w' => e = .returned (.bool true) ∧ Below w.heap.size w w' := by
  go_enter Try.func19, Try.ntmps19
  go_wp2_with fail
  have hL := rd_lit8 (w := w) 5 lit7 #[.int .u8 48, .int .u8 7, .int .u8 2, .int .u8 2, .int .u8 0, .int .u8 128, .int .u8 2, .int .u8 1, .int .u8 3] rfl
  have HB := Lib.hid ((Below.refl w.heap.size w).alloc (Nat.le_refl _) (.cells #[.int .u8 48, .int .u8 7, .int .u8 2, .int .u8 2, .int .u8 0, .int .u8 128, .int .u8 2, .int .u8 1, .int .u8 3] 5))
  have HL := Lib.hid hL
  clear hL
  refine (decode_any _ 9 9 lit7 _ rfl (by decide) (by decide) (by decide) (fun h => by cases h) lit7_8 HL.out).mono ?_
  rintro e w1 ⟨hb, a1, c1, N, a2, c2, E, k, rfl, hsp, -, -, hT⟩
  obtain ⟨rfl, rfl, rfl⟩ := hT.one (KeyTells.yes lit7_dec (num1 (by decide) (by decide)) (num1 (by decide) (by decide)))
  have hl1 : List.length [128] = 1 := rfl
  have hl2 : List.length [3] = 1 := rfl
  rw [hl1, hl2] at hsp ⊢
  have HL := Lib.hid (HL.out.below hb)
  have HB := Lib.hid (HB.out.trans (hb.mono HB.out.size))
  have HS := Lib.hid hsp
  clear hb hT hsp
  go_wp2_with fail
  have hk0 : (w1.alloc (KO (.slice a1 1 c1) (.slice a2 1 c2))).heap[w1.heap.size]? = some (KO (.slice a1 1 c1) (.slice a2 1 c2)) := heap_new _ _
  have hb := (Below.refl w1.heap.size w1).alloc (Nat.le_refl _) (KO (.slice a1 1 c1) (.slice a2 1 c2))
  have HL := Lib.hid (HL.out.below hb)
  have HS := Lib.hid (HS.out.belowS hb)
  have HB := Lib.hid (HB.out.trans (hb.mono HB.out.size))
  have HK := Lib.hid hk0
  clear hb hk0
  have o1 := HS.out.own (v := .slice a1 1 c1) (zs := [128]) (by simp)
  have o2 := HS.out.own (v := .slice a2 1 c2) (zs := [3]) (by simp)
  refine (encode_any a1 1 c1 [128] a2 1 c2 [3] _ rfl (by decide) (own64.room o1).1 (own64.rd o1).2 (fun x hx => by simp at hx; omega) rfl (by decide) (own64.room o2).1 (own64.rd o2).2 (fun x hx => by simp at hx; omega)).mono ?_
  clear o1 o2
  rintro e w2 ⟨hb, a3, c3, k, b, rfl, ho, hT⟩
  obtain ⟨rfl, rfl⟩ := hT.one (.inl ⟨by decide +kernel, by decide +kernel, rfl, by simpa [val] using lit7_key⟩)
  have hl3 : lit7.length = 9 := rfl
  rw [hl3] at ho ⊢
  have HL := Lib.hid (HL.out.below hb)
  have HS := Lib.hid (HS.out.belowS hb)
  have HB := Lib.hid (HB.out.trans (hb.mono HB.out.size))
  have HK := Lib.hid (KO.below HK.out hb)
  have HC := Lib.hid (own8_rd2 ho)
  clear hb hT ho
  go_wp2_with fail
  refine (decode_any (some ⟨w.heap.size, 0, none⟩) 8 9 (lit7.take 8) _ rfl (by decide) (by decide) (by decide) (fun h => by cases h) (lit7_8.take 8) (rd_pre HL.out 8)).mono ?_
  rintro e w3 ⟨hb, a4, c4, N, a5, c5, E, k, rfl, -, -, -, hT⟩
  obtain ⟨rfl, rfl, rfl⟩ := hT.one (KeyTells.no lit7_cut (by decide))
  have hl4 : List.length ([] : List Nat) = 0 := rfl
  rw [hl4]
  have HL := Lib.hid (HL.out.below hb)
  have HS := Lib.hid (HS.out.belowS hb)
  have HB := Lib.hid (HB.out.trans (hb.mono HB.out.size))
  have HK := Lib.hid (KO.below HK.out hb)
  have HC := Lib.hid (HC.out.below hb)
  clear hb hT
  go_wp2_with fail
  have hb := ((Below.refl w3.heap.size w3).alloc (Nat.le_refl _) (KO (.slice a4 0 c4) (.slice a5 0 c5))).alloc (by simp) (.cells #[.int .u8 48, .int .u8 129, .int .u8 127] 5)
  have hI := rd_lit8 (w := w3.alloc (KO (.slice a4 0 c4) (.slice a5 0 c5))) 5 [48, 129, 127] #[.int .u8 48, .int .u8 129, .int .u8 127] rfl
  rw [show (w3.alloc (KO (.slice a4 0 c4) (.slice a5 0 c5))).heap.size = w3.heap.size + 1 by simp] at hI
  have HL := Lib.hid (HL.out.below hb)
  have HS := Lib.hid (HS.out.belowS hb)
  have HB := Lib.hid (HB.out.trans (hb.mono HB.out.size))
  have HK := Lib.hid (KO.below HK.out hb)
  have HC := Lib.hid (HC.out.below hb)
  refine (item_any (some ⟨w3.heap.size + 1, 0, none⟩) 3 3 [48, 129, 127] 0 _ rfl (by decide) (by decide) (fun x hx => by simp at hx; omega) hI (by decide) (by decide)).mono ?_
  clear hb hI
  rintro e w4 ⟨hb, k, t, f, o, hi, rfl⟩
  rw [lit7_item] at hi
  simp only [Prod.mk.injEq] at hi
  obtain ⟨rfl, rfl, rfl, rfl⟩ := hi
  have HL := Lib.hid (HL.out.below hb)
  have HS := Lib.hid (HS.out.belowS hb)
  have HB := Lib.hid (HB.out.trans (hb.mono HB.out.size))
  have HK := Lib.hid (KO.below HK.out hb)
  have HC := Lib.hid (HC.out.below hb)
  clear hb
  go_wp2_with fail
  refine (bytes_same _ _ 9 _ _ lit7 _ rfl (by decide) HC.out HL.out).mono ?_
  rintro e w5 ⟨rfl, nq, hw⟩
  have hb7 : Below w4.heap.size w4 w5 := by rw [hw]; exact Below.drewM (Below.refl _ _) nq
  have HS := Lib.hid (HS.out.belowS hb7)
  have HBF := Lib.hid (HB.out.trans (hb7.mono HB.out.size))
  have HKF := Lib.hid (KO.below HK.out hb7)
  have o1 := HS.out.own (v := .slice a1 1 c1) (zs := [128]) (by simp)
  have o2 := HS.out.own (v := .slice a2 1 c2) (zs := [3]) (by simp)
  obtain ⟨b1, f1, rfl, k1⟩ := (own64.rd o1).2.get (by simp)
  obtain ⟨b2, f2, rfl, k2⟩ := (own64.rd o2).2.get (by simp)
  have k1 := k1 0 (by simp)
  have k2 := k2 0 (by simp)
  have k1 : w5.cell? ⟨b1, f1, none⟩ = some (.int .u64 128) := k1
  have k2 : w5.cell? ⟨b2, f2, none⟩ = some (.int .u64 3) := k2
  obtain ⟨g1, g2⟩ := KO.cells HKF.out
  clear hw hb7 o1 o2
  go_wp2
  go_ret
  exact ⟨rfl, HBF.out⟩
end Go.Proofs.Ytkghgfiindpcjaa
