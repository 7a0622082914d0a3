import Derived.Test.YtkccbpebmiicfaaNfN
import Derived.Test.YtkccbpebmiicfaaNfQ
namespace Go.Proofs.Ytkccbpebmiicfaa
open Go.RowKit

/-! How sizes of parts make up a size. -/
theorem size_of {T : PT} {C : Nat} (h : chk T = 0) (hC : cnt T = C) : sizeN T = szN C ∧ sizeE T = szE C := by
  unfold sizeN sizeE szN szE
  rw [if_pos h, if_pos h, hC]
  exact ⟨rfl, rfl⟩
theorem chk_of {T : PT} (h : nodes T ≤ 2048) (hm : may T = true) : chk T = 0 := by
  unfold chk
  rw [if_neg (by omega), if_pos hm]
def pairN (k : Int) (g : Nat) (a b : NT) : NT := .mk k .zero 0 0 (.slice (some ⟨g, 0, none⟩) 2 2) [a, b]
def oneN (m n : Int) (g : Nat) (a : NT) : NT := .mk 6 .zero m n (.slice (some ⟨g, 0, none⟩) 1 1) [a]
theorem pairN_lies {k : Int} {g : Nat} {a b : NT} {W : World} (h : CB W 27 g (a.cells ++ b.cells)) (ha : a.Lies W) (hb : b.Lies W) : (pairN k g a b).Lies W :=
  NT.Lies_mk.2 ⟨⟨some ⟨g, 0, none⟩, 2, rfl, .inr ⟨g, 0, rfl, by rw [List.flatMap_cons, List.flatMap_cons, List.flatMap_nil, List.append_nil]; exact h.range0⟩⟩, fun t ht => by
    rcases List.mem_cons.1 ht with e | ht
    · rw [e]; exact ha
    · rw [List.mem_singleton.1 ht]; exact hb⟩
theorem oneN_lies {m n : Int} {g : Nat} {a : NT} {W : World} (h : CB W 27 g a.cells) (ha : a.Lies W) : (oneN m n g a).Lies W :=
  NT.Lies_mk.2 ⟨⟨some ⟨g, 0, none⟩, 1, rfl, .inr ⟨g, 0, rfl, by rw [List.flatMap_cons, List.flatMap_nil, List.append_nil]; exact h.range0⟩⟩, fun t ht => by rw [List.mem_singleton.1 ht]; exact ha⟩
theorem n_sizePair (k : Int) (g : Nat) (a b : NT) (W : World) (hk : k = 4 ∨ k = 5) (hna : a.num) (hnb : b.num) (hla : a.Lies W) (hlb : b.Lies W) (ha : chk a.pt = 0) (hb : chk b.pt = 0) (hn : nodes a.pt ≤ 1000 ∧ nodes b.pt ≤ 1000) (h : CB W 27 g (a.cells ++ b.cells)) :
    Calls Try.prog 9 #[nodeVal k .zero 0 0 (.slice (some ⟨g, 0, none⟩) 2 2)] W fun e w' => e = .returned (.tuple #[.int .i64 ((szN (cnt a.pt + cnt b.pt + if k = 5 then 1 else 0) : Nat) : Int), .int .i64 (szE (cnt a.pt + cnt b.pt + if k = 5 then 1 else 0))]) ∧ Below W.heap.size W w' := by
  have hma := (chk_zero ha).2
  have hmb := (chk_zero hb).2
  have hpt : (pairN k g a b).pt = .mk k .zero 0 0 [a.pt, b.pt] := by unfold pairN; rw [NT.pt_mk]; rfl
  have hch : chk (pairN k g a b).pt = 0 := by
    rw [hpt]
    refine chk_of ?_ ?_
    · rw [nodes, nodesL, nodesL, nodesL]; omega
    · rw [may, mayL, mayL, mayL, hma, hmb]; rcases hk with rfl | rfl <;> rfl
  have hct : cnt (pairN k g a b).pt = cnt a.pt + cnt b.pt + if k = 5 then 1 else 0 := by
    rw [hpt, cnt]
    rcases hk with rfl | rfl <;> simp [cntL]
  have hnum : (pairN k g a b).num := by
    unfold pairN
    rw [NT.num_mk]
    refine ⟨by unfold In64; omega, by unfold In64; omega, by unfold In64; omega, S4.zero_fit, fun t ht => ?_⟩
    rcases List.mem_cons.1 ht with e | ht
    · rw [e]; exact hna
    · rw [List.mem_singleton.1 ht]; exact hnb
  have h9 := p_Size (pairN k g a b) W hnum (pairN_lies h hla hlb)
  rw [(size_of hch hct).1, (size_of hch hct).2] at h9
  exact h9
theorem n_sizeOne (m n : Int) (g : Nat) (a : NT) (W : World) (hna : a.num) (hla : a.Lies W) (ha : chk a.pt = 0) (hn : nodes a.pt ≤ 1000) (hi : itv m n = true) (C : Nat) (hC : again m n * (cnt a.pt + 1) + m.toNat * cnt a.pt = C) (h : CB W 27 g a.cells) :
    Calls Try.prog 9 #[nodeVal 6 .zero m n (.slice (some ⟨g, 0, none⟩) 1 1)] W fun e w' => e = .returned (.tuple #[.int .i64 ((szN C : Nat) : Int), .int .i64 (szE C)]) ∧ Below W.heap.size W w' := by
  have hma := (chk_zero ha).2
  have hpt : (oneN m n g a).pt = .mk 6 .zero m n [a.pt] := by unfold oneN; rw [NT.pt_mk]; rfl
  have hch : chk (oneN m n g a).pt = 0 := by
    rw [hpt]
    refine chk_of ?_ ?_
    · rw [nodes, nodesL, nodesL]; omega
    · rw [may, mayL, mayL, hma]
      unfold fitT
      simp [S4.isZ, S4.zero, hi]
  have hct : cnt (oneN m n g a).pt = C := by
    rw [hpt, cnt, ← hC]
    simp [cntR]
  have hnum : (oneN m n g a).num := by
    obtain ⟨i1, i2, i3⟩ := itv_parts hi
    unfold oneN
    rw [NT.num_mk]
    exact ⟨by unfold In64; omega, by unfold In64; omega, by unfold In64; omega, S4.zero_fit, fun t ht => by rw [List.mem_singleton.1 ht]; exact hna⟩
  have h9 := p_Size (oneN m n g a) W hnum (oneN_lies h hla)
  rw [(size_of hch hct).1, (size_of hch hct).2] at h9
  exact h9
theorem size_ok {T : PT} (h : sizeE T = 0) : chk T = 0 ∧ cnt T + 1 ≤ 4096 ∧ sizeN T = cnt T + 1 := by
  unfold sizeE at h
  by_cases h1 : chk T = 0
  · rw [if_pos h1] at h
    by_cases h2 : cnt T + 1 ≤ 4096
    · exact ⟨h1, h2, by unfold sizeN; rw [if_pos h1, if_pos h2]⟩
    · rw [if_neg h2] at h; cases h
  · rw [if_neg h1] at h; exact absurd h h1
set_option maxHeartbeats 2000000 in
set_option maxRecDepth 100000 in
theorem p_NfaParts_few (kx : Int) (sx : S4) (mx nx : Int) (ax : Option Addr) (lx cx : Nat) (px : List NT) (ky : Int) (sy : S4) (my ny : Int) (ay : Option Addr) (ly cy : Nat) (py : List NT) (z0 z1 : Int) (w : World) (hnx : (NT.mk kx sx mx nx (.slice ax lx cx) px).num) (hlx : (NT.mk kx sx mx nx (.slice ax lx cx) px).Lies w) (hny : (NT.mk ky sy my ny (.slice ay ly cy) py).num) (hly : (NT.mk ky sy my ny (.slice ay ly cy) py).Lies w) (hz0 : In64 z0) (hz1 : In64 z1) (hno : 1000 < nodes (NT.mk kx sx mx nx (.slice ax lx cx) px).pt ∨ 1000 < nodes (NT.mk ky sy my ny (.slice ay ly cy) py).pt ∨ sizeE (NT.mk kx sx mx nx (.slice ax lx cx) px).pt ≠ 0 ∨ sizeE (NT.mk ky sy my ny (.slice ay ly cy) py).pt ≠ 0) : Calls Try.prog 6 #[nodeVal kx sx mx nx (.slice ax lx cx), nodeVal ky sy my ny (.slice ay ly cy), .int .i64 z0, .int .i64 z1] w fun e w' => e = .returned (.bool true) ∧ Below w.heap.size w w'  := by
  have hmx := fun W (hW : Below w.heap.size w W) => p_many11 (NT.mk kx sx mx nx (.slice ax lx cx) px) 1000 W (by decide) (hlx.below hW)
  have hmy := fun W (hW : Below w.heap.size w W) => p_many11 (NT.mk ky sy my ny (.slice ay ly cy) py) 1000 W (by decide) (hly.below hW)
  have hsx := fun W (hW : Below w.heap.size w W) => p_Size (NT.mk kx sx mx nx (.slice ax lx cx) px) W hnx (hlx.below hW)
  have hsy := fun W (hW : Below w.heap.size w W) => p_Size (NT.mk ky sy my ny (.slice ay ly cy) py) W hny (hly.below hW)
  obtain ⟨NX, hNX⟩ : ∃ NX, min (nodes (NT.mk kx sx mx nx (.slice ax lx cx) px).pt) (1000 + 1) = NX := ⟨_, rfl⟩
  obtain ⟨NY, hNY⟩ : ∃ NY, min (nodes (NT.mk ky sy my ny (.slice ay ly cy) py).pt) (1000 + 1) = NY := ⟨_, rfl⟩
  have hno2 : 1000 < NX ∨ 1000 < NY ∨ sizeE (NT.mk kx sx mx nx (.slice ax lx cx) px).pt ≠ 0 ∨ sizeE (NT.mk ky sy my ny (.slice ay ly cy) py).pt ≠ 0 := by omega
  obtain ⟨ZX, hZX⟩ : ∃ ZX, sizeN (NT.mk kx sx mx nx (.slice ax lx cx) px).pt = ZX := ⟨_, rfl⟩
  obtain ⟨ZY, hZY⟩ : ∃ ZY, sizeN (NT.mk ky sy my ny (.slice ay ly cy) py).pt = ZY := ⟨_, rfl⟩
  obtain ⟨EX, hEX⟩ : ∃ EX, sizeE (NT.mk kx sx mx nx (.slice ax lx cx) px).pt = EX := ⟨_, rfl⟩
  obtain ⟨EY, hEY⟩ : ∃ EY, sizeE (NT.mk ky sy my ny (.slice ay ly cy) py).pt = EY := ⟨_, rfl⟩
  rw [hNX] at hmx
  rw [hNY] at hmy
  rw [hZX, hEX] at hsx
  rw [hZY, hEY] at hsy
  rw [hEX, hEY] at hno2
  have HMX : Hid (∀ W, Below w.heap.size w W → Calls Try.prog 7 #[nodeVal kx sx mx nx (.slice ax lx cx), .int .i64 1000] W fun e w' => e = .returned (.int .i64 ((NX : Nat) : Int)) ∧ Below W.heap.size W w') := hmx
  have HMY : Hid (∀ W, Below w.heap.size w W → Calls Try.prog 7 #[nodeVal ky sy my ny (.slice ay ly cy), .int .i64 1000] W fun e w' => e = .returned (.int .i64 ((NY : Nat) : Int)) ∧ Below W.heap.size W w') := hmy
  have HSX : Hid (∀ W, Below w.heap.size w W → Calls Try.prog 9 #[nodeVal kx sx mx nx (.slice ax lx cx)] W fun e w' => e = .returned (.tuple #[.int .i64 ((ZX : Nat) : Int), .int .i64 EX]) ∧ Below W.heap.size W w') := hsx
  have HSY : Hid (∀ W, Below w.heap.size w W → Calls Try.prog 9 #[nodeVal ky sy my ny (.slice ay ly cy)] W fun e w' => e = .returned (.tuple #[.int .i64 ((ZY : Nat) : Int), .int .i64 EY]) ∧ Below W.heap.size W w') := hsy
  have HB1 : Hid (Below w.heap.size w ((w.alloc (.cells #[.int .i64 kx, .int .u64 (sx.a : Nat), .int .u64 (sx.b : Nat), .int .u64 (sx.c : Nat), .int .u64 (sx.d : Nat), .int .i64 mx, .int .i64 nx, .slice ax lx cx] 27)).alloc (.cells #[.int .i64 ky, .int .u64 (sy.a : Nat), .int .u64 (sy.b : Nat), .int .u64 (sy.c : Nat), .int .u64 (sy.d : Nat), .int .i64 my, .int .i64 ny, .slice ay ly cy] 27))) := ((Below.refl _ _).alloc (Nat.le_refl _) _).alloc (by go_size) _
  have HX1 : Hid (CB ((w.alloc (.cells #[.int .i64 kx, .int .u64 (sx.a : Nat), .int .u64 (sx.b : Nat), .int .u64 (sx.c : Nat), .int .u64 (sx.d : Nat), .int .i64 mx, .int .i64 nx, .slice ax lx cx] 27)).alloc (.cells #[.int .i64 ky, .int .u64 (sy.a : Nat), .int .u64 (sy.b : Nat), .int .u64 (sy.c : Nat), .int .u64 (sy.d : Nat), .int .i64 my, .int .i64 ny, .slice ay ly cy] 27)) 27 w.heap.size [.int .i64 kx, .int .u64 (sx.a : Nat), .int .u64 (sx.b : Nat), .int .u64 (sx.c : Nat), .int .u64 (sx.d : Nat), .int .i64 mx, .int .i64 nx, .slice ax lx cx]) := CB.alloc (CB.new w _ _) _
  have HY1 : Hid (CB ((w.alloc (.cells #[.int .i64 kx, .int .u64 (sx.a : Nat), .int .u64 (sx.b : Nat), .int .u64 (sx.c : Nat), .int .u64 (sx.d : Nat), .int .i64 mx, .int .i64 nx, .slice ax lx cx] 27)).alloc (.cells #[.int .i64 ky, .int .u64 (sy.a : Nat), .int .u64 (sy.b : Nat), .int .u64 (sy.c : Nat), .int .u64 (sy.d : Nat), .int .i64 my, .int .i64 ny, .slice ay ly cy] 27)) 27 (w.heap.size + 1) [.int .i64 ky, .int .u64 (sy.a : Nat), .int .u64 (sy.b : Nat), .int .u64 (sy.c : Nat), .int .u64 (sy.d : Nat), .int .i64 my, .int .i64 ny, .slice ay ly cy]) := cb2 w _ _ _
  have HMK1 : Hid True := trivial
  have HMK2 : Hid True := trivial
  have HMK3 : Hid True := trivial
  have HMK4 : Hid True := trivial
  clear hmx hmy hsx hsy hNX hNY hZX hZY hEX hEY hnx hlx hny hly hno hz0 hz1
  by_cases h1 : 1000 < NX
  · have h1i : (1000 : Int) < (NX : Int) := by omega
    clear hno2
    go_enter Try.func6, Try.ntmps6
    go_wp2_with (first | (go_at_call 7; clear HMK1; refine (HMX.out _ HB1.out).mono ?_; rintro e w2 ⟨rfl, hb2⟩; have HB2 : Hid (Below w.heap.size w w2) := HB1.out.trans (hb2.mono HB1.out.size); have HX2 := Lib.hid (CB.below HX1.out hb2); have HY2 := Lib.hid (CB.below HY1.out hb2); obtain ⟨⟨x20, x21, x22, x23, x24, x25, x26, x27⟩, -⟩ := HX2.out.eight; obtain ⟨⟨y20, y21, y22, y23, y24, y25, y26, y27⟩, -⟩ := HY2.out.eight; clear hb2))
    go_ret
    exact ⟨rfl, HB2.out⟩
  · have h1i : ¬ (1000 : Int) < (NX : Int) := by omega
    by_cases h2 : 1000 < NY
    · have h2i : (1000 : Int) < (NY : Int) := by omega
      clear hno2
      go_enter Try.func6, Try.ntmps6
      go_wp2_with (first | (go_at_call 7; clear HMK1; refine (HMX.out _ HB1.out).mono ?_; rintro e w2 ⟨rfl, hb2⟩; have HB2 : Hid (Below w.heap.size w w2) := HB1.out.trans (hb2.mono HB1.out.size); have HX2 := Lib.hid (CB.below HX1.out hb2); have HY2 := Lib.hid (CB.below HY1.out hb2); obtain ⟨⟨x20, x21, x22, x23, x24, x25, x26, x27⟩, -⟩ := HX2.out.eight; obtain ⟨⟨y20, y21, y22, y23, y24, y25, y26, y27⟩, -⟩ := HY2.out.eight; clear hb2) | (go_at_call 7; clear HMK2; refine (HMY.out _ HB2.out).mono ?_; rintro e w3 ⟨rfl, hb3⟩; have HB3 : Hid (Below w.heap.size w w3) := HB2.out.trans (hb3.mono HB2.out.size); have HX3 := Lib.hid (CB.below HX2.out hb3); have HY3 := Lib.hid (CB.below HY2.out hb3); obtain ⟨⟨x30, x31, x32, x33, x34, x35, x36, x37⟩, -⟩ := HX3.out.eight; obtain ⟨⟨y30, y31, y32, y33, y34, y35, y36, y37⟩, -⟩ := HY3.out.eight; clear hb3))
      go_ret
      exact ⟨rfl, HB3.out⟩
    · have h2i : ¬ (1000 : Int) < (NY : Int) := by omega
      by_cases h3 : EX = 0
      · have h4 : (EY != 0) = true := by
          rcases hno2 with h | h | h | h
          · exact absurd h h1
          · exact absurd h h2
          · exact absurd h3 h
          · simpa using h
        subst h3
        clear hno2
        go_enter Try.func6, Try.ntmps6
        go_wp2_with (first | (go_at_call 7; clear HMK1; refine (HMX.out _ HB1.out).mono ?_; rintro e w2 ⟨rfl, hb2⟩; have HB2 : Hid (Below w.heap.size w w2) := HB1.out.trans (hb2.mono HB1.out.size); have HX2 := Lib.hid (CB.below HX1.out hb2); have HY2 := Lib.hid (CB.below HY1.out hb2); obtain ⟨⟨x20, x21, x22, x23, x24, x25, x26, x27⟩, -⟩ := HX2.out.eight; obtain ⟨⟨y20, y21, y22, y23, y24, y25, y26, y27⟩, -⟩ := HY2.out.eight; clear hb2) | (go_at_call 7; clear HMK2; refine (HMY.out _ HB2.out).mono ?_; rintro e w3 ⟨rfl, hb3⟩; have HB3 : Hid (Below w.heap.size w w3) := HB2.out.trans (hb3.mono HB2.out.size); have HX3 := Lib.hid (CB.below HX2.out hb3); have HY3 := Lib.hid (CB.below HY2.out hb3); obtain ⟨⟨x30, x31, x32, x33, x34, x35, x36, x37⟩, -⟩ := HX3.out.eight; obtain ⟨⟨y30, y31, y32, y33, y34, y35, y36, y37⟩, -⟩ := HY3.out.eight; clear hb3) | (go_at_call 9; clear HMK3; refine (HSX.out _ HB3.out).mono ?_; rintro e w4 ⟨rfl, hb4⟩; have HB4 : Hid (Below w.heap.size w w4) := HB3.out.trans (hb4.mono HB3.out.size); have HX4 := Lib.hid (CB.below HX3.out hb4); have HY4 := Lib.hid (CB.below HY3.out hb4); obtain ⟨⟨x40, x41, x42, x43, x44, x45, x46, x47⟩, -⟩ := HX4.out.eight; obtain ⟨⟨y40, y41, y42, y43, y44, y45, y46, y47⟩, -⟩ := HY4.out.eight; clear hb4) | (go_at_call 9; clear HMK4; refine (HSY.out _ HB4.out).mono ?_; rintro e w5 ⟨rfl, hb5⟩; have HB5 : Hid (Below w.heap.size w w5) := HB4.out.trans (hb5.mono HB4.out.size); have HX5 := Lib.hid (CB.below HX4.out hb5); have HY5 := Lib.hid (CB.below HY4.out hb5); obtain ⟨⟨x50, x51, x52, x53, x54, x55, x56, x57⟩, -⟩ := HX5.out.eight; obtain ⟨⟨y50, y51, y52, y53, y54, y55, y56, y57⟩, -⟩ := HY5.out.eight; clear hb5) | (go_at_call 16; refine (n_works _).mono ?_; rintro e w9 ⟨rfl, hb9⟩; have HB9 : Hid (Below w.heap.size w w9) := HB5.out.trans (hb9.mono HB5.out.size); clear hb9))
        go_ret
        exact ⟨rfl, HB9.out⟩
      · have h4 : (EX != 0) = true := by simpa using h3
        clear hno2
        go_enter Try.func6, Try.ntmps6
        go_wp2_with (first | (go_at_call 7; clear HMK1; refine (HMX.out _ HB1.out).mono ?_; rintro e w2 ⟨rfl, hb2⟩; have HB2 : Hid (Below w.heap.size w w2) := HB1.out.trans (hb2.mono HB1.out.size); have HX2 := Lib.hid (CB.below HX1.out hb2); have HY2 := Lib.hid (CB.below HY1.out hb2); obtain ⟨⟨x20, x21, x22, x23, x24, x25, x26, x27⟩, -⟩ := HX2.out.eight; obtain ⟨⟨y20, y21, y22, y23, y24, y25, y26, y27⟩, -⟩ := HY2.out.eight; clear hb2) | (go_at_call 7; clear HMK2; refine (HMY.out _ HB2.out).mono ?_; rintro e w3 ⟨rfl, hb3⟩; have HB3 : Hid (Below w.heap.size w w3) := HB2.out.trans (hb3.mono HB2.out.size); have HX3 := Lib.hid (CB.below HX2.out hb3); have HY3 := Lib.hid (CB.below HY2.out hb3); obtain ⟨⟨x30, x31, x32, x33, x34, x35, x36, x37⟩, -⟩ := HX3.out.eight; obtain ⟨⟨y30, y31, y32, y33, y34, y35, y36, y37⟩, -⟩ := HY3.out.eight; clear hb3) | (go_at_call 9; clear HMK3; refine (HSX.out _ HB3.out).mono ?_; rintro e w4 ⟨rfl, hb4⟩; have HB4 : Hid (Below w.heap.size w w4) := HB3.out.trans (hb4.mono HB3.out.size); have HX4 := Lib.hid (CB.below HX3.out hb4); have HY4 := Lib.hid (CB.below HY3.out hb4); obtain ⟨⟨x40, x41, x42, x43, x44, x45, x46, x47⟩, -⟩ := HX4.out.eight; obtain ⟨⟨y40, y41, y42, y43, y44, y45, y46, y47⟩, -⟩ := HY4.out.eight; clear hb4) | (go_at_call 9; clear HMK4; refine (HSY.out _ HB4.out).mono ?_; rintro e w5 ⟨rfl, hb5⟩; have HB5 : Hid (Below w.heap.size w w5) := HB4.out.trans (hb5.mono HB4.out.size); have HX5 := Lib.hid (CB.below HX4.out hb5); have HY5 := Lib.hid (CB.below HY4.out hb5); obtain ⟨⟨x50, x51, x52, x53, x54, x55, x56, x57⟩, -⟩ := HX5.out.eight; obtain ⟨⟨y50, y51, y52, y53, y54, y55, y56, y57⟩, -⟩ := HY5.out.eight; clear hb5) | (go_at_call 16; refine (n_works _).mono ?_; rintro e w9 ⟨rfl, hb9⟩; have HB9 : Hid (Below w.heap.size w w9) := HB5.out.trans (hb9.mono HB5.out.size); clear hb9))
        go_ret
        exact ⟨rfl, HB9.out⟩
end Go.Proofs.Ytkccbpebmiicfaa
