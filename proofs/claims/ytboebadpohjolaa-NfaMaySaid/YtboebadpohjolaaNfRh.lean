import Derived.Test.YtboebadpohjolaaNfN
import Derived.Test.YtboebadpohjolaaNfQ
import Derived.Test.YtboebadpohjolaaNfRf
import Derived.Test.YtboebadpohjolaaNfRg
namespace Go.Proofs.Ytboebadpohjolaa
open Go.RowKit

/-! The law NfaMay. -/
theorem chk_good {L : List St} {q : Nat} (h : GoodS L) (hl : L.length ≤ 4096) (hq : q < L.length) : chkM L q = 0 := by
  unfold chkM
  rw [if_pos]
  refine ⟨hl, ⟨by omega, by omega⟩, ?_⟩
  rw [List.all_eq_true]
  intro s hs
  obtain ⟨i, hi, rfl⟩ := List.getElem_of_mem hs
  obtain ⟨h1, h2, h3, h4, h5, h6, h7, h8, h9, h10⟩ := h i hi
  have hk : (L[i]).k = 1 ∨ (L[i]).k = 2 ∨ (L[i]).k = 3 ∨ (L[i]).k = 4 ∨ (L[i]).k = 5 := by omega
  unfold okS
  rcases hk with hk | hk | hk | hk | hk <;> simp [hk, h1, h2, h3, h4]
theorem good_cases {L : List St} (h : GoodS L) {i : Nat} (hi : i < L.length) : ∃ k s x y, L[i] = ⟨k, s, x, y⟩ ∧ ((i = 0 ∧ k = 5 ∧ s = .zero ∧ y = 0) ∨ (i ≠ 0 ∧ k = 1 ∧ y = 0) ∨ (i ≠ 0 ∧ k = 2 ∧ s = .zero) ∨ (i ≠ 0 ∧ k = 3 ∧ s = .zero ∧ y = 0) ∨ (i ≠ 0 ∧ k = 4 ∧ s = .zero ∧ y = 0)) := by
  obtain ⟨h1, h2, h3, h4, h5, h6, h7, h8, h9, h10⟩ := h i hi
  obtain ⟨s, hs⟩ : ∃ s, L[i] = s := ⟨_, rfl⟩
  rw [hs] at h1 h2 h3 h4 h5 h6 h7 h8 h9 h10
  obtain ⟨k, s, x, y⟩ := s
  refine ⟨k, s, x, y, hs, ?_⟩
  have e5 : k = 5 ↔ i = 0 := h7
  by_cases hi0 : i = 0
  · have hk := e5.2 hi0
    exact .inl ⟨hi0, hk, h9 (by show k ≠ 1; omega), h8 (by show k ≠ 2; omega)⟩
  · have hk : k ≠ 5 := fun e => hi0 (e5.1 e)
    have hk1 : 1 ≤ k := h5
    have hk2 : k ≤ 5 := h6
    by_cases k1 : k = 1
    · exact .inr (.inl ⟨hi0, k1, h8 (by show k ≠ 2; omega)⟩)
    · by_cases k2 : k = 2
      · exact .inr (.inr (.inl ⟨hi0, k2, h9 k1⟩))
      · by_cases k3 : k = 3
        · exact .inr (.inr (.inr (.inl ⟨hi0, k3, h9 k1, h8 k2⟩)))
        · exact .inr (.inr (.inr (.inr ⟨hi0, by omega, h9 k1, h8 k2⟩)))
theorem n_Size (t : NT) (w : World) (hn : t.num) (hl : t.Lies w) : Calls Try.prog 7 #[t.val] w fun e w' => e = .returned (.tuple #[.int .i64 ((sizeN t.pt : Nat) : Int), .int .i64 (sizeE t.pt)]) ∧ Below w.heap.size w w' := p_Size t w hn hl
theorem size_no {t : PT} (h : sizeE t ≠ 0) : sizeN t = 0 := by
  unfold sizeE at h
  unfold sizeN
  by_cases h1 : chk t = 0
  · rw [if_pos h1] at h ⊢
    by_cases h2 : cnt t + 1 ≤ 4096
    · rw [if_pos h2] at h; exact absurd rfl h
    · rw [if_neg h2]
  · rw [if_neg h1]
set_option maxHeartbeats 16000000 in
set_option maxRecDepth 100000 in
theorem n_NfaMay (k : Int) (s : S4) (m n : Int) (a : Option Addr) (c : Nat) (ps : List NT) (len : Nat) (w : World) (hn : (NT.mk k s m n (.slice a len c) ps).num) (hl : (NT.mk k s m n (.slice a len c) ps).Lies w) : Calls Try.prog 4 #[nodeVal k s m n (.slice a len c)] w fun e w' => e = .returned (.bool true) ∧ Below w.heap.size w w' := by
  obtain ⟨T, hT⟩ : ∃ T, (NT.mk k s m n (.slice a len c) ps).pt = T := ⟨_, rfl⟩
  have hmany := fun W (hW : Below w.heap.size w W) => p_many11 _ 2500 W (by omega) (hl.below hW)
  have hsize := fun W (hW : Below w.heap.size w W) => n_Size _ W hn (hl.below hW)
  rw [hT] at hmany hsize
  have HB0 : Hid (Below w.heap.size w (w.alloc (.cells #[.int .i64 k, .int .u64 (s.a : Nat), .int .u64 (s.b : Nat), .int .u64 (s.c : Nat), .int .u64 (s.d : Nat), .int .i64 m, .int .i64 n, .slice a len c] 27))) := (Below.refl _ _).alloc (Nat.le_refl _) _
  have HC0 : Hid (CB (w.alloc (.cells #[.int .i64 k, .int .u64 (s.a : Nat), .int .u64 (s.b : Nat), .int .u64 (s.c : Nat), .int .u64 (s.d : Nat), .int .i64 m, .int .i64 n, .slice a len c] 27)) 27 w.heap.size (nodeCells k s m n (.slice a len c))) := CB.new w _ _
  obtain ⟨X, hX⟩ : ∃ X, min (nodes T) (2500 + 1) = X := ⟨_, rfl⟩
  rw [hX] at hmany
  have HMANY : Hid (∀ W, Below w.heap.size w W → Calls Try.prog 5 #[nodeVal k s m n (.slice a len c), .int .i64 2500] W fun e w' => e = .returned (.int .i64 (X : Nat)) ∧ Below W.heap.size W w') := hmany
  by_cases hX1 : (2500 : Int) < (X : Int)
  · clear hmany hsize hn hl hT hX
    go_enter Try.func4, Try.ntmps4
    go_wp2_with (go_at_call 5; refine (HMANY.out _ HB0.out).mono ?_; rintro e w1 ⟨rfl, hb1⟩; have HB1 := Lib.hid (HB0.out.trans (hb1.mono HB0.out.size)); clear hb1)
    go_ret
    exact ⟨rfl, HB1.out⟩
  · have hXn : X = nodes T := by omega
    obtain ⟨E, hE⟩ : ∃ E, sizeE T = E := ⟨_, rfl⟩
    by_cases hE0 : E = 0
    · subst hE0
      obtain ⟨hck, hcn⟩ := size_parts hE
      obtain ⟨hnod, hmay⟩ := chk_zero hck
      have hsets : setsOk T := by rw [← hT]; exact n_num_sets _ hn
      obtain ⟨g1, g2, g3⟩ := mk11_laid hmay hsets
      have hmk := fun W (hW : Below w.heap.size w W) => n_Make _ W hn (hl.below hW) (by rw [hT]; exact hE)
      have hlow := fun W (hW : Below w.heap.size w W) => n_low _ W (by rw [hT]; omega) (hl.below hW)
      rw [hT] at hmk hlow
      have hlc := low_cnt T hmay
      have hsn : sizeN T = (mk11 T).1.length := by unfold sizeN; rw [if_pos hck, if_pos hcn, g1]; omega
      rw [hE, hsn] at hsize
      unfold MadeM at hmk
      obtain ⟨L, hL⟩ : ∃ L, (mk11 T).1 = L := ⟨_, rfl⟩
      obtain ⟨q, hq⟩ : ∃ q, (mk11 T).2 = q := ⟨_, rfl⟩
      obtain ⟨lw, hlw⟩ : ∃ lw, low T = lw := ⟨_, rfl⟩
      rw [hL] at g1 g2 g3 hmk hsize
      rw [hq] at g2 hmk
      rw [hlw] at hlow
      obtain ⟨N, hN⟩ : ∃ N, L.length = N := ⟨_, rfl⟩
      have hck2 : chkM L q = 0 := chk_good g3 (by omega) g2
      have hchk := fun a c W (hr : RowAt W a (L.flatMap St.cells)) => n_checkM L a c q W (by omega) hr
      rw [hck2] at hchk
      rw [hN] at g1 g2 hsize hmk hchk
      have hN4 : N ≤ 4096 := by omega
      have hlow2 : lw = true → ¬ (2 * (X : Int) < (N : Int)) := fun h => by
        have := hlc (hlw.trans h)
        omega
      have hXs : X ≤ 2500 := by omega
      have HSIZE : Hid (∀ W, Below w.heap.size w W → Calls Try.prog 7 #[nodeVal k s m n (.slice a len c)] W fun e w' => e = .returned (.tuple #[.int .i64 (N : Nat), .int .i64 0]) ∧ Below W.heap.size W w') := hsize
      have HMK : Hid (∀ W, Below w.heap.size w W → Calls Try.prog 8 #[nodeVal k s m n (.slice a len c)] W fun e w' => Below W.heap.size W w' ∧ ∃ (a : Option Addr) (c : Nat), e = .returned (.tuple #[.agg #[.slice a N c, .int .i64 (q : Nat)], .int .i64 0]) ∧ w'.ownsRow W.heap.size 45 7 (.slice a N c) N (L.flatMap St.cells)) := hmk
      have HLOW : Hid (∀ W, Below w.heap.size w W → Calls Try.prog 16 #[nodeVal k s m n (.slice a len c)] W fun e w' => e = .returned (.bool lw) ∧ Below W.heap.size W w') := hlow
      have HCHK := Lib.hid hchk
      have HLN := Lib.hid hN
      have HG := Lib.hid g3
      clear hmany hsize hn hl hT hX hmk hE hXn hck hcn hnod hmay hsets hlow hlc hsn hL hq hlw hck2 hchk hN g1 g2 g3
      go_enter Try.func4, Try.ntmps4
      cases lw
      · go_wp2_with (first | (go_at_call 5; refine (HMANY.out _ HB0.out).mono ?_; rintro e w1 ⟨rfl, hb1⟩; have HB1 := Lib.hid (HB0.out.trans (hb1.mono HB0.out.size)); have HC1 := Lib.hid (CB.below HC0.out hb1); obtain ⟨⟨x0, x1, x2, x3, x4, x5, x6, x7⟩, -⟩ := HC1.out.eight; clear hb1) | (go_at_call 7; refine (HSIZE.out _ HB1.out).mono ?_; rintro e w2 ⟨rfl, hb2⟩; have HB2 := Lib.hid (HB1.out.trans (hb2.mono HB1.out.size)); have HC2 := Lib.hid (CB.below HC1.out hb2); obtain ⟨⟨y0, y1, y2, y3, y4, y5, y6, y7⟩, -⟩ := HC2.out.eight; clear hb2) | (go_at_call 8; refine (HMK.out _ HB2.out).mono ?_; rintro e w3 ⟨hb3, ma, mc, rfl, hown3⟩; have hal := (Below.refl w3.heap.size w3).alloc (Nat.le_refl _) (.cells #[.slice ma N mc, .int .i64 (q : Nat)] 35); have HB3 := Lib.hid ((HB2.out.trans (hb3.mono HB2.out.size)).trans (hal.mono (HB2.out.trans (hb3.mono HB2.out.size)).size)); have HR3 := Lib.hid (RowAt.mono (own_rowAt hown3 HLN.out.symm) (below_cell hal)); have HC3 := Lib.hid ((CB.below HC2.out hb3).below hal); have HM3 : Hid (CB (w3.alloc (.cells #[.slice ma N mc, .int .i64 (q : Nat)] 35)) 35 w3.heap.size [.slice ma N mc, .int .i64 (q : Nat)]) := CB.new w3 _ _; clear hb3 hown3 hal) | (go_at_call 15; refine (HCHK.out ma mc _ HR3.out).mono ?_; rintro e w4 ⟨rfl, hb4⟩; have HB4 := Lib.hid (HB3.out.trans (hb4.mono HB3.out.size)); have HR4 := Lib.hid (RowAt.mono HR3.out (below_cell hb4)); have HC4 := Lib.hid (CB.below HC3.out hb4); have HM4 := Lib.hid (CB.below HM3.out hb4); obtain ⟨⟨m0, m1⟩, -⟩ := CB.two HM4.out; obtain ⟨⟨z0, z1, z2, z3, z4, z5, z6, z7⟩, -⟩ := HC4.out.eight; clear hb4) | (go_at_call 16; refine (HLOW.out _ HB4.out).mono ?_; rintro e w5 ⟨rfl, hb5⟩; have HB5 := Lib.hid (HB4.out.trans (hb5.mono HB4.out.size)); have HR5 := Lib.hid (RowAt.mono HR4.out (below_cell hb5)); have HM5 := Lib.hid (CB.below HM4.out hb5); clear hb5))
        clear m0 m1 z0 z1 z2 z3 z4 z5 z6 z7 x0 x1 x2 x3 x4 x5 x6 x7 y0 y1 y2 y3 y4 y5 y6 y7
        go_loopw [8] (fun iv wr => ∃ i : Nat, i ≤ N ∧ iv = .int .i64 (i : Nat) ∧ Hid (Below w.heap.size w wr) ∧ Hid (RowAt wr ma (L.flatMap St.cells)) ∧ Hid (CB wr 35 w3.heap.size [.slice ma N mc, .int .i64 (q : Nat)])) (fun iv _ => N - (intOf iv).toNat)
        case atStart => exact ⟨0, by omega, rfl, HB5.out, HR5.out, HM5.out⟩
        case round =>
          obtain ⟨i, hi, rfl, HB, HR, HM⟩ := hrel
          obtain ⟨⟨m0, m1⟩, -⟩ := CB.two HM.out
          by_cases hlt : i < N
          · have hip : i < L.length := by rw [HLN.out]; exact hlt
            obtain ⟨b, off, rfl, hra⟩ := st_elem HR.out hip
            obtain ⟨sk, ss, sx, sy, hst, hcase⟩ := good_cases HG.out hip
            rw [hst] at hra
            have HRA := Lib.hid hra
            have hb6 : ∀ o : Obj, Below wr.heap.size wr (wr.alloc o) := fun o => (Below.refl _ _).alloc (Nat.le_refl _) o
            clear hst hra hip
            rcases hcase with ⟨h0, rfl, rfl, rfl⟩ | ⟨h0, rfl, rfl⟩ | ⟨h0, rfl, rfl⟩ | ⟨h0, rfl, rfl, rfl⟩ | ⟨h0, rfl, rfl, rfl⟩
            · subst h0
              rw [show off + 0 * 7 = off by omega] at HRA
              obtain ⟨a0, a1, a2, a3, a4, a5, a6⟩ := range7 (show wr.rangeAt b off [.int .i64 5, .int .u64 0, .int .u64 0, .int .u64 0, .int .u64 0, .int .i64 sx, .int .i64 0] from HRA.out)
              go_wp2
              go_roundw
              case rel => exact ⟨1, by omega, by go_num, HB.out.alloc HB.out.size _, RowAt.mono HR.out (below_cell (hb6 _)), CB.alloc HM.out _⟩
              case measure => simp [intOf]; omega
            · obtain ⟨a0, a1, a2, a3, a4, a5, a6⟩ := range7 (show wr.rangeAt b (off + i * 7) [.int .i64 1, .int .u64 ((ss).a : Nat), .int .u64 ((ss).b : Nat), .int .u64 ((ss).c : Nat), .int .u64 ((ss).d : Nat), .int .i64 sx, .int .i64 0] from HRA.out)
              go_wp2
              go_roundw
              case rel => exact ⟨i + 1, by omega, by go_num, HB.out.alloc HB.out.size _, RowAt.mono HR.out (below_cell (hb6 _)), CB.alloc HM.out _⟩
              case measure => simp [intOf]; omega
            · obtain ⟨a0, a1, a2, a3, a4, a5, a6⟩ := range7 (show wr.rangeAt b (off + i * 7) [.int .i64 2, .int .u64 0, .int .u64 0, .int .u64 0, .int .u64 0, .int .i64 sx, .int .i64 sy] from HRA.out)
              go_wp2
              go_roundw
              case rel => exact ⟨i + 1, by omega, by go_num, HB.out.alloc HB.out.size _, RowAt.mono HR.out (below_cell (hb6 _)), CB.alloc HM.out _⟩
              case measure => simp [intOf]; omega
            · obtain ⟨a0, a1, a2, a3, a4, a5, a6⟩ := range7 (show wr.rangeAt b (off + i * 7) [.int .i64 3, .int .u64 0, .int .u64 0, .int .u64 0, .int .u64 0, .int .i64 sx, .int .i64 0] from HRA.out)
              go_wp2
              go_roundw
              case rel => exact ⟨i + 1, by omega, by go_num, HB.out.alloc HB.out.size _, RowAt.mono HR.out (below_cell (hb6 _)), CB.alloc HM.out _⟩
              case measure => simp [intOf]; omega
            · obtain ⟨a0, a1, a2, a3, a4, a5, a6⟩ := range7 (show wr.rangeAt b (off + i * 7) [.int .i64 4, .int .u64 0, .int .u64 0, .int .u64 0, .int .u64 0, .int .i64 sx, .int .i64 0] from HRA.out)
              go_wp2
              go_roundw
              case rel => exact ⟨i + 1, by omega, by go_num, HB.out.alloc HB.out.size _, RowAt.mono HR.out (below_cell (hb6 _)), CB.alloc HM.out _⟩
              case measure => simp [intOf]; omega
          · obtain rfl : i = N := by omega
            go_wp2_with (go_at_call 14; refine (n_works _).mono ?_; rintro e w6 ⟨rfl, hb6⟩; have HB6 := Lib.hid (HB.out.trans (hb6.mono HB.out.size)); clear hb6)
            go_ret
            exact ⟨rfl, HB6.out⟩
      · have hlow3 := hlow2 rfl
        go_wp2_with (first | (go_at_call 5; refine (HMANY.out _ HB0.out).mono ?_; rintro e w1 ⟨rfl, hb1⟩; have HB1 := Lib.hid (HB0.out.trans (hb1.mono HB0.out.size)); have HC1 := Lib.hid (CB.below HC0.out hb1); obtain ⟨⟨x0, x1, x2, x3, x4, x5, x6, x7⟩, -⟩ := HC1.out.eight; clear hb1) | (go_at_call 7; refine (HSIZE.out _ HB1.out).mono ?_; rintro e w2 ⟨rfl, hb2⟩; have HB2 := Lib.hid (HB1.out.trans (hb2.mono HB1.out.size)); have HC2 := Lib.hid (CB.below HC1.out hb2); obtain ⟨⟨y0, y1, y2, y3, y4, y5, y6, y7⟩, -⟩ := HC2.out.eight; clear hb2) | (go_at_call 8; refine (HMK.out _ HB2.out).mono ?_; rintro e w3 ⟨hb3, ma, mc, rfl, hown3⟩; have hal := (Below.refl w3.heap.size w3).alloc (Nat.le_refl _) (.cells #[.slice ma N mc, .int .i64 (q : Nat)] 35); have HB3 := Lib.hid ((HB2.out.trans (hb3.mono HB2.out.size)).trans (hal.mono (HB2.out.trans (hb3.mono HB2.out.size)).size)); have HR3 := Lib.hid (RowAt.mono (own_rowAt hown3 HLN.out.symm) (below_cell hal)); have HC3 := Lib.hid ((CB.below HC2.out hb3).below hal); have HM3 : Hid (CB (w3.alloc (.cells #[.slice ma N mc, .int .i64 (q : Nat)] 35)) 35 w3.heap.size [.slice ma N mc, .int .i64 (q : Nat)]) := CB.new w3 _ _; clear hb3 hown3 hal) | (go_at_call 15; refine (HCHK.out ma mc _ HR3.out).mono ?_; rintro e w4 ⟨rfl, hb4⟩; have HB4 := Lib.hid (HB3.out.trans (hb4.mono HB3.out.size)); have HR4 := Lib.hid (RowAt.mono HR3.out (below_cell hb4)); have HC4 := Lib.hid (CB.below HC3.out hb4); have HM4 := Lib.hid (CB.below HM3.out hb4); obtain ⟨⟨m0, m1⟩, -⟩ := CB.two HM4.out; obtain ⟨⟨z0, z1, z2, z3, z4, z5, z6, z7⟩, -⟩ := HC4.out.eight; clear hb4) | (go_at_call 16; refine (HLOW.out _ HB4.out).mono ?_; rintro e w5 ⟨rfl, hb5⟩; have HB5 := Lib.hid (HB4.out.trans (hb5.mono HB4.out.size)); have HR5 := Lib.hid (RowAt.mono HR4.out (below_cell hb5)); have HM5 := Lib.hid (CB.below HM4.out hb5); clear hb5))
        clear m0 m1 z0 z1 z2 z3 z4 z5 z6 z7 x0 x1 x2 x3 x4 x5 x6 x7 y0 y1 y2 y3 y4 y5 y6 y7
        go_loopw [8] (fun iv wr => ∃ i : Nat, i ≤ N ∧ iv = .int .i64 (i : Nat) ∧ Hid (Below w.heap.size w wr) ∧ Hid (RowAt wr ma (L.flatMap St.cells)) ∧ Hid (CB wr 35 w3.heap.size [.slice ma N mc, .int .i64 (q : Nat)])) (fun iv _ => N - (intOf iv).toNat)
        case atStart => exact ⟨0, by omega, rfl, HB5.out, HR5.out, HM5.out⟩
        case round =>
          obtain ⟨i, hi, rfl, HB, HR, HM⟩ := hrel
          obtain ⟨⟨m0, m1⟩, -⟩ := CB.two HM.out
          by_cases hlt : i < N
          · have hip : i < L.length := by rw [HLN.out]; exact hlt
            obtain ⟨b, off, rfl, hra⟩ := st_elem HR.out hip
            obtain ⟨sk, ss, sx, sy, hst, hcase⟩ := good_cases HG.out hip
            rw [hst] at hra
            have HRA := Lib.hid hra
            have hb6 : ∀ o : Obj, Below wr.heap.size wr (wr.alloc o) := fun o => (Below.refl _ _).alloc (Nat.le_refl _) o
            clear hst hra hip
            rcases hcase with ⟨h0, rfl, rfl, rfl⟩ | ⟨h0, rfl, rfl⟩ | ⟨h0, rfl, rfl⟩ | ⟨h0, rfl, rfl, rfl⟩ | ⟨h0, rfl, rfl, rfl⟩
            · subst h0
              rw [show off + 0 * 7 = off by omega] at HRA
              obtain ⟨a0, a1, a2, a3, a4, a5, a6⟩ := range7 (show wr.rangeAt b off [.int .i64 5, .int .u64 0, .int .u64 0, .int .u64 0, .int .u64 0, .int .i64 sx, .int .i64 0] from HRA.out)
              go_wp2
              go_roundw
              case rel => exact ⟨1, by omega, by go_num, HB.out.alloc HB.out.size _, RowAt.mono HR.out (below_cell (hb6 _)), CB.alloc HM.out _⟩
              case measure => simp [intOf]; omega
            · obtain ⟨a0, a1, a2, a3, a4, a5, a6⟩ := range7 (show wr.rangeAt b (off + i * 7) [.int .i64 1, .int .u64 ((ss).a : Nat), .int .u64 ((ss).b : Nat), .int .u64 ((ss).c : Nat), .int .u64 ((ss).d : Nat), .int .i64 sx, .int .i64 0] from HRA.out)
              go_wp2
              go_roundw
              case rel => exact ⟨i + 1, by omega, by go_num, HB.out.alloc HB.out.size _, RowAt.mono HR.out (below_cell (hb6 _)), CB.alloc HM.out _⟩
              case measure => simp [intOf]; omega
            · obtain ⟨a0, a1, a2, a3, a4, a5, a6⟩ := range7 (show wr.rangeAt b (off + i * 7) [.int .i64 2, .int .u64 0, .int .u64 0, .int .u64 0, .int .u64 0, .int .i64 sx, .int .i64 sy] from HRA.out)
              go_wp2
              go_roundw
              case rel => exact ⟨i + 1, by omega, by go_num, HB.out.alloc HB.out.size _, RowAt.mono HR.out (below_cell (hb6 _)), CB.alloc HM.out _⟩
              case measure => simp [intOf]; omega
            · obtain ⟨a0, a1, a2, a3, a4, a5, a6⟩ := range7 (show wr.rangeAt b (off + i * 7) [.int .i64 3, .int .u64 0, .int .u64 0, .int .u64 0, .int .u64 0, .int .i64 sx, .int .i64 0] from HRA.out)
              go_wp2
              go_roundw
              case rel => exact ⟨i + 1, by omega, by go_num, HB.out.alloc HB.out.size _, RowAt.mono HR.out (below_cell (hb6 _)), CB.alloc HM.out _⟩
              case measure => simp [intOf]; omega
            · obtain ⟨a0, a1, a2, a3, a4, a5, a6⟩ := range7 (show wr.rangeAt b (off + i * 7) [.int .i64 4, .int .u64 0, .int .u64 0, .int .u64 0, .int .u64 0, .int .i64 sx, .int .i64 0] from HRA.out)
              go_wp2
              go_roundw
              case rel => exact ⟨i + 1, by omega, by go_num, HB.out.alloc HB.out.size _, RowAt.mono HR.out (below_cell (hb6 _)), CB.alloc HM.out _⟩
              case measure => simp [intOf]; omega
          · obtain rfl : i = N := by omega
            go_wp2_with (go_at_call 14; refine (n_works _).mono ?_; rintro e w6 ⟨rfl, hb6⟩; have HB6 := Lib.hid (HB.out.trans (hb6.mono HB.out.size)); clear hb6)
            go_ret
            exact ⟨rfl, HB6.out⟩
    · have hno := size_no (t := T) (by rw [hE]; exact hE0)
      have hmk := fun W (hW : Below w.heap.size w W) => n_Make_no k s m n a len c ps W E hn (hl.below hW) (by rw [hT]; exact hE) hE0
      rw [hE, hno] at hsize
      have HSIZE : Hid (∀ W, Below w.heap.size w W → Calls Try.prog 7 #[nodeVal k s m n (.slice a len c)] W fun e w' => e = .returned (.tuple #[.int .i64 0, .int .i64 E]) ∧ Below W.heap.size W w') := hsize
      have HMK := Lib.hid hmk
      clear hmany hsize hn hl hT hX hno hmk hE hXn
      go_enter Try.func4, Try.ntmps4
      go_wp2_with (first | (go_at_call 5; refine (HMANY.out _ HB0.out).mono ?_; rintro e w1 ⟨rfl, hb1⟩; have HB1 := Lib.hid (HB0.out.trans (hb1.mono HB0.out.size)); have HC1 := Lib.hid (CB.below HC0.out hb1); obtain ⟨⟨x0, x1, x2, x3, x4, x5, x6, x7⟩, -⟩ := HC1.out.eight; clear hb1) | (go_at_call 7; refine (HSIZE.out _ HB1.out).mono ?_; rintro e w2 ⟨rfl, hb2⟩; have HB2 := Lib.hid (HB1.out.trans (hb2.mono HB1.out.size)); have HC2 := Lib.hid (CB.below HC1.out hb2); obtain ⟨⟨y0, y1, y2, y3, y4, y5, y6, y7⟩, -⟩ := HC2.out.eight; clear hb2) | (go_at_call 8; refine (HMK.out _ HB2.out).mono ?_; rintro e w3 ⟨rfl, hb3⟩; have HB3 := Lib.hid (HB2.out.trans (hb3.mono HB2.out.size)); clear hb3) | (go_at_call 14; refine (n_works _).mono ?_; rintro e w4 ⟨rfl, hb4⟩; have HB4 := Lib.hid ((HB3.out.alloc HB3.out.size (.cells #[.slice none 0 0, .int .i64 0] 35)).trans (hb4.mono (by have := HB3.out.size; simp only [World.size_alloc]; omega))); clear hb4))
      go_ret
      exact ⟨rfl, HB4.out⟩
end Go.Proofs.Ytboebadpohjolaa
