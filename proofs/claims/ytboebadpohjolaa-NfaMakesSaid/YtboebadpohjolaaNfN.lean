import Derived.Test.YtboebadpohjolaaNfH
import Derived.Test.YtboebadpohjolaaNfJ
import Derived.Test.YtboebadpohjolaaNfM
namespace Go.Proofs.Ytboebadpohjolaa
open Go.RowKit

/-! Make refused; the law's own works. -/
set_option maxHeartbeats 1000000 in
set_option maxRecDepth 100000 in
theorem n_Make_no (k : Int) (s : S4) (m n : Int) (a : Option Addr) (len c : Nat) (ps : List NT) (w : World) (E : Int) (hn : (NT.mk k s m n (.slice a len c) ps).num) (hl : (NT.mk k s m n (.slice a len c) ps).Lies w) (h0 : sizeE (NT.mk k s m n (.slice a len c) ps).pt = E) (hE : E ≠ 0) :
    Calls Try.prog 8 #[nodeVal k s m n (.slice a len c)] w fun e w' => e = .returned (.tuple #[.agg #[.slice none 0 0, .int .i64 0], .int .i64 E]) ∧ Below w.heap.size w w' := by
  have hsize := fun W (hW : Below w.heap.size w W) => p_Size (NT.mk k s m n (.slice a len c) ps) W hn (hl.below hW)
  rw [h0] at hsize
  obtain ⟨Z, hZ⟩ : ∃ Z, sizeN (NT.mk k s m n (.slice a len c) ps).pt = Z := ⟨_, rfl⟩
  rw [hZ] at hsize
  have HSIZE : Hid (∀ W, Below w.heap.size w W → Calls Try.prog 7 #[nodeVal k s m n (.slice a len c)] W fun e w' => e = .returned (.tuple #[.int .i64 ((Z : Nat) : Int), .int .i64 E]) ∧ Below W.heap.size W w') := hsize
  have hne : (E != 0) = true := by simpa using hE
  clear hsize hZ hn hl h0
  have HB1 : Hid (Below w.heap.size w ((w.alloc (.cells #[.int .i64 k, .int .u64 (s.a : Nat), .int .u64 (s.b : Nat), .int .u64 (s.c : Nat), .int .u64 (s.d : Nat), .int .i64 m, .int .i64 n, .slice a len c] 27)).alloc (.cells #[.slice none 0 0, .int .i64 0] 35))) := ((Below.refl _ _).alloc (Nat.le_refl _) _).alloc (by go_size) _
  have HR1 : Hid (CB ((w.alloc (.cells #[.int .i64 k, .int .u64 (s.a : Nat), .int .u64 (s.b : Nat), .int .u64 (s.c : Nat), .int .u64 (s.d : Nat), .int .i64 m, .int .i64 n, .slice a len c] 27)).alloc (.cells #[.slice none 0 0, .int .i64 0] 35)) 35 (w.heap.size + 1) [.slice none 0 0, .int .i64 0]) := cb2 w _ _ _
  go_enter Try.func8, Try.ntmps8
  go_wp2_with (go_at_call 7; refine (HSIZE.out _ HB1.out).mono ?_; rintro e w2 ⟨rfl, hb2⟩; have HB2 := Lib.hid (HB1.out.trans (hb2.mono HB1.out.size)); have HR2 := Lib.hid (CB.below HR1.out hb2); obtain ⟨⟨r0, r1⟩, rf0, rf1⟩ := CB.two HR2.out; clear hb2)
  have hz9 := CB.set2 HR2.out (.slice none 0 0) (.int .i64 0)
  refine bodyPost_ret (results_cbT rfl rfl rfl hz9 Try.underlying35 infoNfa) rfl ⟨rfl, ?_⟩
  exact (HB2.out.setCell (p := ⟨w.heap.size + 1, 0, none⟩) (Nat.le_succ _) _).setCell (p := ⟨w.heap.size + 1, 1, none⟩) (Nat.le_succ _) _
def S0 : S4 := ⟨0, 2, 0, 0⟩
def aN : NT := .mk 1 S0 0 0 (.slice none 0 0) []
def repNT (g : Nat) : NT := .mk 6 .zero 1 2 (.slice (some ⟨g, 0, none⟩) 1 1) [aN]
def workT11 : PT := .mk 6 .zero 1 2 [.mk 1 S0 0 0 []]
def workL : List St := [doneS, ⟨1, S0, 0, 0⟩, ⟨2, .zero, 1, 0⟩, ⟨1, S0, 2, 0⟩]
theorem repNT_pt (g : Nat) : (repNT g).pt = workT11 := by unfold repNT aN workT11; rw [NT.pt_mk, List.map_cons, NT.pt_mk]; rfl
theorem work_mk : mk11 workT11 = (workL, 3) := by kernel_rfl
theorem work_size : sizeE workT11 = 0 := by kernel_rfl
theorem work_chk : chkM workL 3 = 0 := by kernel_rfl
theorem none_chk : chkM [] 0 = 110 := by kernel_rfl
theorem nine_size : sizeE (leafN 9 .zero).pt = 107 := by rw [leafN_pt]; kernel_rfl
theorem aN_num : aN.num := by
  unfold aN
  rw [NT.num_mk]
  exact ⟨by unfold In64; omega, by unfold In64; omega, by unfold In64; omega, by unfold S4.fit S0; decide, fun t ht => (by cases ht)⟩
theorem repNT_num (g : Nat) : (repNT g).num := by
  unfold repNT
  rw [NT.num_mk]
  exact ⟨by unfold In64; omega, by unfold In64; omega, by unfold In64; omega, S4.zero_fit, fun t ht => by rw [List.mem_singleton.1 ht]; exact aN_num⟩
theorem nine_num : (leafN 9 .zero).num := by
  unfold leafN
  rw [NT.num_mk]
  exact ⟨by unfold In64; omega, by unfold In64; omega, by unfold In64; omega, S4.zero_fit, fun t ht => (by cases ht)⟩
theorem aN_lies (w : World) : aN.Lies w := NT.Lies_mk.2 ⟨⟨none, 0, rfl, .inl rfl⟩, fun t ht => (by cases ht)⟩
theorem repNT_lies {w : World} {g : Nat} (h : CB w 27 g aN.cells) : (repNT g).Lies w :=
  NT.Lies_mk.2 ⟨⟨some ⟨g, 0, none⟩, 1, rfl, .inr ⟨g, 0, rfl, by rw [List.flatMap_cons, List.flatMap_nil, List.append_nil]; exact h.range0⟩⟩, fun t ht => by rw [List.mem_singleton.1 ht]; exact aN_lies w⟩
theorem layRep11 (B lb : Nat) (w0 : World) (g : Nat) (hw0 : w0.heap.size ≤ B) (hl : (repNT g).Lies w0) : LayOK B lb w0 (repNT g) := by
  unfold repNT at hl
  obtain ⟨⟨a', c', e, hrow⟩, _⟩ := NT.Lies_mk.1 hl
  injection e with e1 e2 e3
  subst e1
  obtain ⟨b, off, e4, hra⟩ := RowAt.elem (i := 0) hrow (by decide)
  injection e4 with e4
  injection e4 with e5 e6
  subst e5 e6
  exact n_layRepB lb w0 1 S0 0 0 none 0 0 [] (p_laySet lb w0 S0 0 0 _ [] ⟨_, _, _, rfl⟩) (lay_laid _ (by kernel_rfl) (by rw [NT.pt_mk, setsOk]; exact ⟨by unfold S4.fit S0; decide, trivial⟩)) hw0 g 0 1 hra .zero 1 2 1 (by decide) (by decide)
set_option maxHeartbeats 2000000 in
set_option maxRecDepth 100000 in
theorem n_works (w : World) : Calls Try.prog 14 #[] w fun e w' => e = .returned (.bool true) ∧ Below w.heap.size w w' := by
  have HW1 : Hid (Below w.heap.size w ((w.alloc (.cells #[.int .i64 1, .int .u64 0, .int .u64 2, .int .u64 0, .int .u64 0, .int .i64 0, .int .i64 0, .slice none 0 0] 27)).alloc (.cells #[.int .i64 1, .int .u64 0, .int .u64 2, .int .u64 0, .int .u64 0, .int .i64 0, .int .i64 0, .slice none 0 0] 27))) := ((Below.refl _ _).alloc (Nat.le_refl _) _).alloc (by go_size) _
  have HC1 : Hid (CB ((w.alloc (.cells #[.int .i64 1, .int .u64 0, .int .u64 2, .int .u64 0, .int .u64 0, .int .i64 0, .int .i64 0, .slice none 0 0] 27)).alloc (.cells #[.int .i64 1, .int .u64 0, .int .u64 2, .int .u64 0, .int .u64 0, .int .i64 0, .int .i64 0, .slice none 0 0] 27)) 27 (w.heap.size + 1) aN.cells) := cb2 w _ _ _
  have HMARK : Hid True := trivial
  have HMARK2 : Hid True := trivial
  go_enter Try.func14, Try.ntmps14
  go_wp2_with (first
    | (go_at_call 8; clear HMARK; refine (n_Make_ok 6 .zero 1 2 (some ⟨w.heap.size + 1, 0, none⟩) 1 1 [aN] _ (repNT_num _) (repNT_lies HC1.out) (by rw [show (NT.mk 6 .zero 1 2 (.slice (some ⟨w.heap.size + 1, 0, none⟩) 1 1) [aN]).pt = workT11 from repNT_pt _]; exact work_size) (fun B lb w0 h1 h2 => layRep11 B lb w0 _ h1 h2)).mono ?_; rintro e w2 hm; rw [show (NT.mk 6 .zero 1 2 (.slice (some ⟨w.heap.size + 1, 0, none⟩) 1 1) [aN]).pt = workT11 from repNT_pt _] at hm; unfold MadeM at hm; rw [work_mk] at hm; obtain ⟨hb2, ma, mc, rfl, hown2⟩ := hm; have HB2 := Lib.hid (HW1.out.trans (hb2.mono HW1.out.size)); have HR2 := Lib.hid (own_rowAt hown2 rfl); clear hb2 hown2)
    | (go_at_call 8; have HB3 : Hid (Below w.heap.size w ((w2.alloc (.cells #[.slice ma workL.length mc, .int .i64 3] 35)).alloc (.cells (workL.flatMap St.cells).toArray 45))) := (HB2.out.alloc HB2.out.size _).alloc (by have h9 := HB2.out.size; simp only [World.size_alloc]; omega) _; have HWA : Hid (RowAt ((w2.alloc (.cells #[.slice ma workL.length mc, .int .i64 3] 35)).alloc (.cells (workL.flatMap St.cells).toArray 45)) (some ⟨w2.heap.size + 1, 0, none⟩) (workL.flatMap St.cells)) := .inr ⟨_, 0, rfl, (cb2 w2 _ 45 (workL.flatMap St.cells)).range0⟩; have HR3 : Hid (RowAt ((w2.alloc (.cells #[.slice ma workL.length mc, .int .i64 3] 35)).alloc (.cells (workL.flatMap St.cells).toArray 45)) ma (workL.flatMap St.cells)) := RowAt.mono HR2.out (below_cell (((Below.refl _ _).alloc (Nat.le_refl _) _).alloc (by go_size) _)); have HM3 : Hid (CB ((w2.alloc (.cells #[.slice ma workL.length mc, .int .i64 3] 35)).alloc (.cells (workL.flatMap St.cells).toArray 45)) 35 w2.heap.size [.slice ma workL.length mc, .int .i64 3]) := CB.alloc (CB.new w2 _ _) _; refine (n_Make_no 9 .zero 0 0 none 0 0 [] _ 107 nine_num (NT.Own.lies _ (leafN_own 9 .zero _ 0)) nine_size (by decide)).mono ?_; rintro e w4 ⟨rfl, hb4⟩; have hb5 := hb4.alloc hb4.size (.cells #[.slice none 0 0, .int .i64 0] 35); have HB4 := Lib.hid (HB3.out.trans (hb5.mono HB3.out.size)); have HWA4 := Lib.hid (RowAt.mono HWA.out (below_cell hb5)); have HR4 := Lib.hid (RowAt.mono HR3.out (below_cell hb5)); have HM4 := Lib.hid (CB.below HM3.out hb5); obtain ⟨⟨m0, m1⟩, -⟩ := CB.two HM4.out; clear hb4 hb5)
    | (go_at_call 11; refine (p_sameNfa workL ma (some ⟨w2.heap.size + 1, 0, none⟩) mc 4 3 _ (by decide) HR4.out HWA4.out).mono ?_; rintro e w5 ⟨rfl, hb5⟩; have HB5 := Lib.hid (HB4.out.trans (hb5.mono HB4.out.size)); have HR5 := Lib.hid (RowAt.mono HR4.out (below_cell hb5)); have HM5 := Lib.hid (CB.below HM4.out hb5); obtain ⟨⟨n0, n1⟩, -⟩ := CB.two HM5.out; clear hb5)
    | (go_at_call 15; clear HMARK2; refine (n_checkM workL ma mc 3 _ (by decide) HR5.out).mono ?_; rintro e w6 ⟨rfl, hb6⟩; rw [work_chk]; have HB6 := Lib.hid (HB5.out.trans (hb6.mono HB5.out.size)); clear hb6)
    | (go_at_call 15; refine (n_checkM [] none 0 0 _ (by decide) (.inl rfl)).mono ?_; rintro e w7 ⟨rfl, hb7⟩; rw [none_chk]; have HB7 := Lib.hid (HB6.out.trans (hb7.mono HB6.out.size)); clear hb7))
  go_ret
  exact ⟨rfl, HB7.out⟩
end Go.Proofs.Ytboebadpohjolaa
