import Derived.Test.YtboebadpohjolaaNfE
import Derived.Test.YtboebadpohjolaaNfI
import Derived.Test.YtboebadpohjolaaNfCs
namespace Go.Proofs.Ytboebadpohjolaa
open Go.RowKit

variable {B : Nat}

/-! Make. -/
def doneS : St := ⟨5, .zero, 0, 0⟩
/-- A tree's machine. -/
def mk11 (t : PT) : List St × Nat := layT t 0 [doneS]
theorem good_done : GoodS [doneS] := by
  intro i hi
  have : i = 0 := by simp at hi; omega
  subst this
  simp only [List.getElem_cons_zero]
  exact ⟨by decide, by decide, by decide, by decide, by decide, by decide, by decide, by decide, fun _ => rfl, S4.zero_fit⟩
theorem mk11_laid {t : PT} (h : may t = true) (hs : setsOk t) : (mk11 t).1.length = 1 + cnt t ∧ (mk11 t).2 < (mk11 t).1.length ∧ GoodS (mk11 t).1 :=
  lay_laid t h hs 0 [doneS] (by decide) (by decide) good_done
theorem infoNfa : (Try.prog.info? 35).map (·.size) = some 2 := by kernel_rfl
/-- A machine that was made. -/
def MadeM (t : PT) (w : World) (e : Ending) (w' : World) : Prop :=
  Below w.heap.size w w' ∧ ∃ (a : Option Addr) (c : Nat), e = .returned (.tuple #[.agg #[.slice a (mk11 t).1.length c, .int .i64 ((mk11 t).2 : Nat)], .int .i64 0]) ∧ w'.ownsRow w.heap.size 45 7 (.slice a (mk11 t).1.length c) (mk11 t).1.length ((mk11 t).1.flatMap St.cells)
set_option maxHeartbeats 2000000 in
set_option maxRecDepth 100000 in
theorem n_Make_ok (k : Int) (s : S4) (m n : Int) (a : Option Addr) (len c : Nat) (ps : List NT) (w : World) (hn : (NT.mk k s m n (.slice a len c) ps).num) (hl : (NT.mk k s m n (.slice a len c) ps).Lies w) (h0 : sizeE (NT.mk k s m n (.slice a len c) ps).pt = 0)
    (hlay : ∀ (B lb : Nat) (w0 : World), w0.heap.size ≤ B → (NT.mk k s m n (.slice a len c) ps).Lies w0 → LayOK B lb w0 (.mk k s m n (.slice a len c) ps)) :
    Calls Try.prog 8 #[nodeVal k s m n (.slice a len c)] w fun e w' => MadeM (NT.mk k s m n (.slice a len c) ps).pt w e w' := by
  have hchk : chk (NT.mk k s m n (.slice a len c) ps).pt = 0 ∧ cnt (NT.mk k s m n (.slice a len c) ps).pt + 1 ≤ 4096 := by
    unfold sizeE at h0
    by_cases h1 : chk (NT.mk k s m n (.slice a len c) ps).pt = 0
    · rw [if_pos h1] at h0
      by_cases h2 : cnt (NT.mk k s m n (.slice a len c) ps).pt + 1 ≤ 4096
      · exact ⟨h1, h2⟩
      · rw [if_neg h2] at h0; cases h0
    · rw [if_neg h1] at h0; exact absurd h0 h1
  have hsn : sizeN (NT.mk k s m n (.slice a len c) ps).pt = cnt (NT.mk k s m n (.slice a len c) ps).pt + 1 := by unfold sizeN; rw [if_pos hchk.1, if_pos hchk.2]
  have hsize := fun W (hW : Below w.heap.size w W) => p_Size (NT.mk k s m n (.slice a len c) ps) W hn (hl.below hW)
  rw [h0, hsn] at hsize
  have hlays := fun B lb W (hW : Below w.heap.size w W) (hB : W.heap.size ≤ B) => hlay B lb W hB (hl.below hW)
  unfold LayOK at hlays
  unfold MadeM mk11
  obtain ⟨T, hT⟩ : ∃ T, (NT.mk k s m n (.slice a len c) ps).pt = T := ⟨_, rfl⟩
  rw [hT] at hsize hlays hchk ⊢
  obtain ⟨Z, hZ⟩ : ∃ Z, cnt T = Z := ⟨_, rfl⟩
  rw [hZ] at hsize hlays hchk
  obtain ⟨L, hL⟩ : ∃ L, (layT T 0 [doneS]).1 = L := ⟨_, rfl⟩
  obtain ⟨q, hq⟩ : ∃ q, (layT T 0 [doneS]).2 = q := ⟨_, rfl⟩
  have HLAY : Hid (∀ (B lb : Nat) (W0 : World), Below w.heap.size w W0 → W0.heap.size ≤ B → ∀ (v : Value) (W : World), LC B W lb [doneS] v → Below W0.heap.size W0 W → Calls Try.prog 21 #[.pointer (some ⟨lb, 0, none⟩), nodeVal k s m n (.slice a len c), .int .i64 0] W fun e w' => LRet B lb v L q W e w') := fun B lb W0 h1 h2 v W h3 h4 => by
    have h9 := hlays B lb W0 h1 h2 [doneS] 0 v W h3 h4 (by decide) (by decide) good_done (by show 1 + Z ≤ _; omega)
    rw [hL, hq] at h9
    exact h9
  have HSIZE : Hid (∀ W, Below w.heap.size w W → Calls Try.prog 7 #[nodeVal k s m n (.slice a len c)] W fun e w' => e = .returned (.tuple #[.int .i64 ((Z + 1 : Nat) : Int), .int .i64 0]) ∧ Below W.heap.size W w') := hsize
  rw [hL, hq]
  have hz : Z + 1 ≤ 4096 := hchk.2
  obtain ⟨Z1, hZ1⟩ : ∃ Z1, Z + 1 = Z1 := ⟨_, rfl⟩
  rw [hZ1] at HSIZE hz
  clear hsize hlays hchk hL hq hT hZ hn hl h0 hlay hsn hZ1
  have HB1 : Hid (Below w.heap.size w ((w.alloc (.cells #[.int .i64 k, .int .u64 (s.a : Nat), .int .u64 (s.b : Nat), .int .u64 (s.c : Nat), .int .u64 (s.d : Nat), .int .i64 m, .int .i64 n, .slice a len c] 27)).alloc (.cells #[.slice none 0 0, .int .i64 0] 35))) := ((Below.refl _ _).alloc (Nat.le_refl _) _).alloc (by go_size) _
  have HC1 : Hid (CB ((w.alloc (.cells #[.int .i64 k, .int .u64 (s.a : Nat), .int .u64 (s.b : Nat), .int .u64 (s.c : Nat), .int .u64 (s.d : Nat), .int .i64 m, .int .i64 n, .slice a len c] 27)).alloc (.cells #[.slice none 0 0, .int .i64 0] 35)) 27 w.heap.size (nodeCells k s m n (.slice a len c))) := CB.alloc (CB.new w _ _) _
  have HR1 : Hid (CB ((w.alloc (.cells #[.int .i64 k, .int .u64 (s.a : Nat), .int .u64 (s.b : Nat), .int .u64 (s.c : Nat), .int .u64 (s.d : Nat), .int .i64 m, .int .i64 n, .slice a len c] 27)).alloc (.cells #[.slice none 0 0, .int .i64 0] 35)) 35 (w.heap.size + 1) [.slice none 0 0, .int .i64 0]) := cb2 w _ _ _
  go_enter Try.func8, Try.ntmps8
  go_wp2_with (first
    | (go_at_call 21; refine (HLAY.out w2.heap.size lb w2 HB2.out (Nat.le_refl _) v4 _ HS4.out.at_ HB4.out).mono ?_; rintro e w5 ⟨rfl, v5, hS5⟩; obtain ⟨la, lc, rfl⟩ := own_slice hS5.at_.row; obtain ⟨⟨z0, -⟩, -⟩ := hS5.at_.cells; have HR5 := Lib.hid (hS5.box HR4.out HNE.out.1 (fun e => (by have h9 := World.ownsRow.lt HS4.out.at_.row _ e; have h8 := HNE.out.2; omega))); obtain ⟨⟨r0, r1⟩, rf0, rf1⟩ := CB.two HR5.out; have HB5 := Lib.hid (hS5.from0 HS4.out.at_ HB4.out (Nat.le_refl _)); have HO5 := Lib.hid hS5.at_.row; clear hS5)
    | (go_at_call 20; refine (p_add lb [] v3 _ 5 .zero 0 0 HL3.out (by decide)).mono ?_; rintro e w4 ⟨rfl, v4, hS4⟩; have HR4 := Lib.hid (hS4.box HR3.out HNE.out.1 (fun e => (by have h9 := World.ownsRow.lt HL3.out.row _ e; have h8 := HNE.out.2; omega))); have HC4 := Lib.hid (hS4.box HC3.out HNF.out.1 (fun e => (by have h9 := World.ownsRow.lt HL3.out.row _ e; have h8 := HNF.out.2; omega))); obtain ⟨⟨y0, y1, y2, y3, y4, y5, y6, y7⟩, -⟩ := HC4.out.eight; have HB4 := Lib.hid (hS4.from0 HL3.out HB3.out (Nat.le_refl _)); have HS4 := Lib.hid hS4; clear hS4)
    | (go_at_call 19; refine (n_newLayout Z1 _ hz).mono ?_; rintro e w3 ⟨hb3, lb, v3, rfl, hL3⟩; have HC3 := Lib.hid (CB.below HC2.out hb3); have HR3 := Lib.hid (CB.below HR2.out hb3); have HNE : Hid (w.heap.size + 1 ≠ lb ∧ w.heap.size + 1 < w2.heap.size) := (by have h8 := CB.lt HR2.out; have h9 := hL3.base; exact ⟨by omega, by omega⟩); have HNF : Hid (w.heap.size ≠ lb ∧ w.heap.size < w2.heap.size) := (by have h8 := CB.lt HR2.out; have h9 := hL3.base; exact ⟨by omega, by omega⟩); have HB3 := Lib.hid hb3; have HL3 := Lib.hid hL3; clear hb3 hL3)
    | (go_at_call 7; refine (HSIZE.out _ HB1.out).mono ?_; rintro e w2 ⟨rfl, hb2⟩; have HB2 := Lib.hid (HB1.out.trans (hb2.mono HB1.out.size)); have HC2 := Lib.hid (CB.below HC1.out hb2); have HR2 := Lib.hid (CB.below HR1.out hb2); clear hb2))
  have hz9 := CB.set2 HR5.out (.slice la L.length lc) (.int .i64 (q : Nat))
  refine bodyPost_ret (results_cbT rfl rfl rfl hz9 Try.underlying35 infoNfa) rfl ⟨?_, la, lc, rfl, ?_⟩
  · exact ((HB2.out.trans (HB5.out.mono HB2.out.size)).setCell (p := ⟨w.heap.size + 1, 0, none⟩) (Nat.le_succ _) _).setCell (p := ⟨w.heap.size + 1, 1, none⟩) (Nat.le_succ _) _
  · have hch : Chg (fun k => k = w.heap.size + 1) w5 ((w5.setCell ⟨w.heap.size + 1, 0, none⟩ (.slice la L.length lc)).setCell ⟨w.heap.size + 1, 1, none⟩ (.int .i64 (q : Nat))) := Chg.setCell (S := fun k => k = w.heap.size + 1) (Chg.setCell (S := fun k => k = w.heap.size + 1) (Chg.refl _ w5) (p := ⟨w.heap.size + 1, 0, none⟩) rfl _) (p := ⟨w.heap.size + 1, 1, none⟩) rfl _
    exact hch.ownsS (ownsS_base HO5.out HB2.out.size) fun k hk e => (by have h9 := World.ownsRow.lt HO5.out k hk; have h8 := HNE.out.2; omega)
end Go.Proofs.Ytboebadpohjolaa
