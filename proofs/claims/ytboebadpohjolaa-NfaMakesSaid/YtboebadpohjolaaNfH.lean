import Derived.Test.YtboebadpohjolaaNfG
namespace Go.Proofs.Ytboebadpohjolaa
open Go.RowKit

variable {B : Nat}

/-! A repeat laid; the layout made; Make. -/
set_option maxHeartbeats 2000000 in
set_option maxRecDepth 100000 in
theorem n_repeatB (lb : Nat) (w0 : World) (k : Int) (s : S4) (m n : Int) (a : Option Addr) (len c : Nat) (ps : List NT) (hok : LayOK B lb w0 (.mk k s m n (.slice a len c) ps)) (hlaid : Laid (layT (NT.mk k s m n (.slice a len c) ps).pt) (cnt (NT.mk k s m n (.slice a len c) ps).pt)) (hw0 : w0.heap.size ≤ B)
    (b off bc : Nat) (hra : w0.rangeAt b off (nodeCells k s m n (.slice a len c))) (S : S4) (M N A : Nat) (hN : N ≤ 255) (hA : N = M + A)
    (L : List St) (q : Nat) (v : Value) (w : World) (h : LC B w lb L v) (hb : Below w0.heap.size w0 w) (hi : LI L q) (hlen : L.length + (A * (cnt (NT.mk k s m n (.slice a len c) ps).pt + 1) + M * cnt (NT.mk k s m n (.slice a len c) ps).pt) ≤ 1048576) :
    Calls Try.prog 43 #[.pointer (some ⟨lb, 0, none⟩), nodeVal 6 S (M : Nat) (N : Nat) (.slice (some ⟨b, off, none⟩) 1 bc), .int .i64 (q : Nat)] w fun e w' =>
      LRet B lb v (repF (layT (NT.mk k s m n (.slice a len c) ps).pt) (M : Nat) (N : Nat) q L).1 (repF (layT (NT.mk k s m n (.slice a len c) ps).pt) (M : Nat) (N : Nat) q L).2 w e w' := by
  have hrep : repF (layT (NT.mk k s m n (.slice a len c) ps).pt) (M : Nat) (N : Nat) q L = timesF (layT (NT.mk k s m n (.slice a len c) ps).pt) M (perhF (layT (NT.mk k s m n (.slice a len c) ps).pt) q A L q).1 (perhF (layT (NT.mk k s m n (.slice a len c) ps).pt) q A L q).2 := by
    unfold repF
    rw [if_neg (by omega), show ((N : Int) - (M : Int)).toNat = A by omega, Int.toNat_natCast]
  rw [hrep]
  obtain ⟨g1, g2, g3⟩ := perh_laid hlaid q A L q hi.1 hi.2.1 hi.2.1 hi.2.2
  have hperh := fun W hW hB => n_perhaps lb w0 k s m n a len c ps hok hlaid hw0 A L q v W hW hB hi (by omega) (by omega)
  have htimes := fun P p u W hW hB hI hl => n_times lb w0 k s m n a len c ps hok hlaid hw0 M P p u W hW hB hI (by omega) hl
  obtain ⟨f, hf⟩ : ∃ f, layT (NT.mk k s m n (.slice a len c) ps).pt = f := ⟨_, rfl⟩
  obtain ⟨C, hC⟩ : ∃ C, cnt (NT.mk k s m n (.slice a len c) ps).pt = C := ⟨_, rfl⟩
  rw [hf] at g1 g2 g3 hperh htimes ⊢
  rw [hC] at g1 htimes hlen
  obtain ⟨P, hP⟩ : ∃ P, (perhF f q A L q).1 = P := ⟨_, rfl⟩
  obtain ⟨p, hp⟩ : ∃ p, (perhF f q A L q).2 = p := ⟨_, rfl⟩
  rw [hP] at g1 g2 g3 hperh ⊢
  rw [hp] at g2 hperh ⊢
  have HPERH : Hid (∀ W, LC B W lb L v → Below w0.heap.size w0 W → Calls Try.prog 49 #[.pointer (some ⟨lb, 0, none⟩), nodeVal k s m n (.slice a len c), .int .i64 (A : Nat), .int .i64 (q : Nat)] W fun e w' => LRet B lb v P p W e w') := hperh
  have HT : Hid (∀ u W, LC B W lb P u → Below w0.heap.size w0 W → Calls Try.prog 50 #[.pointer (some ⟨lb, 0, none⟩), nodeVal k s m n (.slice a len c), .int .i64 (M : Nat), .int .i64 (p : Nat)] W fun e w' => LRet B lb u (timesF f M P p).1 (timesF f M P p).2 W e w') := fun u W hW hB => htimes P p u W hW hB ⟨by have := hi.1; omega, g2, g3⟩ (by omega)
  have HRA : Hid (∀ W, Below w0.heap.size w0 W → W.rangeAt b off (nodeCells k s m n (.slice a len c))) := fun W hW => rangeAt_below hra hW
  have hAi : ((N : Int) - (M : Int)) = (A : Int) := by omega
  have hNi : ¬ ((N : Int) = -1) := by omega
  have HH := Lib.hid h
  have hlt := h.lt
  have HB := Lib.hid hb
  have hbase := h.base
  have hne1 : w.heap.size ≠ lb := by omega
  have hne2 : v.ownBlock ≠ some w.heap.size := fun e => absurd (World.ownsRow.lt h.row _ e).2 (by omega)
  have hne3 : w.heap.size + 1 ≠ lb := by omega
  have hne4 : v.ownBlock ≠ some (w.heap.size + 1) := fun e => absurd (World.ownsRow.lt h.row _ e).2 (by omega)
  obtain ⟨O1, hO1⟩ : ∃ O1, Obj.cells #[.int .i64 6, .int .u64 (S.a : Nat), .int .u64 (S.b : Nat), .int .u64 (S.c : Nat), .int .u64 (S.d : Nat), .int .i64 ((M : Nat) : Int), .int .i64 ((N : Nat) : Int), .slice (some ⟨b, off, none⟩) 1 bc] 27 = O1 := ⟨_, rfl⟩
  have HSa := Lib.hid ((LS.refl h).alloc (.cells #[.int .i64 6, .int .u64 (S.a : Nat), .int .u64 (S.b : Nat), .int .u64 (S.c : Nat), .int .u64 (S.d : Nat), .int .i64 ((M : Nat) : Int), .int .i64 ((N : Nat) : Int), .slice (some ⟨b, off, none⟩) 1 bc] 27))
  have HBa := Lib.hid (HSa.out.from0 h hb hw0)
  have HS := Lib.hid (HSa.out.alloc (.cells #[.int .i64 k, .int .u64 (s.a : Nat), .int .u64 (s.b : Nat), .int .u64 (s.c : Nat), .int .u64 (s.d : Nat), .int .i64 m, .int .i64 n, .slice a len c] 27))
  have HSA := Lib.hid (LS.refl HS.out.at_)
  have HBs := Lib.hid (HS.out.from0 h hb hw0)
  have HCn : Hid (CB ((w.alloc (.cells #[.int .i64 6, .int .u64 (S.a : Nat), .int .u64 (S.b : Nat), .int .u64 (S.c : Nat), .int .u64 (S.d : Nat), .int .i64 ((M : Nat) : Int), .int .i64 ((N : Nat) : Int), .slice (some ⟨b, off, none⟩) 1 bc] 27)).alloc (.cells #[.int .i64 k, .int .u64 (s.a : Nat), .int .u64 (s.b : Nat), .int .u64 (s.c : Nat), .int .u64 (s.d : Nat), .int .i64 m, .int .i64 n, .slice a len c] 27)) 27 w.heap.size (nodeCells 6 S (M : Nat) (N : Nat) (.slice (some ⟨b, off, none⟩) 1 bc))) := CB.alloc (CB.new w _ _) _
  have HCp : Hid (CB ((w.alloc (.cells #[.int .i64 6, .int .u64 (S.a : Nat), .int .u64 (S.b : Nat), .int .u64 (S.c : Nat), .int .u64 (S.d : Nat), .int .i64 ((M : Nat) : Int), .int .i64 ((N : Nat) : Int), .slice (some ⟨b, off, none⟩) 1 bc] 27)).alloc (.cells #[.int .i64 k, .int .u64 (s.a : Nat), .int .u64 (s.b : Nat), .int .u64 (s.c : Nat), .int .u64 (s.d : Nat), .int .i64 m, .int .i64 n, .slice a len c] 27)) 27 (w.heap.size + 1) (nodeCells k s m n (.slice a len c))) := cb2 w _ _ _
  clear h hb hi hlen hperh htimes hf hC hP hp g1 g2 g3 hrep hok hlaid hra hO1 hA
  go_enter Try.func43, Try.ntmps43
  go_wp2_with (first | (refine wpl_loadN (.tmp 10) rfl rfl (g := b) (off := off) (k := k) (s := s) (m := m) (n := n) (p := .slice a len c) ?_ ?_ ?_; rfl; exact HRA.out _ HBa.out) | (go_at_call 49; refine (HPERH.out _ HS.out.at_ HBs.out).mono ?_; rintro e w2 ⟨rfl, v2, hS2⟩; obtain ⟨⟨x0, x1, x2, x3, x4, x5, x6, x7⟩, -⟩ := (hS2.box HCn.out hne1 hne2).eight; obtain ⟨⟨y0, y1, y2, y3, y4, y5, y6, y7⟩, -⟩ := (hS2.box HCp.out hne3 hne4).eight; have HS2 := Lib.hid (HS.out.trans hS2); clear hS2) | (go_at_call 50; refine (HT.out v2 _ HS2.out.at_ (HS2.out.from0 HH.out HB.out hw0)).mono ?_; rintro e w3 ⟨rfl, v3, hS3⟩; have HS3 := Lib.hid (HS2.out.trans hS3); clear hS3))
  go_ret
  exact ⟨rfl, _, HS3.out⟩
set_option maxHeartbeats 1000000 in
set_option maxRecDepth 100000 in
theorem n_layRepB (lb : Nat) (w0 : World) (k : Int) (s : S4) (m n : Int) (a : Option Addr) (len c : Nat) (ps : List NT) (hok : LayOK B lb w0 (.mk k s m n (.slice a len c) ps)) (hlaid : Laid (layT (NT.mk k s m n (.slice a len c) ps).pt) (cnt (NT.mk k s m n (.slice a len c) ps).pt)) (hw0 : w0.heap.size ≤ B)
    (b off bc : Nat) (hra : w0.rangeAt b off (nodeCells k s m n (.slice a len c))) (S : S4) (M N A : Nat) (hN : N ≤ 255) (hA : N = M + A) : LayOK B lb w0 (.mk 6 S (M : Nat) (N : Nat) (.slice (some ⟨b, off, none⟩) 1 bc) [.mk k s m n (.slice a len c) ps]) := by
  intro L q v w h hb h0 hq hg hlen
  have e1 : layT (NT.mk 6 S (M : Nat) (N : Nat) (.slice (some ⟨b, off, none⟩) 1 bc) [.mk k s m n (.slice a len c) ps]).pt q L = repF (layT (NT.mk k s m n (.slice a len c) ps).pt) (M : Nat) (N : Nat) q L := by rw [NT.pt_mk, layT_eq]; simp [layRep]
  have e2 : cnt (NT.mk 6 S (M : Nat) (N : Nat) (.slice (some ⟨b, off, none⟩) 1 bc) [.mk k s m n (.slice a len c) ps]).pt = A * (cnt (NT.mk k s m n (.slice a len c) ps).pt + 1) + M * cnt (NT.mk k s m n (.slice a len c) ps).pt := by
    rw [NT.pt_mk, cnt]
    have : again (M : Nat) (N : Nat) = A := by unfold again; rw [if_neg (by omega)]; omega
    simp [cntR, this]
  rw [e1]
  rw [e2] at hlen
  have hcall := fun W hW hB => n_repeatB lb w0 k s m n a len c ps hok hlaid hw0 b off bc hra S M N A hN hA L q v W hW hB ⟨h0, hq, hg⟩ hlen
  obtain ⟨R, hR⟩ : ∃ R, repF (layT (NT.mk k s m n (.slice a len c) ps).pt) (M : Nat) (N : Nat) q L = R := ⟨_, rfl⟩
  rw [hR] at hcall ⊢
  have HCALL := Lib.hid hcall
  show Calls Try.prog 21 #[.pointer (some ⟨lb, 0, none⟩), nodeVal 6 S (M : Nat) (N : Nat) (.slice (some ⟨b, off, none⟩) 1 bc), .int .i64 (q : Nat)] w _
  have HS := Lib.hid ((LS.refl h).alloc (.cells #[.int .i64 6, .int .u64 (S.a : Nat), .int .u64 (S.b : Nat), .int .u64 (S.c : Nat), .int .u64 (S.d : Nat), .int .i64 ((M : Nat) : Int), .int .i64 ((N : Nat) : Int), .slice (some ⟨b, off, none⟩) 1 bc] 27))
  have HSD := Lib.hid (HS.out.below ((Below.refl _ _).drew))
  have HBD := Lib.hid (HSD.out.from0 h hb hw0)
  obtain ⟨⟨c0, c1, c2, c3, c4, c5, c6, c7⟩, f0⟩ := HS.out.at_.cells
  clear h hb hg e1 e2 hcall hR hok hlaid hra hlen hA
  go_enter Try.func21, Try.ntmps21
  go_wp2
  go_region_with (go_at_call 43; refine (HCALL.out _ HSD.out.at_ HBD.out).mono ?_; rintro e w2 ⟨rfl, v2, hS2⟩; have HS2 := Lib.hid (HSD.out.trans hS2); clear hS2)
  all_goals
    go_wp2
    go_ret
    exact ⟨rfl, _, HS2.out⟩
end Go.Proofs.Ytboebadpohjolaa
