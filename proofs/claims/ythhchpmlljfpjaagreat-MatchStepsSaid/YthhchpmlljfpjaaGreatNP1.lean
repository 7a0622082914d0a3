import Derived.Test.YthhchpmlljfpjaaGreatNfD
namespace Go.Proofs.YthhchpmlljfpjaaGreat
open Go.RowKit

section
variable {B : Nat}

/-! How a set is laid, and a part so many times. -/
theorem CB.set7 {w : World} {t : TypeId} {g : Nat} {v0 v1 v2 v3 v4 v5 v6 : Value} (h : CB w t g [v0, v1, v2, v3, v4, v5, v6]) (a b c d e f x : Value) :
    CB (((((((w.setCell ⟨g, 0, none⟩ a).setCell ⟨g, 1, none⟩ b).setCell ⟨g, 2, none⟩ c).setCell ⟨g, 3, none⟩ d).setCell ⟨g, 4, none⟩ e).setCell ⟨g, 5, none⟩ f).setCell ⟨g, 6, none⟩ x) t g [a, b, c, d, e, f, x] :=
  ((((((h.set 0 a).set 1 b).set 2 c).set 3 d).set 4 e).set 5 f).set 6 x
theorem CB.seven {w : World} {t : TypeId} {g : Nat} {a b c d e f x : Value} (h : CB w t g [a, b, c, d, e, f, x]) :
    (w.cell? ⟨g, 0, none⟩ = some a ∧ w.cell? ⟨g, 1, none⟩ = some b ∧ w.cell? ⟨g, 2, none⟩ = some c ∧ w.cell? ⟨g, 3, none⟩ = some d ∧ w.cell? ⟨g, 4, none⟩ = some e ∧ w.cell? ⟨g, 5, none⟩ = some f ∧ w.cell? ⟨g, 6, none⟩ = some x) ∧
    (w.frozen? ⟨g, 0, none⟩ = false ∧ w.frozen? ⟨g, 1, none⟩ = false ∧ w.frozen? ⟨g, 2, none⟩ = false ∧ w.frozen? ⟨g, 3, none⟩ = false ∧ w.frozen? ⟨g, 4, none⟩ = false ∧ w.frozen? ⟨g, 5, none⟩ = false ∧ w.frozen? ⟨g, 6, none⟩ = false) :=
  ⟨⟨h.cell 0, h.cell 1, h.cell 2, h.cell 3, h.cell 4, h.cell 5, h.cell 6⟩, h.free 0, h.free 1, h.free 2, h.free 3, h.free 4, h.free 5, h.free 6⟩
theorem Below.set7 {w w' : World} {b g : Nat} (h : Below b w w') (hg : b ≤ g) (v0 v1 v2 v3 v4 v5 v6 : Value) : Below b w (((((((w'.setCell ⟨g, 0, none⟩ v0).setCell ⟨g, 1, none⟩ v1).setCell ⟨g, 2, none⟩ v2).setCell ⟨g, 3, none⟩ v3).setCell ⟨g, 4, none⟩ v4).setCell ⟨g, 5, none⟩ v5).setCell ⟨g, 6, none⟩ v6) :=
  ((((((h.setCell (p := ⟨g, 0, none⟩) hg v0).setCell (p := ⟨g, 1, none⟩) hg v1).setCell (p := ⟨g, 2, none⟩) hg v2).setCell (p := ⟨g, 3, none⟩) hg v3).setCell (p := ⟨g, 4, none⟩) hg v4).setCell (p := ⟨g, 5, none⟩) hg v5).setCell (p := ⟨g, 6, none⟩) hg v6
set_option maxHeartbeats 1000000 in
set_option maxRecDepth 100000 in
theorem p_split (x y : Int) (w : World) : Calls Tryz.prog 88 #[.int .i64 x, .int .i64 y] w fun e w' => e = .returned (stVal 2 .zero x y) ∧ Below w.heap.size w w' := by
  have HC : Hid (CB (w.alloc (.cells #[.int .i64 2, .int .u64 0, .int .u64 0, .int .u64 0, .int .u64 0, .int .i64 x, .int .i64 y] 48)) 48 w.heap.size [.int .i64 2, .int .u64 0, .int .u64 0, .int .u64 0, .int .u64 0, .int .i64 x, .int .i64 y]) := CB.new w _ _
  go_enter Tryz.func88, Tryz.ntmps88
  go_wp2
  refine bodyPost_ret (ret_row rfl rfl HC.out _ Tryz.underlying48 rfl infoSt) rfl ⟨rfl, ?_⟩
  exact (Below.refl _ _).alloc (Nat.le_refl _) _
/-- A tree is laid. -/
def LayOK (B lb : Nat) (w0 : World) (t : NT) : Prop :=
  ∀ (L : List St) (q : Nat) (v : Value) (w : World), LC B w lb L v → Below w0.heap.size w0 w → 0 < L.length → q < L.length → GoodS L → L.length + cnt t.pt ≤ 1048576 →
    Calls Tryz.prog 36 #[.pointer (some ⟨lb, 0, none⟩), t.val, .int .i64 (q : Nat)] w fun e w' => LRet B lb v (layT t.pt q L).1 (layT t.pt q L).2 w e w'
set_option maxHeartbeats 1000000 in
set_option maxRecDepth 100000 in
theorem p_setF (lb : Nat) (L : List St) (q : Nat) (v : Value) (w : World) (k : Int) (s : S4) (m n : Int) (a : Option Addr) (len c : Nat) (h : LC B w lb L v) (hlen : L.length ≤ 1048575) :
    Calls Tryz.prog 72 #[.pointer (some ⟨lb, 0, none⟩), nodeVal k s m n (.slice a len c), .int .i64 (q : Nat)] w fun e w' => LRet B lb v (L ++ [⟨1, s, q, 0⟩]) L.length w e w' := by
  have HS := Lib.hid ((LS.refl h).alloc (.cells #[.int .i64 k, .int .u64 (s.a : Nat), .int .u64 (s.b : Nat), .int .u64 (s.c : Nat), .int .u64 (s.d : Nat), .int .i64 m, .int .i64 n, .slice a len c] 42))
  clear h
  go_enter Tryz.func72, Tryz.ntmps72
  go_wp2_with (go_at_call 35; refine (p_add lb L v _ 1 s q 0 HS.out.at_ (by omega)).mono ?_; rintro e w2 ⟨rfl, v2, hS2⟩; have HS2 := Lib.hid (HS.out.trans hS2); clear hS2)
  go_ret
  exact ⟨rfl, _, HS2.out⟩
set_option maxHeartbeats 1000000 in
set_option maxRecDepth 100000 in
theorem p_laySet (lb : Nat) (w0 : World) (s : S4) (m n : Int) (p : Value) (ps : List NT) (hp : ∃ a l c, p = .slice a l c) : LayOK B lb w0 (.mk 1 s m n p ps) := by
  obtain ⟨a, len, c, rfl⟩ := hp
  intro L q v w h hb h0 hq hg hlen
  have e1 : layT (NT.mk 1 s m n (.slice a len c) ps).pt q L = (L ++ [⟨1, s, q, 0⟩], L.length) := by rw [NT.pt_mk, layT_eq]; rfl
  have e2 : cnt (NT.mk 1 s m n (.slice a len c) ps).pt = 1 := by rw [NT.pt_mk, cnt]; rfl
  rw [e1]
  rw [e2] at hlen
  show Calls Tryz.prog 36 #[.pointer (some ⟨lb, 0, none⟩), nodeVal 1 s m n (.slice a len c), .int .i64 (q : Nat)] w _
  have HS := Lib.hid ((LS.refl h).alloc (.cells #[.int .i64 1, .int .u64 (s.a : Nat), .int .u64 (s.b : Nat), .int .u64 (s.c : Nat), .int .u64 (s.d : Nat), .int .i64 m, .int .i64 n, .slice a len c] 42))
  have HSD := Lib.hid (HS.out.below ((Below.refl _ _).drew))
  obtain ⟨⟨c0, c1, c2, c3, c4, c5, c6, c7⟩, f0⟩ := HS.out.at_.cells
  clear h hb hg e1 e2
  go_enter Tryz.func36, Tryz.ntmps36
  go_wp2
  go_region_with (go_at_call 72; refine (p_setF lb L q v _ 1 s m n a len c HSD.out.at_ (by omega)).mono ?_; rintro e w2 ⟨rfl, v2, hS2⟩; have HS2 := Lib.hid (HSD.out.trans hS2); clear hS2)
  all_goals
    go_wp2
    go_ret
    exact ⟨rfl, _, HS2.out⟩
end

section
variable {B : Nat}

/-! A part laid again and again. -/
/-- What is known of a layout that goes on. -/
def LI (L : List St) (q : Nat) : Prop := 0 < L.length ∧ q < L.length ∧ GoodS L
set_option maxHeartbeats 2000000 in
set_option maxRecDepth 100000 in
theorem n_times (lb : Nat) (w0 : World) (k : Int) (s : S4) (m n : Int) (a : Option Addr) (len c : Nat) (ps : List NT) (hok : LayOK B lb w0 (.mk k s m n (.slice a len c) ps)) (hlaid : Laid (layT (NT.mk k s m n (.slice a len c) ps).pt) (cnt (NT.mk k s m n (.slice a len c) ps).pt)) (hw0 : w0.heap.size ≤ B)
    (M : Nat) (L : List St) (q : Nat) (v : Value) (w : World) (h : LC B w lb L v) (hb : Below w0.heap.size w0 w) (hi : LI L q) (hM : M ≤ 255) (hlen : L.length + M * cnt (NT.mk k s m n (.slice a len c) ps).pt ≤ 1048576) :
    Calls Tryz.prog 91 #[.pointer (some ⟨lb, 0, none⟩), nodeVal k s m n (.slice a len c), .int .i64 (M : Nat), .int .i64 (q : Nat)] w fun e w' =>
      LRet B lb v (timesF (layT (NT.mk k s m n (.slice a len c) ps).pt) M L q).1 (timesF (layT (NT.mk k s m n (.slice a len c) ps).pt) M L q).2 w e w' := by
  unfold LayOK at hok
  obtain ⟨f, hf⟩ : ∃ f, layT (NT.mk k s m n (.slice a len c) ps).pt = f := ⟨_, rfl⟩
  obtain ⟨C, hC⟩ : ∃ C, cnt (NT.mk k s m n (.slice a len c) ps).pt = C := ⟨_, rfl⟩
  rw [hf, hC] at hok hlaid
  rw [hC] at hlen
  rw [hf]
  have HOK : Hid (∀ (L : List St) (q : Nat) (v : Value) (w : World), LC B w lb L v → Below w0.heap.size w0 w → 0 < L.length → q < L.length → GoodS L → L.length + C ≤ 1048576 →
    Calls Tryz.prog 36 #[.pointer (some ⟨lb, 0, none⟩), nodeVal k s m n (.slice a len c), .int .i64 (q : Nat)] w fun e w' => LRet B lb v (f q L).1 (f q L).2 w e w') := hok
  have HLAID := Lib.hid hlaid
  have HH := Lib.hid h
  have hlt := h.lt
  have HB := Lib.hid hb
  have hne1 : w.heap.size ≠ lb := by omega
  have hne2 : v.ownBlock ≠ some w.heap.size := fun e => absurd (World.ownsRow.lt h.row _ e).2 (by omega)
  have HS := Lib.hid ((LS.refl h).alloc (.cells #[.int .i64 k, .int .u64 (s.a : Nat), .int .u64 (s.b : Nat), .int .u64 (s.c : Nat), .int .u64 (s.d : Nat), .int .i64 m, .int .i64 n, .slice a len c] 42))
  have HSA := Lib.hid ((LS.refl HS.out.at_))
  have HC : Hid (CB (w.alloc (.cells #[.int .i64 k, .int .u64 (s.a : Nat), .int .u64 (s.b : Nat), .int .u64 (s.c : Nat), .int .u64 (s.d : Nat), .int .i64 m, .int .i64 n, .slice a len c] 42)) 42 w.heap.size (nodeCells k s m n (.slice a len c))) := CB.new w _ _
  have HI := Lib.hid hi
  have HLEN := Lib.hid hlen
  clear hok hlaid hf hC h hb hi hlen
  go_enter Tryz.func91, Tryz.ntmps91
  go_wp2
  go_loopw [3, 11] (fun tv iv wr => ∃ (i : Nat) (Li : List St) (qi : Nat) (vi : Value), i ≤ M ∧ iv = .int .i64 (i : Nat) ∧ tv = .int .i64 (qi : Nat) ∧ Hid (LS B w wr lb v Li vi) ∧ Hid (LS B (w.alloc (.cells #[.int .i64 k, .int .u64 (s.a : Nat), .int .u64 (s.b : Nat), .int .u64 (s.c : Nat), .int .u64 (s.d : Nat), .int .i64 m, .int .i64 n, .slice a len c] 42)) wr lb v Li vi) ∧ Hid (timesF f (M - i) Li qi = timesF f M L q) ∧ Hid (LI Li qi) ∧ Hid (Li.length + (M - i) * C ≤ 1048576)) (fun _ iv _ => M - (intOf iv).toNat)
  case atStart => exact ⟨0, L, q, v, Nat.zero_le _, rfl, rfl, HS.out, HSA.out, (by show _ = _; rw [Nat.sub_zero]), HI.out, (by show _ ≤ _; rw [Nat.sub_zero]; exact HLEN.out)⟩
  case round =>
    obtain ⟨i, Li, qi, vi, hiM, rfl, rfl, HSi, HSb, HE, HIi, HLi⟩ := hrel
    obtain ⟨⟨x0, x1, x2, x3, x4, x5, x6, x7⟩, -⟩ := (HSb.out.box HC.out hne1 hne2).eight
    by_cases hlti : i < M
    · obtain ⟨j, hj⟩ : ∃ j, M - i = j + 1 := ⟨M - i - 1, by omega⟩
      have hj2 : M - (i + 1) = j := by omega
      rw [hj] at HE HLi
      obtain ⟨r1, r2, r3⟩ := HLAID.out qi Li HIi.out.1 HIi.out.2.1 HIi.out.2.2
      have hjc : (j + 1) * C = j * C + C := by rw [Nat.add_mul, Nat.one_mul]
      have hle : Li.length + C ≤ 1048576 := by have := HLi.out; omega
      have hlz : Li.length ≤ 1048576 := by omega
      have he := HE.out
      rw [timesF] at he
      have hcall := fun W hW hB => HOK.out Li qi vi W hW hB HIi.out.1 HIi.out.2.1 HIi.out.2.2 hle
      obtain ⟨Lj, hLj⟩ : ∃ Lj, (f qi Li).1 = Lj := ⟨_, rfl⟩
      obtain ⟨qj, hqj⟩ : ∃ qj, (f qi Li).2 = qj := ⟨_, rfl⟩
      have hfe : f qi Li = (Lj, qj) := by rw [← hLj, ← hqj]
      rw [hfe] at he hcall r1 r2 r3
      have HCALL := Lib.hid hcall
      have HR1 := Lib.hid r1
      have HR2 := Lib.hid r2
      have HR3 := Lib.hid r3
      have hljz : Lj.length ≤ 1048576 := by have h9 : Lj.length = Li.length + C := r1; omega
      obtain ⟨va, vc, rfl⟩ := own_slice HSi.out.at_.row
      obtain ⟨⟨y0, -⟩, -⟩ := HSi.out.at_.cells
      have HBr := Lib.hid (HSi.out.from0 HH.out HB.out hw0)
      by_cases hsame : Lj.length = Li.length
      · have hsi : ((Lj.length : Nat) : Int) = (Li.length : Int) := by omega
        have HEQ : Hid ((Lj, qj) = timesF f M L q) := by
          show _ = _
          rw [← he, if_pos hsame]
        clear he hcall r1 r2 r3 hfe hLj hqj hsame
        go_wp2_with (go_at_call 36; refine (HCALL.out _ HSi.out.at_ HBr.out).mono ?_; rintro e w2 ⟨rfl, v2, hS2⟩; obtain ⟨wa, wc, rfl⟩ := own_slice hS2.at_.row; obtain ⟨⟨z0, -⟩, -⟩ := hS2.at_.cells; have HS2 := Lib.hid (HSi.out.trans hS2); clear hS2)
        go_ret
        rw [← HEQ.out]
        exact ⟨rfl, _, HS2.out⟩
      · have hsi : ¬ ((Lj.length : Nat) : Int) = (Li.length : Int) := by omega
        have HEQ : Hid (timesF f j Lj qj = timesF f M L q) := by
          show _ = _
          rw [← he, if_neg hsame]
        have HLJ : Hid (Lj.length + j * C ≤ 1048576) := by show _ ≤ _; have h9 : Lj.length = Li.length + C := r1; have := HLi.out; omega
        have HIJ : Hid (LI Lj qj) := ⟨by have h9 : Lj.length = Li.length + C := r1; have := HIi.out.1; omega, r2, r3⟩
        clear he hcall r1 r2 r3 hfe hLj hqj hsame
        go_wp2_with (go_at_call 36; refine (HCALL.out _ HSi.out.at_ HBr.out).mono ?_; rintro e w2 ⟨rfl, v2, hS2⟩; obtain ⟨wa, wc, rfl⟩ := own_slice hS2.at_.row; obtain ⟨⟨z0, -⟩, -⟩ := hS2.at_.cells; have HS2 := Lib.hid (HSi.out.trans hS2); have HT2 := Lib.hid (HSb.out.trans hS2); clear hS2)
        go_roundw
        case rel => exact ⟨i + 1, Lj, qj, _, by omega, by go_num, rfl, HS2.out, HT2.out, (by show _ = _; rw [hj2]; exact HEQ.out), HIJ.out, (by show _ ≤ _; rw [hj2]; exact HLJ.out)⟩
        case measure => simp [intOf]; omega
    · obtain rfl : i = M := by omega
      have HEQ : Hid ((Li, qi) = timesF f i L q) := by
        have := HE.out
        rw [Nat.sub_self, timesF] at this
        exact this
      go_wp2
      go_ret
      rw [← HEQ.out]
      exact ⟨rfl, _, HSi.out⟩
end

section
variable {B : Nat}

set_option maxHeartbeats 2000000 in
set_option maxRecDepth 100000 in
theorem n_perhaps (lb : Nat) (w0 : World) (k : Int) (s : S4) (m n : Int) (a : Option Addr) (len c : Nat) (ps : List NT) (hok : LayOK B lb w0 (.mk k s m n (.slice a len c) ps)) (hlaid : Laid (layT (NT.mk k s m n (.slice a len c) ps).pt) (cnt (NT.mk k s m n (.slice a len c) ps).pt)) (hw0 : w0.heap.size ≤ B)
    (M : Nat) (L : List St) (q : Nat) (v : Value) (w : World) (h : LC B w lb L v) (hb : Below w0.heap.size w0 w) (hi : LI L q) (hM : M ≤ 255) (hlen : L.length + M * (cnt (NT.mk k s m n (.slice a len c) ps).pt + 1) ≤ 1048576) :
    Calls Tryz.prog 90 #[.pointer (some ⟨lb, 0, none⟩), nodeVal k s m n (.slice a len c), .int .i64 (M : Nat), .int .i64 (q : Nat)] w fun e w' =>
      LRet B lb v (perhF (layT (NT.mk k s m n (.slice a len c) ps).pt) q M L q).1 (perhF (layT (NT.mk k s m n (.slice a len c) ps).pt) q M L q).2 w e w' := by
  unfold LayOK at hok
  obtain ⟨f, hf⟩ : ∃ f, layT (NT.mk k s m n (.slice a len c) ps).pt = f := ⟨_, rfl⟩
  obtain ⟨C, hC⟩ : ∃ C, cnt (NT.mk k s m n (.slice a len c) ps).pt = C := ⟨_, rfl⟩
  rw [hf, hC] at hok hlaid
  rw [hC] at hlen
  rw [hf]
  have HOK : Hid (∀ (L : List St) (q : Nat) (v : Value) (w : World), LC B w lb L v → Below w0.heap.size w0 w → 0 < L.length → q < L.length → GoodS L → L.length + C ≤ 1048576 →
    Calls Tryz.prog 36 #[.pointer (some ⟨lb, 0, none⟩), nodeVal k s m n (.slice a len c), .int .i64 (q : Nat)] w fun e w' => LRet B lb v (f q L).1 (f q L).2 w e w') := hok
  have HLAID := Lib.hid hlaid
  have HH := Lib.hid h
  have hlt := h.lt
  have HB := Lib.hid hb
  have hne1 : w.heap.size ≠ lb := by omega
  have hne2 : v.ownBlock ≠ some w.heap.size := fun e => absurd (World.ownsRow.lt h.row _ e).2 (by omega)
  have HS := Lib.hid ((LS.refl h).alloc (.cells #[.int .i64 k, .int .u64 (s.a : Nat), .int .u64 (s.b : Nat), .int .u64 (s.c : Nat), .int .u64 (s.d : Nat), .int .i64 m, .int .i64 n, .slice a len c] 42))
  have HSA := Lib.hid ((LS.refl HS.out.at_))
  have HC : Hid (CB (w.alloc (.cells #[.int .i64 k, .int .u64 (s.a : Nat), .int .u64 (s.b : Nat), .int .u64 (s.c : Nat), .int .u64 (s.d : Nat), .int .i64 m, .int .i64 n, .slice a len c] 42)) 42 w.heap.size (nodeCells k s m n (.slice a len c))) := CB.new w _ _
  have HI := Lib.hid hi
  have HLEN := Lib.hid hlen
  clear hok hlaid hf hC h hb hi hlen
  go_enter Tryz.func90, Tryz.ntmps90
  go_wp2
  go_loopw [3, 12] (fun tv iv wr => ∃ (i : Nat) (Li : List St) (qi : Nat) (vi : Value), i ≤ M ∧ iv = .int .i64 (i : Nat) ∧ tv = .int .i64 (qi : Nat) ∧ Hid (LS B w wr lb v Li vi) ∧ Hid (LS B (w.alloc (.cells #[.int .i64 k, .int .u64 (s.a : Nat), .int .u64 (s.b : Nat), .int .u64 (s.c : Nat), .int .u64 (s.d : Nat), .int .i64 m, .int .i64 n, .slice a len c] 42)) wr lb v Li vi) ∧ Hid (perhF f q (M - i) Li qi = perhF f q M L q) ∧ Hid (LI Li qi) ∧ Hid (q < Li.length) ∧ Hid (Li.length + (M - i) * (C + 1) ≤ 1048576)) (fun _ iv _ => M - (intOf iv).toNat)
  case atStart => exact ⟨0, L, q, v, Nat.zero_le _, rfl, rfl, HS.out, HSA.out, (by show _ = _; rw [Nat.sub_zero]), HI.out, HI.out.2.1, (by show _ ≤ _; rw [Nat.sub_zero]; exact HLEN.out)⟩
  case round =>
    obtain ⟨i, Li, qi, vi, hiM, rfl, rfl, HSi, HSb, HE, HIi, HQi, HLi⟩ := hrel
    obtain ⟨⟨x0, x1, x2, x3, x4, x5, x6, x7⟩, -⟩ := (HSb.out.box HC.out hne1 hne2).eight
    by_cases hlti : i < M
    · obtain ⟨j, hj⟩ : ∃ j, M - i = j + 1 := ⟨M - i - 1, by omega⟩
      have hj2 : M - (i + 1) = j := by omega
      rw [hj] at HE HLi
      obtain ⟨r1, r2, r3⟩ := HLAID.out qi Li HIi.out.1 HIi.out.2.1 HIi.out.2.2
      have hjc : (j + 1) * (C + 1) = j * (C + 1) + (C + 1) := by rw [Nat.add_mul, Nat.one_mul]
      have hle : Li.length + (C + 1) ≤ 1048576 := by have := HLi.out; omega
      have hle2 : Li.length + C ≤ 1048576 := by omega
      have he := HE.out
      rw [perhF] at he
      have hcall := fun W hW hB => HOK.out Li qi vi W hW hB HIi.out.1 HIi.out.2.1 HIi.out.2.2 hle2
      obtain ⟨Lj, hLj⟩ : ∃ Lj, (f qi Li).1 = Lj := ⟨_, rfl⟩
      obtain ⟨qj, hqj⟩ : ∃ qj, (f qi Li).2 = qj := ⟨_, rfl⟩
      have hfe : f qi Li = (Lj, qj) := by rw [← hLj, ← hqj]
      rw [hfe] at he hcall r1 r2 r3
      have hjl : Lj.length = Li.length + C := r1
      have hqjl : qj < Lj.length := r2
      have hljz : Lj.length ≤ 1048576 := by omega
      have HQ := HQi.out
      have HIJ : Hid (LI (Lj ++ [splitS qj q]) Lj.length) := ⟨by simp, by simp, GoodS.split r3 hqjl (by omega)⟩
      have HQJ : Hid (q < (Lj ++ [splitS qj q]).length) := by show q < (Lj ++ [splitS qj q]).length; rw [List.length_append, List.length_singleton]; omega
      have HLJ : Hid ((Lj ++ [splitS qj q]).length + j * (C + 1) ≤ 1048576) := by show (Lj ++ [splitS qj q]).length + _ ≤ _; rw [List.length_append, List.length_singleton]; have := HLi.out; omega
      have HCALL := Lib.hid hcall
      have HEQ := Lib.hid he
      have HBr := Lib.hid (HSi.out.from0 HH.out HB.out hw0)
      clear he hcall r1 r2 r3 hfe hLj hqj HQ hjl hjc
      go_wp2_with (first | (go_at_call 36; refine (HCALL.out _ HSi.out.at_ HBr.out).mono ?_; rintro e w2 ⟨rfl, v2, hS2⟩; have HS2 := Lib.hid (HSi.out.trans hS2); have HT2 := Lib.hid (HSb.out.trans hS2); clear hS2) | (go_at_call 88; refine (p_split qj q _).mono ?_; rintro e w3 ⟨rfl, hb3⟩; have HS3 := Lib.hid (HS2.out.below hb3); have HT3 := Lib.hid (HT2.out.below hb3); clear hb3) | (go_at_call 35; refine (p_add lb Lj v2 _ 2 .zero qj q HS3.out.at_ hljz).mono ?_; rintro e w4 ⟨rfl, v4, hS4⟩; have HS4 := Lib.hid (HS3.out.trans hS4); have HT4 := Lib.hid (HT3.out.trans hS4); clear hS4))
      go_roundw
      case rel => exact ⟨i + 1, Lj ++ [splitS qj q], Lj.length, v4, by omega, by go_num, rfl, HS4.out, HT4.out, (by show _ = _; rw [hj2]; exact HEQ.out), HIJ.out, HQJ.out, (by show _ ≤ _; rw [hj2]; exact HLJ.out)⟩
      case measure => simp [intOf]; omega
    · obtain rfl : i = M := by omega
      have HEQ : Hid ((Li, qi) = perhF f q i L q) := by
        have := HE.out
        rw [Nat.sub_self, perhF] at this
        exact this
      go_wp2
      go_ret
      rw [← HEQ.out]
      exact ⟨rfl, _, HSi.out⟩
end

section
variable {B : Nat}

/-! A repeat laid; the layout made; Make. -/
set_option maxHeartbeats 2000000 in
set_option maxRecDepth 100000 in
theorem n_repeatB (lb : Nat) (w0 : World) (k : Int) (s : S4) (m n : Int) (a : Option Addr) (len c : Nat) (ps : List NT) (hok : LayOK B lb w0 (.mk k s m n (.slice a len c) ps)) (hlaid : Laid (layT (NT.mk k s m n (.slice a len c) ps).pt) (cnt (NT.mk k s m n (.slice a len c) ps).pt)) (hw0 : w0.heap.size ≤ B)
    (b off bc : Nat) (hra : w0.rangeAt b off (nodeCells k s m n (.slice a len c))) (S : S4) (M N A : Nat) (hN : N ≤ 255) (hA : N = M + A)
    (L : List St) (q : Nat) (v : Value) (w : World) (h : LC B w lb L v) (hb : Below w0.heap.size w0 w) (hi : LI L q) (hlen : L.length + (A * (cnt (NT.mk k s m n (.slice a len c) ps).pt + 1) + M * cnt (NT.mk k s m n (.slice a len c) ps).pt) ≤ 1048576) :
    Calls Tryz.prog 77 #[.pointer (some ⟨lb, 0, none⟩), nodeVal 6 S (M : Nat) (N : Nat) (.slice (some ⟨b, off, none⟩) 1 bc), .int .i64 (q : Nat)] w fun e w' =>
      LRet B lb v (repF (layT (NT.mk k s m n (.slice a len c) ps).pt) (M : Nat) (N : Nat) q L).1 (repF (layT (NT.mk k s m n (.slice a len c) ps).pt) (M : Nat) (N : Nat) q L).2 w e w' := by
  have hrep : repF (layT (NT.mk k s m n (.slice a len c) ps).pt) (M : Nat) (N : Nat) q L = timesF (layT (NT.mk k s m n (.slice a len c) ps).pt) M (perhF (layT (NT.mk k s m n (.slice a len c) ps).pt) q A L q).1 (perhF (layT (NT.mk k s m n (.slice a len c) ps).pt) q A L q).2 := by
    unfold repF
    rw [if_neg (by omega), show ((N : Int) - (M : Int)).toNat = A by omega, Int.toNat_natCast]
  rw [hrep]
  obtain ⟨g1, g2, g3⟩ := perh_laid hlaid q A L q hi.1 hi.2.1 hi.2.1 hi.2.2
  have hperh := fun W hW hB => n_perhaps lb w0 k s m n a len c ps hok hlaid hw0 A L q v W hW hB hi (by omega) (by omega)
  have htimes := fun P p u W hW hB hI hl => n_times lb w0 k s m n a len c ps hok hlaid hw0 M P p u W hW hB hI (by omega) hl
  obtain ⟨f, hf⟩ : ∃ f, layT (NT.mk k s m n (.slice a len c) ps).pt = f := ⟨_, rfl⟩
  obtain ⟨C, hC⟩ : ∃ C, cnt (NT.mk k s m n (.slice a len c) ps).pt = C := ⟨_, rfl⟩
  rw [hf] at g1 g2 g3 hperh htimes ⊢
  rw [hC] at g1 htimes hlen
  obtain ⟨P, hP⟩ : ∃ P, (perhF f q A L q).1 = P := ⟨_, rfl⟩
  obtain ⟨p, hp⟩ : ∃ p, (perhF f q A L q).2 = p := ⟨_, rfl⟩
  rw [hP] at g1 g2 g3 hperh ⊢
  rw [hp] at g2 hperh ⊢
  have HPERH : Hid (∀ W, LC B W lb L v → Below w0.heap.size w0 W → Calls Tryz.prog 90 #[.pointer (some ⟨lb, 0, none⟩), nodeVal k s m n (.slice a len c), .int .i64 (A : Nat), .int .i64 (q : Nat)] W fun e w' => LRet B lb v P p W e w') := hperh
  have HT : Hid (∀ u W, LC B W lb P u → Below w0.heap.size w0 W → Calls Tryz.prog 91 #[.pointer (some ⟨lb, 0, none⟩), nodeVal k s m n (.slice a len c), .int .i64 (M : Nat), .int .i64 (p : Nat)] W fun e w' => LRet B lb u (timesF f M P p).1 (timesF f M P p).2 W e w') := fun u W hW hB => htimes P p u W hW hB ⟨by have := hi.1; omega, g2, g3⟩ (by omega)
  have HRA : Hid (∀ W, Below w0.heap.size w0 W → W.rangeAt b off (nodeCells k s m n (.slice a len c))) := fun W hW => rangeAt_below hra hW
  have hAi : ((N : Int) - (M : Int)) = (A : Int) := by omega
  have hNi : ¬ ((N : Int) = -1) := by omega
  have HH := Lib.hid h
  have hlt := h.lt
  have HB := Lib.hid hb
  have hbase := h.base
  have hne1 : w.heap.size ≠ lb := by omega
  have hne2 : v.ownBlock ≠ some w.heap.size := fun e => absurd (World.ownsRow.lt h.row _ e).2 (by omega)
  have hne3 : w.heap.size + 1 ≠ lb := by omega
  have hne4 : v.ownBlock ≠ some (w.heap.size + 1) := fun e => absurd (World.ownsRow.lt h.row _ e).2 (by omega)
  obtain ⟨O1, hO1⟩ : ∃ O1, Obj.cells #[.int .i64 6, .int .u64 (S.a : Nat), .int .u64 (S.b : Nat), .int .u64 (S.c : Nat), .int .u64 (S.d : Nat), .int .i64 ((M : Nat) : Int), .int .i64 ((N : Nat) : Int), .slice (some ⟨b, off, none⟩) 1 bc] 42 = O1 := ⟨_, rfl⟩
  have HSa := Lib.hid ((LS.refl h).alloc (.cells #[.int .i64 6, .int .u64 (S.a : Nat), .int .u64 (S.b : Nat), .int .u64 (S.c : Nat), .int .u64 (S.d : Nat), .int .i64 ((M : Nat) : Int), .int .i64 ((N : Nat) : Int), .slice (some ⟨b, off, none⟩) 1 bc] 42))
  have HBa := Lib.hid (HSa.out.from0 h hb hw0)
  have HS := Lib.hid (HSa.out.alloc (.cells #[.int .i64 k, .int .u64 (s.a : Nat), .int .u64 (s.b : Nat), .int .u64 (s.c : Nat), .int .u64 (s.d : Nat), .int .i64 m, .int .i64 n, .slice a len c] 42))
  have HSA := Lib.hid (LS.refl HS.out.at_)
  have HBs := Lib.hid (HS.out.from0 h hb hw0)
  have HCn : Hid (CB ((w.alloc (.cells #[.int .i64 6, .int .u64 (S.a : Nat), .int .u64 (S.b : Nat), .int .u64 (S.c : Nat), .int .u64 (S.d : Nat), .int .i64 ((M : Nat) : Int), .int .i64 ((N : Nat) : Int), .slice (some ⟨b, off, none⟩) 1 bc] 42)).alloc (.cells #[.int .i64 k, .int .u64 (s.a : Nat), .int .u64 (s.b : Nat), .int .u64 (s.c : Nat), .int .u64 (s.d : Nat), .int .i64 m, .int .i64 n, .slice a len c] 42)) 42 w.heap.size (nodeCells 6 S (M : Nat) (N : Nat) (.slice (some ⟨b, off, none⟩) 1 bc))) := CB.alloc (CB.new w _ _) _
  have HCp : Hid (CB ((w.alloc (.cells #[.int .i64 6, .int .u64 (S.a : Nat), .int .u64 (S.b : Nat), .int .u64 (S.c : Nat), .int .u64 (S.d : Nat), .int .i64 ((M : Nat) : Int), .int .i64 ((N : Nat) : Int), .slice (some ⟨b, off, none⟩) 1 bc] 42)).alloc (.cells #[.int .i64 k, .int .u64 (s.a : Nat), .int .u64 (s.b : Nat), .int .u64 (s.c : Nat), .int .u64 (s.d : Nat), .int .i64 m, .int .i64 n, .slice a len c] 42)) 42 (w.heap.size + 1) (nodeCells k s m n (.slice a len c))) := cb2 w _ _ _
  clear h hb hi hlen hperh htimes hf hC hP hp g1 g2 g3 hrep hok hlaid hra hO1 hA
  go_enter Tryz.func77, Tryz.ntmps77
  go_wp2_with (first | (refine wpl_loadN (.tmp 10) rfl rfl (g := b) (off := off) (k := k) (s := s) (m := m) (n := n) (p := .slice a len c) ?_ ?_ ?_; rfl; exact HRA.out _ HBa.out) | (go_at_call 90; refine (HPERH.out _ HS.out.at_ HBs.out).mono ?_; rintro e w2 ⟨rfl, v2, hS2⟩; obtain ⟨⟨x0, x1, x2, x3, x4, x5, x6, x7⟩, -⟩ := (hS2.box HCn.out hne1 hne2).eight; obtain ⟨⟨y0, y1, y2, y3, y4, y5, y6, y7⟩, -⟩ := (hS2.box HCp.out hne3 hne4).eight; have HS2 := Lib.hid (HS.out.trans hS2); clear hS2) | (go_at_call 91; refine (HT.out v2 _ HS2.out.at_ (HS2.out.from0 HH.out HB.out hw0)).mono ?_; rintro e w3 ⟨rfl, v3, hS3⟩; have HS3 := Lib.hid (HS2.out.trans hS3); clear hS3))
  go_ret
  exact ⟨rfl, _, HS3.out⟩
set_option maxHeartbeats 1000000 in
set_option maxRecDepth 100000 in
theorem n_layRepB (lb : Nat) (w0 : World) (k : Int) (s : S4) (m n : Int) (a : Option Addr) (len c : Nat) (ps : List NT) (hok : LayOK B lb w0 (.mk k s m n (.slice a len c) ps)) (hlaid : Laid (layT (NT.mk k s m n (.slice a len c) ps).pt) (cnt (NT.mk k s m n (.slice a len c) ps).pt)) (hw0 : w0.heap.size ≤ B)
    (b off bc : Nat) (hra : w0.rangeAt b off (nodeCells k s m n (.slice a len c))) (S : S4) (M N A : Nat) (hN : N ≤ 255) (hA : N = M + A) : LayOK B lb w0 (.mk 6 S (M : Nat) (N : Nat) (.slice (some ⟨b, off, none⟩) 1 bc) [.mk k s m n (.slice a len c) ps]) := by
  intro L q v w h hb h0 hq hg hlen
  have e1 : layT (NT.mk 6 S (M : Nat) (N : Nat) (.slice (some ⟨b, off, none⟩) 1 bc) [.mk k s m n (.slice a len c) ps]).pt q L = repF (layT (NT.mk k s m n (.slice a len c) ps).pt) (M : Nat) (N : Nat) q L := by rw [NT.pt_mk, layT_eq]; simp [layRep]
  have e2 : cnt (NT.mk 6 S (M : Nat) (N : Nat) (.slice (some ⟨b, off, none⟩) 1 bc) [.mk k s m n (.slice a len c) ps]).pt = A * (cnt (NT.mk k s m n (.slice a len c) ps).pt + 1) + M * cnt (NT.mk k s m n (.slice a len c) ps).pt := by
    rw [NT.pt_mk, cnt]
    have : again (M : Nat) (N : Nat) = A := by unfold again; rw [if_neg (by omega)]; omega
    simp [cntR, this]
  rw [e1]
  rw [e2] at hlen
  have hcall := fun W hW hB => n_repeatB lb w0 k s m n a len c ps hok hlaid hw0 b off bc hra S M N A hN hA L q v W hW hB ⟨h0, hq, hg⟩ hlen
  obtain ⟨R, hR⟩ : ∃ R, repF (layT (NT.mk k s m n (.slice a len c) ps).pt) (M : Nat) (N : Nat) q L = R := ⟨_, rfl⟩
  rw [hR] at hcall ⊢
  have HCALL := Lib.hid hcall
  show Calls Tryz.prog 36 #[.pointer (some ⟨lb, 0, none⟩), nodeVal 6 S (M : Nat) (N : Nat) (.slice (some ⟨b, off, none⟩) 1 bc), .int .i64 (q : Nat)] w _
  have HS := Lib.hid ((LS.refl h).alloc (.cells #[.int .i64 6, .int .u64 (S.a : Nat), .int .u64 (S.b : Nat), .int .u64 (S.c : Nat), .int .u64 (S.d : Nat), .int .i64 ((M : Nat) : Int), .int .i64 ((N : Nat) : Int), .slice (some ⟨b, off, none⟩) 1 bc] 42))
  have HSD := Lib.hid (HS.out.below ((Below.refl _ _).drew))
  have HBD := Lib.hid (HSD.out.from0 h hb hw0)
  obtain ⟨⟨c0, c1, c2, c3, c4, c5, c6, c7⟩, f0⟩ := HS.out.at_.cells
  clear h hb hg e1 e2 hcall hR hok hlaid hra hlen hA
  go_enter Tryz.func36, Tryz.ntmps36
  go_wp2
  go_region_with (go_at_call 77; refine (HCALL.out _ HSD.out.at_ HBD.out).mono ?_; rintro e w2 ⟨rfl, v2, hS2⟩; have HS2 := Lib.hid (HSD.out.trans hS2); clear hS2)
  all_goals
    go_wp2
    go_ret
    exact ⟨rfl, _, HS2.out⟩
end
end Go.Proofs.YthhchpmlljfpjaaGreat
