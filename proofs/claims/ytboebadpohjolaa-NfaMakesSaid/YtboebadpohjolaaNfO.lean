import Derived.Test.YtboebadpohjolaaNfX
import Derived.Test.YtboebadpohjolaaNfF
import Derived.Test.YtboebadpohjolaaNfL
import Derived.Lib.SmallJoins
namespace Go.Proofs.Ytboebadpohjolaa
open Go.RowKit

variable {B : Nat}

/-! A state that stands is turned: the owned row behind a store into it. -/
theorem owned_set {w : World} {B : Nat} {e : TypeId} {S : Nat} {g n c : Nat} {xs : List Value} (h : w.ownsRow B e S (.slice (some ⟨g, 0, none⟩) n c) n xs) (i : Nat) (u : Value) : (w.setCell ⟨g, i, none⟩ u).ownsRow B e S (.slice (some ⟨g, 0, none⟩) n c) n (xs.set i u) := by
  obtain ⟨h1, h2⟩ := h
  refine ⟨by rw [List.length_set]; exact h1, ?_⟩
  rcases h2 with ⟨h2, _⟩ | ⟨g', cap, cur, hv, hg, hh, ha, hb, hc, hd⟩
  · cases h2
  · injection hv with e1 e2 e3
    injection e1 with e1
    injection e1 with e1
    subst e1 e3
    refine .inr ⟨g, c, cur.setIfInBounds i u, rfl, hg, heap_setCell_same w g i cur _ u hh, ha, hb, by rw [Array.size_setIfInBounds]; exact hc, ?_⟩
    rw [Array.toList_setIfInBounds, List.take_set, hd]
theorem next_set (L M : List St) (q b : Nat) : ((L ++ splitS 0 q :: M).flatMap St.cells).set (L.length * 7 + 5) (.int .i64 (b : Nat)) = (L ++ splitS b q :: M).flatMap St.cells := by
  rw [List.flatMap_append, List.flatMap_append, List.set_append_right _ _ (by rw [stflat_len]; omega), stflat_len, show L.length * 7 + 5 - 7 * L.length = 5 by omega]
  rfl
theorem owned_free {w : World} {B : Nat} {e : TypeId} {S : Nat} {g n c : Nat} {xs : List Value} (h : w.ownsRow B e S (.slice (some ⟨g, 0, none⟩) n c) n xs) (i : Nat) : w.frozen? ⟨g, i, none⟩ = false := by
  rcases h.2 with ⟨h2, _⟩ | ⟨g', cap, cur, hv, hg, hh, ha, hb, hc, hd⟩
  · cases h2
  · injection hv with e1 e2 e3
    injection e1 with e1
    injection e1 with e1
    subst e1 e3
    exact CB.free (show CB w e g cur.toList from by simpa [CB] using hh) i
theorem owned_next {w : World} {B g c n q : Nat} {L M : List St} (h : w.ownsRow B 45 7 (.slice (some ⟨g, 0, none⟩) n c) n ((L ++ splitS 0 q :: M).flatMap St.cells)) (hn : n = (L ++ splitS 0 q :: M).length) : w.cell? ⟨g, L.length * 7 + 5, none⟩ = some (.int .i64 0) := by
  have hlt : L.length < (L ++ splitS 0 q :: M).length := by simp
  rcases own_rowAt h hn with h9 | ⟨b, off, e, h9⟩
  · have := congrArg List.length h9
    rw [stflat_len] at this
    simp at this
  · injection e with e
    injection e with e1 e2
    subst e1 e2
    have h8 := stflat_at (L ++ splitS 0 q :: M) L.length hlt 5 (by decide)
    have he : (L ++ splitS 0 q :: M)[L.length]'hlt = splitS 0 q := by simp
    rw [he] at h8
    have := h9 (7 * L.length + 5) _ h8
    rw [show 0 + (7 * L.length + 5) = L.length * 7 + 5 by omega] at this
    exact this
theorem LC.turn {w : World} {lb g len c q b : Nat} {L M : List St} (h : LC B w lb (L ++ splitS 0 q :: M) (.slice (some ⟨g, 0, none⟩) len c)) (hl : (L ++ splitS 0 q :: M).length = len) :
    LS B w (w.setCell ⟨g, L.length * 7 + 5, none⟩ (.int .i64 (b : Nat))) lb (.slice (some ⟨g, 0, none⟩) len c) (L ++ splitS b q :: M) (.slice (some ⟨g, 0, none⟩) len c) := by
  have hne : g ≠ lb := fun e => h.ne (by rw [e]; rfl)
  have hl2 : (L ++ splitS b q :: M).length = len := by rw [← hl]; simp
  refine ⟨⟨CB.other h.box ⟨g, _, none⟩ hne _, ?_, h.ne, h.base⟩, (Chg.refl _ w).setCell (p := ⟨g, L.length * 7 + 5, none⟩) (.inr rfl) _, fun k hk => .inl hk⟩
  have h1 := h.row
  rw [hl] at h1
  have h2 := owned_set h1 (L.length * 7 + 5) (.int .i64 (b : Nat))
  rw [next_set] at h2
  rw [hl2]
  exact h2
set_option maxHeartbeats 2000000 in
set_option maxRecDepth 100000 in
theorem n_round (lb : Nat) (w0 : World) (k : Int) (s : S4) (m n : Int) (a : Option Addr) (len c : Nat) (ps : List NT) (hok : LayOK B lb w0 (.mk k s m n (.slice a len c) ps)) (hlaid : Laid (layT (NT.mk k s m n (.slice a len c) ps).pt) (cnt (NT.mk k s m n (.slice a len c) ps).pt)) (hw0 : w0.heap.size ≤ B)
    (L : List St) (q : Nat) (v : Value) (w : World) (h : LC B w lb L v) (hb : Below w0.heap.size w0 w) (hi : LI L q) (hlen : L.length + (cnt (NT.mk k s m n (.slice a len c) ps).pt + 1) ≤ 1048576) :
    Calls Try.prog 48 #[.pointer (some ⟨lb, 0, none⟩), nodeVal k s m n (.slice a len c), .int .i64 (q : Nat)] w fun e w' =>
      LRet B lb v (roundF (layT (NT.mk k s m n (.slice a len c) ps).pt) L q).1 (roundF (layT (NT.mk k s m n (.slice a len c) ps).pt) L q).2 w e w' := by
  unfold LayOK at hok
  have hbeh : Behind (layT (NT.mk k s m n (.slice a len c) ps).pt) := lay_behind _
  obtain ⟨f, hf⟩ : ∃ f, layT (NT.mk k s m n (.slice a len c) ps).pt = f := ⟨_, rfl⟩
  obtain ⟨C, hC⟩ : ∃ C, cnt (NT.mk k s m n (.slice a len c) ps).pt = C := ⟨_, rfl⟩
  rw [hf, hC] at hok hlaid
  rw [hC] at hlen
  rw [hf] at hbeh ⊢
  obtain ⟨M, hM⟩ := round_split hbeh L q
  rw [round_turns hM]
  obtain ⟨r1, r2, r3⟩ := hlaid L.length (L ++ [splitS 0 q]) (by simp) (by simp) (hi.2.2.split hi.1 hi.2.1)
  have hcall := fun v2 w2 h2 hb2 => hok (L ++ [splitS 0 q]) L.length v2 w2 h2 hb2 (by simp) (by simp) (hi.2.2.split hi.1 hi.2.1) (by simp; omega)
  obtain ⟨b, hbq⟩ : ∃ b, (f L.length (L ++ [splitS 0 q])).2 = b := ⟨_, rfl⟩
  rw [hM, hbq] at hcall
  rw [hbq]
  rw [hM] at r1
  obtain ⟨T, hT⟩ : ∃ T, (L ++ splitS 0 q :: M).length = T := ⟨_, rfl⟩
  rw [hT] at r1
  have HT := Lib.hid hT
  have HCALL := Lib.hid hcall
  have HL0 := Lib.hid h
  have hlt := h.lt
  have HB := Lib.hid hb
  have HS := Lib.hid ((LS.refl h).alloc (.cells #[.int .i64 k, .int .u64 (s.a : Nat), .int .u64 (s.b : Nat), .int .u64 (s.c : Nat), .int .u64 (s.d : Nat), .int .i64 m, .int .i64 n, .slice a len c] 27))
  have hne1 : w.heap.size ≠ lb := by omega
  have hne2 : v.ownBlock ≠ some w.heap.size := fun e => absurd (World.ownsRow.lt h.row _ e).2 (by omega)
  have HSA := Lib.hid ((LS.refl HS.out.at_))
  have HC : Hid (CB (w.alloc (.cells #[.int .i64 k, .int .u64 (s.a : Nat), .int .u64 (s.b : Nat), .int .u64 (s.c : Nat), .int .u64 (s.d : Nat), .int .i64 m, .int .i64 n, .slice a len c] 27)) 27 w.heap.size (nodeCells k s m n (.slice a len c))) := CB.new w _ _
  obtain ⟨P, hP⟩ : ∃ P, L.length = P := ⟨_, rfl⟩
  have HP := Lib.hid hP
  have hpt : (P : Int) < (T : Int) := by rw [← hP, ← hT]; simp; omega
  have hpl : P ≤ 1048576 := by omega
  clear hok hlaid hf hC h hb hi hlen hM hbq hT hcall hbeh r1 r2 r3 hP
  go_enter Try.func48, Try.ntmps48
  go_wp2_with (first
    | (go_at_call 47; refine (p_split 0 q _).mono ?_; rintro e w1 ⟨rfl, hb1⟩; have HS1 := Lib.hid (HS.out.below hb1); have HT1 := Lib.hid (HSA.out.below hb1); clear hb1)
    | (go_at_call 20; refine (p_add lb L v _ 2 .zero 0 q HS1.out.at_ (by have := HP.out; omega)).mono ?_; rintro e w2 ⟨rfl, v2, hS2⟩; rw [HP.out]; have HS2 := Lib.hid (HS1.out.trans hS2); have HT2 := Lib.hid (HT1.out.trans hS2); clear hS2; obtain ⟨⟨x0, x1, x2, x3, x4, x5, x6, x7⟩, -⟩ := (HT2.out.box HC.out hne1 hne2).eight)
    | (go_at_call 21; rw [← HP.out]; refine (HCALL.out v2 _ HS2.out.at_ (HS2.out.from0 HL0.out HB.out hw0)).mono ?_; rw [HP.out]; rintro e w3 ⟨rfl, v3, hS3⟩; have HS3 := Lib.hid (HS2.out.trans hS3); clear hS3; obtain ⟨g3, c3, hv3⟩ := Go.Joins.ownsRow_form HS3.out.at_.row (by simp; omega); rw [HT.out] at hv3; subst hv3; have HLC := Lib.hid HS3.out.at_; have hrow3 := HLC.out.row; rw [HT.out] at hrow3; have hc3 := owned_next hrow3 HT.out.symm; have hf3 := owned_free hrow3 (P * 7 + 5); rw [HP.out] at hc3; obtain ⟨⟨y0, -⟩, -⟩ := HLC.out.cells; clear hrow3))
  have HFIN := Lib.hid (HS3.out.trans (LC.turn (b := b) HLC.out HT.out))
  rw [HP.out] at HFIN ⊢
  go_ret
  exact ⟨rfl, _, HFIN.out⟩
end Go.Proofs.Ytboebadpohjolaa
