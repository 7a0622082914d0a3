import Derived.Test.YthhchpmlljfpjaaGreatNfA
import Derived.Test.YthhchpmlljfpjaaGreatNfL
import Derived.Test.YthhchpmlljfpjaaGreatNP1
import Derived.Lib.SmallJoins
import Derived.Test.YthhchpmlljfpjaaGreatNP2
import Derived.Test.YthhchpmlljfpjaaGreatNP4
namespace Go.Proofs.YthhchpmlljfpjaaGreat
open Go.RowKit

section
/-! What is laid stands behind what was laid: no state that stood before is turned. -/
def Behind (f : Nat → List St → List St × Nat) : Prop := ∀ q L, L <+: (f q L).1
theorem splits_behind : ∀ (bs : List Nat) (L : List St) (x : Nat), L <+: (splits bs L x).1
  | [], L, _ => List.prefix_refl L
  | b :: bs, L, x => by rw [splits]; exact (List.prefix_append L _).trans (splits_behind bs _ _)
theorem perh_behind {f : Nat → List St → List St × Nat} (hf : Behind f) (out : Nat) : ∀ (n : Nat) (L : List St) (q : Nat), L <+: (perhF f out n L q).1
  | 0, L, _ => List.prefix_refl L
  | n + 1, L, q => by rw [perhF]; exact (hf q L).trans ((List.prefix_append _ _).trans (perh_behind hf out n _ _))
theorem times_behind {f : Nat → List St → List St × Nat} (hf : Behind f) : ∀ (n : Nat) (L : List St) (q : Nat), L <+: (timesF f n L q).1
  | 0, L, _ => List.prefix_refl L
  | n + 1, L, q => by
    rw [timesF]
    split
    · exact hf q L
    · exact (hf q L).trans (times_behind hf n _ _)
theorem round_split {f : Nat → List St → List St × Nat} (hf : Behind f) (L : List St) (q : Nat) : ∃ M, (f L.length (L ++ [splitS 0 q])).1 = L ++ splitS 0 q :: M := by
  obtain ⟨M, h⟩ := hf L.length (L ++ [splitS 0 q])
  exact ⟨M, by rw [← h]; simp⟩
theorem round_turns {f : Nat → List St → List St × Nat} {L M : List St} {q : Nat} (h : (f L.length (L ++ [splitS 0 q])).1 = L ++ splitS 0 q :: M) : roundF f L q = (L ++ splitS (f L.length (L ++ [splitS 0 q])).2 q :: M, L.length) := by
  unfold roundF
  rw [h, List.set_append_right _ _ (Nat.le_refl _), Nat.sub_self]
  rfl
theorem round_behind {f : Nat → List St → List St × Nat} (hf : Behind f) (L : List St) (q : Nat) : L <+: (roundF f L q).1 := by
  obtain ⟨M, h⟩ := round_split hf L q
  rw [round_turns h]
  exact List.prefix_append L _
theorem rep_behind {f : Nat → List St → List St × Nat} (hf : Behind f) (m n : Int) : Behind (repF f m n) := by
  intro q L
  unfold repF
  split
  · exact (round_behind hf L q).trans (times_behind hf _ _ _)
  · exact (perh_behind hf _ _ L q).trans (times_behind hf _ _ _)
theorem layAll_behind (ps : List PT) (hp : ∀ t ∈ ps, Behind (layT t)) : ∀ q L, L <+: (layAll ps q L).1 := by
  induction ps with
  | nil => intro q L; rw [layAll]; exact List.prefix_refl L
  | cons t ts ih =>
    intro q L
    rw [layAll]
    exact (hp t (by simp) q L).trans (ih (fun u hu => hp u (List.mem_cons_of_mem _ hu)) q _)
theorem layRow_behind (ps : List PT) (hp : ∀ t ∈ ps, Behind (layT t)) : Behind (layRow ps) := by
  induction ps with
  | nil => intro q L; rw [layRow]; exact List.prefix_refl L
  | cons t ts ih =>
    intro q L
    rw [layRow]
    exact (ih (fun u hu => hp u (List.mem_cons_of_mem _ hu)) q L).trans (hp t (by simp) _ _)
theorem lay_behind (t : PT) : Behind (layT t) := by
  induction t using PT.ind with
  | h k s m n ps ih =>
    intro q L
    rw [layT_eq]
    split
    · exact List.prefix_append L _
    · split
      · exact List.prefix_append L _
      · split
        · exact List.prefix_append L _
        · split
          · exact layRow_behind ps ih q L
          · split
            · unfold choose
              split
              · exact layAll_behind ps ih q L
              · exact (layAll_behind ps ih q L).trans (splits_behind _ _ _)
            · split
              · cases ps with
                | nil => rw [layRep]; exact List.prefix_refl L
                | cons p r => rw [layRep]; exact rep_behind (ih p (by simp)) m n q L
              · exact List.prefix_refl L
end

section
variable {B : Nat}

/-! A state that stands is turned: the owned row behind a store into it. -/
theorem owned_set {w : World} {B : Nat} {e : TypeId} {S : Nat} {g n c : Nat} {xs : List Value} (h : w.ownsRow B e S (.slice (some ⟨g, 0, none⟩) n c) n xs) (i : Nat) (u : Value) : (w.setCell ⟨g, i, none⟩ u).ownsRow B e S (.slice (some ⟨g, 0, none⟩) n c) n (xs.set i u) := by
  obtain ⟨h1, h2⟩ := h
  refine ⟨by rw [List.length_set]; exact h1, ?_⟩
  rcases h2 with ⟨h2, _⟩ | ⟨g', cap, cur, hv, hg, hh, ha, hb, hc, hd⟩
  · cases h2
  · injection hv with e1 e2 e3
    injection e1 with e1
    injection e1 with e1
    subst e1 e3
    refine .inr ⟨g, c, cur.setIfInBounds i u, rfl, hg, heap_setCell_same w g i cur _ u hh, ha, hb, by rw [Array.size_setIfInBounds]; exact hc, ?_⟩
    rw [Array.toList_setIfInBounds, List.take_set, hd]
theorem next_set (L M : List St) (q b : Nat) : ((L ++ splitS 0 q :: M).flatMap St.cells).set (L.length * 7 + 5) (.int .i64 (b : Nat)) = (L ++ splitS b q :: M).flatMap St.cells := by
  rw [List.flatMap_append, List.flatMap_append, List.set_append_right _ _ (by rw [stflat_len]; omega), stflat_len, show L.length * 7 + 5 - 7 * L.length = 5 by omega]
  rfl
theorem owned_free {w : World} {B : Nat} {e : TypeId} {S : Nat} {g n c : Nat} {xs : List Value} (h : w.ownsRow B e S (.slice (some ⟨g, 0, none⟩) n c) n xs) (i : Nat) : w.frozen? ⟨g, i, none⟩ = false := by
  rcases h.2 with ⟨h2, _⟩ | ⟨g', cap, cur, hv, hg, hh, ha, hb, hc, hd⟩
  · cases h2
  · injection hv with e1 e2 e3
    injection e1 with e1
    injection e1 with e1
    subst e1 e3
    exact CB.free (show CB w e g cur.toList from by simpa [CB] using hh) i
theorem owned_next {w : World} {B g c n q : Nat} {L M : List St} (h : w.ownsRow B 48 7 (.slice (some ⟨g, 0, none⟩) n c) n ((L ++ splitS 0 q :: M).flatMap St.cells)) (hn : n = (L ++ splitS 0 q :: M).length) : w.cell? ⟨g, L.length * 7 + 5, none⟩ = some (.int .i64 0) := by
  have hlt : L.length < (L ++ splitS 0 q :: M).length := by simp
  rcases own_rowAt h hn with h9 | ⟨b, off, e, h9⟩
  · have := congrArg List.length h9
    rw [stflat_len] at this
    simp at this
  · injection e with e
    injection e with e1 e2
    subst e1 e2
    have h8 := stflat_at (L ++ splitS 0 q :: M) L.length hlt 5 (by decide)
    have he : (L ++ splitS 0 q :: M)[L.length]'hlt = splitS 0 q := by simp
    rw [he] at h8
    have := h9 (7 * L.length + 5) _ h8
    rw [show 0 + (7 * L.length + 5) = L.length * 7 + 5 by omega] at this
    exact this
theorem LC.turn {w : World} {lb g len c q b : Nat} {L M : List St} (h : LC B w lb (L ++ splitS 0 q :: M) (.slice (some ⟨g, 0, none⟩) len c)) (hl : (L ++ splitS 0 q :: M).length = len) :
    LS B w (w.setCell ⟨g, L.length * 7 + 5, none⟩ (.int .i64 (b : Nat))) lb (.slice (some ⟨g, 0, none⟩) len c) (L ++ splitS b q :: M) (.slice (some ⟨g, 0, none⟩) len c) := by
  have hne : g ≠ lb := fun e => h.ne (by rw [e]; rfl)
  have hl2 : (L ++ splitS b q :: M).length = len := by rw [← hl]; simp
  refine ⟨⟨CB.other h.box ⟨g, _, none⟩ hne _, ?_, h.ne, h.base⟩, (Chg.refl _ w).setCell (p := ⟨g, L.length * 7 + 5, none⟩) (.inr rfl) _, fun k hk => .inl hk⟩
  have h1 := h.row
  rw [hl] at h1
  have h2 := owned_set h1 (L.length * 7 + 5) (.int .i64 (b : Nat))
  rw [next_set] at h2
  rw [hl2]
  exact h2
set_option maxHeartbeats 2000000 in
set_option maxRecDepth 100000 in
theorem n_round (lb : Nat) (w0 : World) (k : Int) (s : S4) (m n : Int) (a : Option Addr) (len c : Nat) (ps : List NT) (hok : LayOK B lb w0 (.mk k s m n (.slice a len c) ps)) (hlaid : Laid (layT (NT.mk k s m n (.slice a len c) ps).pt) (cnt (NT.mk k s m n (.slice a len c) ps).pt)) (hw0 : w0.heap.size ≤ B)
    (L : List St) (q : Nat) (v : Value) (w : World) (h : LC B w lb L v) (hb : Below w0.heap.size w0 w) (hi : LI L q) (hlen : L.length + (cnt (NT.mk k s m n (.slice a len c) ps).pt + 1) ≤ 1048576) :
    Calls Tryz.prog 89 #[.pointer (some ⟨lb, 0, none⟩), nodeVal k s m n (.slice a len c), .int .i64 (q : Nat)] w fun e w' =>
      LRet B lb v (roundF (layT (NT.mk k s m n (.slice a len c) ps).pt) L q).1 (roundF (layT (NT.mk k s m n (.slice a len c) ps).pt) L q).2 w e w' := by
  unfold LayOK at hok
  have hbeh : Behind (layT (NT.mk k s m n (.slice a len c) ps).pt) := lay_behind _
  obtain ⟨f, hf⟩ : ∃ f, layT (NT.mk k s m n (.slice a len c) ps).pt = f := ⟨_, rfl⟩
  obtain ⟨C, hC⟩ : ∃ C, cnt (NT.mk k s m n (.slice a len c) ps).pt = C := ⟨_, rfl⟩
  rw [hf, hC] at hok hlaid
  rw [hC] at hlen
  rw [hf] at hbeh ⊢
  obtain ⟨M, hM⟩ := round_split hbeh L q
  rw [round_turns hM]
  obtain ⟨r1, r2, r3⟩ := hlaid L.length (L ++ [splitS 0 q]) (by simp) (by simp) (hi.2.2.split hi.1 hi.2.1)
  have hcall := fun v2 w2 h2 hb2 => hok (L ++ [splitS 0 q]) L.length v2 w2 h2 hb2 (by simp) (by simp) (hi.2.2.split hi.1 hi.2.1) (by simp; omega)
  obtain ⟨b, hbq⟩ : ∃ b, (f L.length (L ++ [splitS 0 q])).2 = b := ⟨_, rfl⟩
  rw [hM, hbq] at hcall
  rw [hbq]
  rw [hM] at r1
  obtain ⟨T, hT⟩ : ∃ T, (L ++ splitS 0 q :: M).length = T := ⟨_, rfl⟩
  rw [hT] at r1
  have HT := Lib.hid hT
  have HCALL := Lib.hid hcall
  have HL0 := Lib.hid h
  have hlt := h.lt
  have HB := Lib.hid hb
  have HS := Lib.hid ((LS.refl h).alloc (.cells #[.int .i64 k, .int .u64 (s.a : Nat), .int .u64 (s.b : Nat), .int .u64 (s.c : Nat), .int .u64 (s.d : Nat), .int .i64 m, .int .i64 n, .slice a len c] 42))
  have hne1 : w.heap.size ≠ lb := by omega
  have hne2 : v.ownBlock ≠ some w.heap.size := fun e => absurd (World.ownsRow.lt h.row _ e).2 (by omega)
  have HSA := Lib.hid ((LS.refl HS.out.at_))
  have HC : Hid (CB (w.alloc (.cells #[.int .i64 k, .int .u64 (s.a : Nat), .int .u64 (s.b : Nat), .int .u64 (s.c : Nat), .int .u64 (s.d : Nat), .int .i64 m, .int .i64 n, .slice a len c] 42)) 42 w.heap.size (nodeCells k s m n (.slice a len c))) := CB.new w _ _
  obtain ⟨P, hP⟩ : ∃ P, L.length = P := ⟨_, rfl⟩
  have HP := Lib.hid hP
  have hpt : (P : Int) < (T : Int) := by rw [← hP, ← hT]; simp; omega
  have hpl : P ≤ 1048576 := by omega
  clear hok hlaid hf hC h hb hi hlen hM hbq hT hcall hbeh r1 r2 r3 hP
  go_enter Tryz.func89, Tryz.ntmps89
  go_wp2_with (first
    | (go_at_call 88; refine (p_split 0 q _).mono ?_; rintro e w1 ⟨rfl, hb1⟩; have HS1 := Lib.hid (HS.out.below hb1); have HT1 := Lib.hid (HSA.out.below hb1); clear hb1)
    | (go_at_call 35; refine (p_add lb L v _ 2 .zero 0 q HS1.out.at_ (by have := HP.out; omega)).mono ?_; rintro e w2 ⟨rfl, v2, hS2⟩; rw [HP.out]; have HS2 := Lib.hid (HS1.out.trans hS2); have HT2 := Lib.hid (HT1.out.trans hS2); clear hS2; obtain ⟨⟨x0, x1, x2, x3, x4, x5, x6, x7⟩, -⟩ := (HT2.out.box HC.out hne1 hne2).eight)
    | (go_at_call 36; rw [← HP.out]; refine (HCALL.out v2 _ HS2.out.at_ (HS2.out.from0 HL0.out HB.out hw0)).mono ?_; rw [HP.out]; rintro e w3 ⟨rfl, v3, hS3⟩; have HS3 := Lib.hid (HS2.out.trans hS3); clear hS3; obtain ⟨g3, c3, hv3⟩ := Go.Joins.ownsRow_form HS3.out.at_.row (by simp; omega); rw [HT.out] at hv3; subst hv3; have HLC := Lib.hid HS3.out.at_; have hrow3 := HLC.out.row; rw [HT.out] at hrow3; have hc3 := owned_next hrow3 HT.out.symm; have hf3 := owned_free hrow3 (P * 7 + 5); rw [HP.out] at hc3; obtain ⟨⟨y0, -⟩, -⟩ := HLC.out.cells; clear hrow3))
  have HFIN := Lib.hid (HS3.out.trans (LC.turn (b := b) HLC.out HT.out))
  rw [HP.out] at HFIN ⊢
  go_ret
  exact ⟨rfl, _, HFIN.out⟩
end

section
variable {B : Nat}

/-! An endless repeat laid. -/
set_option maxHeartbeats 2000000 in
set_option maxRecDepth 100000 in
theorem n_repeatE (lb : Nat) (w0 : World) (k : Int) (s : S4) (m n : Int) (a : Option Addr) (len c : Nat) (ps : List NT) (hok : LayOK B lb w0 (.mk k s m n (.slice a len c) ps)) (hlaid : Laid (layT (NT.mk k s m n (.slice a len c) ps).pt) (cnt (NT.mk k s m n (.slice a len c) ps).pt)) (hw0 : w0.heap.size ≤ B)
    (b off bc : Nat) (hra : w0.rangeAt b off (nodeCells k s m n (.slice a len c))) (S : S4) (M : Nat) (hM : M ≤ 255)
    (L : List St) (q : Nat) (v : Value) (w : World) (h : LC B w lb L v) (hb : Below w0.heap.size w0 w) (hi : LI L q) (hlen : L.length + (1 * (cnt (NT.mk k s m n (.slice a len c) ps).pt + 1) + M * cnt (NT.mk k s m n (.slice a len c) ps).pt) ≤ 1048576) :
    Calls Tryz.prog 77 #[.pointer (some ⟨lb, 0, none⟩), nodeVal 6 S (M : Nat) (-1) (.slice (some ⟨b, off, none⟩) 1 bc), .int .i64 (q : Nat)] w fun e w' =>
      LRet B lb v (repF (layT (NT.mk k s m n (.slice a len c) ps).pt) (M : Nat) (-1) q L).1 (repF (layT (NT.mk k s m n (.slice a len c) ps).pt) (M : Nat) (-1) q L).2 w e w' := by
  have hrep : repF (layT (NT.mk k s m n (.slice a len c) ps).pt) (M : Nat) (-1) q L = timesF (layT (NT.mk k s m n (.slice a len c) ps).pt) M (roundF (layT (NT.mk k s m n (.slice a len c) ps).pt) L q).1 (roundF (layT (NT.mk k s m n (.slice a len c) ps).pt) L q).2 := by
    unfold repF
    rw [if_pos rfl, Int.toNat_natCast]
  rw [hrep]
  obtain ⟨g1, g2, g3⟩ := round_laid hlaid L q hi.1 hi.2.1 hi.2.2
  have hperh := fun W hW hB => n_round lb w0 k s m n a len c ps hok hlaid hw0 L q v W hW hB hi (by omega)
  have htimes := fun P p u W hW hB hI hl => n_times lb w0 k s m n a len c ps hok hlaid hw0 M P p u W hW hB hI (by omega) hl
  obtain ⟨f, hf⟩ : ∃ f, layT (NT.mk k s m n (.slice a len c) ps).pt = f := ⟨_, rfl⟩
  obtain ⟨C, hC⟩ : ∃ C, cnt (NT.mk k s m n (.slice a len c) ps).pt = C := ⟨_, rfl⟩
  rw [hf] at g1 g2 g3 hperh htimes ⊢
  rw [hC] at g1 htimes hlen
  obtain ⟨P, hP⟩ : ∃ P, (roundF f L q).1 = P := ⟨_, rfl⟩
  obtain ⟨p, hp⟩ : ∃ p, (roundF f L q).2 = p := ⟨_, rfl⟩
  rw [hP] at g1 g2 g3 hperh ⊢
  rw [hp] at g2 hperh ⊢
  have HPERH : Hid (∀ W, LC B W lb L v → Below w0.heap.size w0 W → Calls Tryz.prog 89 #[.pointer (some ⟨lb, 0, none⟩), nodeVal k s m n (.slice a len c), .int .i64 (q : Nat)] W fun e w' => LRet B lb v P p W e w') := hperh
  have HT : Hid (∀ u W, LC B W lb P u → Below w0.heap.size w0 W → Calls Tryz.prog 91 #[.pointer (some ⟨lb, 0, none⟩), nodeVal k s m n (.slice a len c), .int .i64 (M : Nat), .int .i64 (p : Nat)] W fun e w' => LRet B lb u (timesF f M P p).1 (timesF f M P p).2 W e w') := fun u W hW hB => htimes P p u W hW hB ⟨by have := hi.1; omega, g2, g3⟩ (by omega)
  have HRA : Hid (∀ W, Below w0.heap.size w0 W → W.rangeAt b off (nodeCells k s m n (.slice a len c))) := fun W hW => rangeAt_below hra hW
  have HH := Lib.hid h
  have hlt := h.lt
  have HB := Lib.hid hb
  have hbase := h.base
  have hne1 : w.heap.size ≠ lb := by omega
  have hne2 : v.ownBlock ≠ some w.heap.size := fun e => absurd (World.ownsRow.lt h.row _ e).2 (by omega)
  have hne3 : w.heap.size + 1 ≠ lb := by omega
  have hne4 : v.ownBlock ≠ some (w.heap.size + 1) := fun e => absurd (World.ownsRow.lt h.row _ e).2 (by omega)
  obtain ⟨O1, hO1⟩ : ∃ O1, Obj.cells #[.int .i64 6, .int .u64 (S.a : Nat), .int .u64 (S.b : Nat), .int .u64 (S.c : Nat), .int .u64 (S.d : Nat), .int .i64 ((M : Nat) : Int), .int .i64 (-1), .slice (some ⟨b, off, none⟩) 1 bc] 42 = O1 := ⟨_, rfl⟩
  have HSa := Lib.hid ((LS.refl h).alloc (.cells #[.int .i64 6, .int .u64 (S.a : Nat), .int .u64 (S.b : Nat), .int .u64 (S.c : Nat), .int .u64 (S.d : Nat), .int .i64 ((M : Nat) : Int), .int .i64 (-1), .slice (some ⟨b, off, none⟩) 1 bc] 42))
  have HBa := Lib.hid (HSa.out.from0 h hb hw0)
  have HS := Lib.hid (HSa.out.alloc (.cells #[.int .i64 k, .int .u64 (s.a : Nat), .int .u64 (s.b : Nat), .int .u64 (s.c : Nat), .int .u64 (s.d : Nat), .int .i64 m, .int .i64 n, .slice a len c] 42))
  have HSA := Lib.hid (LS.refl HS.out.at_)
  have HBs := Lib.hid (HS.out.from0 h hb hw0)
  have HCn : Hid (CB ((w.alloc (.cells #[.int .i64 6, .int .u64 (S.a : Nat), .int .u64 (S.b : Nat), .int .u64 (S.c : Nat), .int .u64 (S.d : Nat), .int .i64 ((M : Nat) : Int), .int .i64 (-1), .slice (some ⟨b, off, none⟩) 1 bc] 42)).alloc (.cells #[.int .i64 k, .int .u64 (s.a : Nat), .int .u64 (s.b : Nat), .int .u64 (s.c : Nat), .int .u64 (s.d : Nat), .int .i64 m, .int .i64 n, .slice a len c] 42)) 42 w.heap.size (nodeCells 6 S (M : Nat) (-1) (.slice (some ⟨b, off, none⟩) 1 bc))) := CB.alloc (CB.new w _ _) _
  have HCp : Hid (CB ((w.alloc (.cells #[.int .i64 6, .int .u64 (S.a : Nat), .int .u64 (S.b : Nat), .int .u64 (S.c : Nat), .int .u64 (S.d : Nat), .int .i64 ((M : Nat) : Int), .int .i64 (-1), .slice (some ⟨b, off, none⟩) 1 bc] 42)).alloc (.cells #[.int .i64 k, .int .u64 (s.a : Nat), .int .u64 (s.b : Nat), .int .u64 (s.c : Nat), .int .u64 (s.d : Nat), .int .i64 m, .int .i64 n, .slice a len c] 42)) 42 (w.heap.size + 1) (nodeCells k s m n (.slice a len c))) := cb2 w _ _ _
  clear h hb hi hlen hperh htimes hf hC hP hp g1 g2 g3 hrep hok hlaid hra hO1
  go_enter Tryz.func77, Tryz.ntmps77
  go_wp2_with (first | (refine wpl_loadN (.tmp 10) rfl rfl (g := b) (off := off) (k := k) (s := s) (m := m) (n := n) (p := .slice a len c) ?_ ?_ ?_; rfl; exact HRA.out _ HBa.out) | (go_at_call 89; refine (HPERH.out _ HS.out.at_ HBs.out).mono ?_; rintro e w2 ⟨rfl, v2, hS2⟩; obtain ⟨⟨x0, x1, x2, x3, x4, x5, x6, x7⟩, -⟩ := (hS2.box HCn.out hne1 hne2).eight; obtain ⟨⟨y0, y1, y2, y3, y4, y5, y6, y7⟩, -⟩ := (hS2.box HCp.out hne3 hne4).eight; have HS2 := Lib.hid (HS.out.trans hS2); clear hS2) | (go_at_call 91; refine (HT.out v2 _ HS2.out.at_ (HS2.out.from0 HH.out HB.out hw0)).mono ?_; rintro e w3 ⟨rfl, v3, hS3⟩; have HS3 := Lib.hid (HS2.out.trans hS3); clear hS3))
  go_ret
  exact ⟨rfl, _, HS3.out⟩
set_option maxHeartbeats 1000000 in
set_option maxRecDepth 100000 in
theorem n_layRepE (lb : Nat) (w0 : World) (k : Int) (s : S4) (m n : Int) (a : Option Addr) (len c : Nat) (ps : List NT) (hok : LayOK B lb w0 (.mk k s m n (.slice a len c) ps)) (hlaid : Laid (layT (NT.mk k s m n (.slice a len c) ps).pt) (cnt (NT.mk k s m n (.slice a len c) ps).pt)) (hw0 : w0.heap.size ≤ B)
    (b off bc : Nat) (hra : w0.rangeAt b off (nodeCells k s m n (.slice a len c))) (S : S4) (M : Nat) (hM : M ≤ 255) : LayOK B lb w0 (.mk 6 S (M : Nat) (-1) (.slice (some ⟨b, off, none⟩) 1 bc) [.mk k s m n (.slice a len c) ps]) := by
  intro L q v w h hb h0 hq hg hlen
  have e1 : layT (NT.mk 6 S (M : Nat) (-1) (.slice (some ⟨b, off, none⟩) 1 bc) [.mk k s m n (.slice a len c) ps]).pt q L = repF (layT (NT.mk k s m n (.slice a len c) ps).pt) (M : Nat) (-1) q L := by rw [NT.pt_mk, layT_eq]; simp [layRep]
  have e2 : cnt (NT.mk 6 S (M : Nat) (-1) (.slice (some ⟨b, off, none⟩) 1 bc) [.mk k s m n (.slice a len c) ps]).pt = 1 * (cnt (NT.mk k s m n (.slice a len c) ps).pt + 1) + M * cnt (NT.mk k s m n (.slice a len c) ps).pt := by
    rw [NT.pt_mk, cnt]
    have : again (M : Nat) (-1) = 1 := rfl
    simp [cntR, this]
  rw [e1]
  rw [e2] at hlen
  have hcall := fun W hW hB => n_repeatE lb w0 k s m n a len c ps hok hlaid hw0 b off bc hra S M hM L q v W hW hB ⟨h0, hq, hg⟩ hlen
  obtain ⟨R, hR⟩ : ∃ R, repF (layT (NT.mk k s m n (.slice a len c) ps).pt) (M : Nat) (-1) q L = R := ⟨_, rfl⟩
  rw [hR] at hcall ⊢
  have HCALL := Lib.hid hcall
  show Calls Tryz.prog 36 #[.pointer (some ⟨lb, 0, none⟩), nodeVal 6 S (M : Nat) (-1) (.slice (some ⟨b, off, none⟩) 1 bc), .int .i64 (q : Nat)] w _
  have HS := Lib.hid ((LS.refl h).alloc (.cells #[.int .i64 6, .int .u64 (S.a : Nat), .int .u64 (S.b : Nat), .int .u64 (S.c : Nat), .int .u64 (S.d : Nat), .int .i64 ((M : Nat) : Int), .int .i64 (-1), .slice (some ⟨b, off, none⟩) 1 bc] 42))
  have HSD := Lib.hid (HS.out.below ((Below.refl _ _).drew))
  have HBD := Lib.hid (HSD.out.from0 h hb hw0)
  obtain ⟨⟨c0, c1, c2, c3, c4, c5, c6, c7⟩, f0⟩ := HS.out.at_.cells
  clear h hb hg e1 e2 hcall hR hok hlaid hra hlen
  go_enter Tryz.func36, Tryz.ntmps36
  go_wp2
  go_region_with (go_at_call 77; refine (HCALL.out _ HSD.out.at_ HBD.out).mono ?_; rintro e w2 ⟨rfl, v2, hS2⟩; have HS2 := Lib.hid (HSD.out.trans hS2); clear hS2)
  all_goals
    go_wp2
    go_ret
    exact ⟨rfl, _, HS2.out⟩
end

section
variable {B : Nat}

/-! Every tree is laid; Make of any tree. -/
set_option maxHeartbeats 1000000 in
set_option maxRecDepth 100000 in
theorem n_layRow (lb : Nat) (w0 : World) (s : S4) (m n : Int) (a : Option Addr) (c : Nat) (ps : List NT) (hok : ∀ t ∈ ps, LayOK B lb w0 t) (hlaid : ∀ t ∈ ps.map NT.pt, Laid (layT t) (cnt t)) (hw0 : w0.heap.size ≤ B)
    (hrow : RowAt w0 a (ps.flatMap NT.cells)) (hps : ∀ t ∈ ps, t.Lies w0) (hpl : ps.length ≤ 1099511627776) : LayOK B lb w0 (.mk 4 s m n (.slice a ps.length c) ps) := by
  intro L q v w h hb h0 hq hg hlen
  have e1 : layT (NT.mk 4 s m n (.slice a ps.length c) ps).pt q L = layRow (ps.map NT.pt) q L := by rw [NT.pt_mk, layT_eq]; rfl
  have e2 : cnt (NT.mk 4 s m n (.slice a ps.length c) ps).pt = cntL (ps.map NT.pt) := by rw [NT.pt_mk, cnt]; rfl
  rw [e1]
  rw [e2] at hlen
  have hcall := fun W hW hB => n_row lb w0 4 s m n a c ps hok hlaid hw0 hrow hps hpl L q v W hW hB ⟨h0, hq, hg⟩ hlen
  obtain ⟨R, hR⟩ : ∃ R, layRow (ps.map NT.pt) q L = R := ⟨_, rfl⟩
  obtain ⟨len, hl⟩ : ∃ len, ps.length = len := ⟨_, rfl⟩
  rw [hR] at hcall ⊢
  rw [hl] at hcall
  have HCALL := Lib.hid hcall
  show Calls Tryz.prog 36 #[.pointer (some ⟨lb, 0, none⟩), nodeVal 4 s m n (.slice a ps.length c), .int .i64 (q : Nat)] w _
  rw [hl]
  have HS := Lib.hid ((LS.refl h).alloc (.cells #[.int .i64 4, .int .u64 (s.a : Nat), .int .u64 (s.b : Nat), .int .u64 (s.c : Nat), .int .u64 (s.d : Nat), .int .i64 m, .int .i64 n, .slice a len c] 42))
  have HSD := Lib.hid (HS.out.below ((Below.refl _ _).drew))
  have HBD := Lib.hid (HSD.out.from0 h hb hw0)
  obtain ⟨⟨c0, c1, c2, c3, c4, c5, c6, c7⟩, f0⟩ := HS.out.at_.cells
  clear h hb hg e1 e2 hcall hR hok hlaid hrow hps hlen hl hpl
  go_enter Tryz.func36, Tryz.ntmps36
  go_wp2
  go_region_with (go_at_call 75; refine (HCALL.out _ HSD.out.at_ HBD.out).mono ?_; rintro e w2 ⟨rfl, v2, hS2⟩; have HS2 := Lib.hid (HSD.out.trans hS2); clear hS2)
  all_goals
    go_wp2
    go_ret
    exact ⟨rfl, _, HS2.out⟩
set_option maxHeartbeats 1000000 in
set_option maxRecDepth 100000 in
theorem n_layChoice (lb : Nat) (w0 : World) (s : S4) (m n : Int) (a : Option Addr) (c : Nat) (ps : List NT) (hok : ∀ t ∈ ps, LayOK B lb w0 t) (hlaid : ∀ t ∈ ps.map NT.pt, Laid (layT t) (cnt t)) (hw0 : w0.heap.size ≤ B)
    (hrow : RowAt w0 a (ps.flatMap NT.cells)) (hps : ∀ t ∈ ps, t.Lies w0) (last : Nat) (hpl : ps.length = last + 1) : LayOK B lb w0 (.mk 5 s m n (.slice a ps.length c) ps) := by
  intro L q v w h hb h0 hq hg hlen
  have e1 : layT (NT.mk 5 s m n (.slice a ps.length c) ps).pt q L = choose (layAll (ps.map NT.pt) q L) q := by rw [NT.pt_mk, layT_eq]; rfl
  have e2 : cnt (NT.mk 5 s m n (.slice a ps.length c) ps).pt = cntL (ps.map NT.pt) + last := by
    rw [NT.pt_mk, cnt]
    show cntL (ps.map NT.pt) + (ps.map NT.pt).length - 1 = _
    rw [List.length_map, hpl]
    omega
  rw [e1]
  rw [e2] at hlen
  have hcall := fun W hW hB => n_choice lb w0 5 s m n a c ps hok hlaid hw0 hrow hps last hpl (by omega) L q v W hW hB ⟨h0, hq, hg⟩ (by omega)
  obtain ⟨R, hR⟩ : ∃ R, choose (layAll (ps.map NT.pt) q L) q = R := ⟨_, rfl⟩
  obtain ⟨len, hl⟩ : ∃ len, ps.length = len := ⟨_, rfl⟩
  rw [hR] at hcall ⊢
  rw [hl] at hcall
  have HCALL := Lib.hid hcall
  show Calls Tryz.prog 36 #[.pointer (some ⟨lb, 0, none⟩), nodeVal 5 s m n (.slice a ps.length c), .int .i64 (q : Nat)] w _
  rw [hl]
  have HS := Lib.hid ((LS.refl h).alloc (.cells #[.int .i64 5, .int .u64 (s.a : Nat), .int .u64 (s.b : Nat), .int .u64 (s.c : Nat), .int .u64 (s.d : Nat), .int .i64 m, .int .i64 n, .slice a len c] 42))
  have HSD := Lib.hid (HS.out.below ((Below.refl _ _).drew))
  have HBD := Lib.hid (HSD.out.from0 h hb hw0)
  obtain ⟨⟨c0, c1, c2, c3, c4, c5, c6, c7⟩, f0⟩ := HS.out.at_.cells
  clear h hb hg e1 e2 hcall hR hok hlaid hrow hps hlen hl hpl
  go_enter Tryz.func36, Tryz.ntmps36
  go_wp2
  go_region_with (go_at_call 76; refine (HCALL.out _ HSD.out.at_ HBD.out).mono ?_; rintro e w2 ⟨rfl, v2, hS2⟩; have HS2 := Lib.hid (HSD.out.trans hS2); clear hS2)
  all_goals
    go_wp2
    go_ret
    exact ⟨rfl, _, HS2.out⟩
theorem n_lays (lb : Nat) (w0 : World) (hw0 : w0.heap.size ≤ B) (t : NT) : may t.pt = true → setsOk t.pt → nodes t.pt ≤ 1099511627776 → t.Lies w0 → LayOK B lb w0 t := by
  induction t using NT.ind with
  | h k s m n p ps ih =>
    intro hmay hsets hnod hlies
    obtain ⟨⟨a, c, rfl, hrow⟩, hps⟩ := NT.Lies_mk.1 hlies
    obtain ⟨hl1, hnp⟩ := nodes_part (k := k) (s := s) (m := m) (n := n) (p := .slice a ps.length c) (ps := ps)
    have hlb : ps.length ≤ 1099511627776 := by omega
    rw [NT.pt_mk] at hmay hsets
    obtain ⟨hmayL, hk⟩ := may_kinds hmay
    rw [List.length_map] at hk
    have hsetsL := (show s.fit ∧ setsOkL (ps.map NT.pt) from by rw [setsOk] at hsets; exact hsets).2
    have hmays : ∀ t ∈ ps, may t.pt = true := fun t ht => mayL_mem hmayL _ (List.mem_map_of_mem ht)
    have hsetss : ∀ t ∈ ps, setsOk t.pt := fun t ht => setsOkL_mem hsetsL _ (List.mem_map_of_mem ht)
    have hok : ∀ t ∈ ps, LayOK B lb w0 t := fun t ht => ih t ht (hmays t ht) (hsetss t ht) (Nat.le_trans (hnp t ht) hnod) (hps t ht)
    have hlaid : ∀ t ∈ ps.map NT.pt, Laid (layT t) (cnt t) := fun t ht => lay_laid t (mayL_mem hmayL t ht) (setsOkL_mem hsetsL t ht)
    rcases hk with rfl | rfl | rfl | rfl | ⟨rfl, hl2⟩ | ⟨rfl, hl2⟩ | ⟨rfl, hl2, hitv⟩
    · exact n_layNone lb w0 s m n _ ps ⟨_, _, _, rfl⟩
    · exact p_laySet lb w0 s m n _ ps ⟨_, _, _, rfl⟩
    · exact n_layBegin lb w0 s m n _ ps ⟨_, _, _, rfl⟩
    · exact n_layEnd lb w0 s m n _ ps ⟨_, _, _, rfl⟩
    · exact n_layRow lb w0 s m n a c ps hok hlaid hw0 hrow hps hlb
    · exact n_layChoice lb w0 s m n a c ps hok hlaid hw0 hrow hps (ps.length - 1) (by omega)
    · obtain ⟨h1, h2, h3⟩ := itv_parts hitv
      obtain ⟨M, rfl⟩ : ∃ M : Nat, m = (M : Int) := ⟨m.toNat, by omega⟩
      obtain ⟨b, off, k1, s1, m1, n1, ta, tl, tc, tps, rfl, ht, htm, hra⟩ := lies_elem hrow hps (i := 0) (by omega)
      have hps1 : ps = [.mk k1 s1 m1 n1 (.slice ta tl tc) tps] := by
        match ps, hl2, ht with
        | [x], _, ht => rw [← ht]; rfl
      have hok1 := hok _ htm
      have hld1 := hlaid _ (List.mem_map_of_mem htm)
      rw [show off + 0 * 8 = off by omega] at hra
      rw [hps1]
      show LayOK B lb w0 (.mk 6 s (M : Nat) n (.slice (some ⟨b, off, none⟩) 1 c) _)
      rcases h3 with rfl | ⟨h3, h4⟩
      · exact n_layRepE lb w0 k1 s1 m1 n1 ta tl tc tps hok1 hld1 hw0 b off c hra s M (by omega)
      · obtain ⟨A, hA⟩ : ∃ A : Nat, n = ((M + A : Nat) : Int) := ⟨(n - M).toNat, by omega⟩
        rw [hA]
        exact n_layRepB lb w0 k1 s1 m1 n1 ta tl tc tps hok1 hld1 hw0 b off c hra s M (M + A) A (by omega) rfl
theorem size_parts {t : PT} (h : sizeE t = 0) : chk t = 0 ∧ cnt t + 1 ≤ 4096 := by
  unfold sizeE at h
  by_cases h1 : chk t = 0
  · rw [if_pos h1] at h
    by_cases h2 : cnt t + 1 ≤ 4096
    · exact ⟨h1, h2⟩
    · rw [if_neg h2] at h
      omega
  · rw [if_neg h1] at h
    exact absurd h h1
theorem n_num_sets (t : NT) : t.num → setsOk t.pt := by
  induction t using NT.ind with
  | h k s m n p ps ih =>
    rw [NT.num_mk, NT.pt_mk, setsOk]
    rintro ⟨_, _, _, hs, hps⟩
    refine ⟨hs, ?_⟩
    clear hs
    induction ps with
    | nil => trivial
    | cons x xs ih2 => exact ⟨ih x (by simp) (hps x (by simp)), ih2 (fun t ht => ih t (List.mem_cons_of_mem _ ht)) (fun t ht => hps t (List.mem_cons_of_mem _ ht))⟩
theorem n_Make (t : NT) (w : World) (hn : t.num) (hl : t.Lies w) (h0 : sizeE t.pt = 0) : Calls Tryz.prog 20 #[t.val] w fun e w' => MadeM t.pt w e w' := by
  obtain ⟨k, s, m, n, p, ps⟩ := t
  obtain ⟨⟨a, c, rfl, hrow⟩, hps⟩ := NT.Lies_mk.1 hl
  obtain ⟨h1, h2⟩ := chk_zero (size_parts h0).1
  exact n_Make_ok k s m n a _ c ps w hn hl h0 fun B lb w0 hw hl0 => n_lays lb w0 hw _ h2 (n_num_sets _ hn) (by omega) hl0
end
end Go.Proofs.YthhchpmlljfpjaaGreat
