import Derived.Test.YtboebadpohjolaaPuD
import Derived.Test.YtboebadpohjolaaNfO
import Derived.Test.YtboebadpohjolaaNfRe
import Derived.Test.YtboebadpohjolaaPuN
namespace Go.Proofs.Ytboebadpohjolaa
open Go.RowKit

section
/-! A tree that is lent: marks stand in the spare room of its lists. -/
def markN : NT := .mk (-77) .zero 0 0 (.slice none 0 0) []
def marks (j : Nat) : List Value := (List.replicate j markN).flatMap NT.cells
mutual
/-- Marks stand behind each list; the lists' blocks are of S. -/
def NT.Spare (w : World) (S : Nat → Prop) : NT → Prop | .mk _ _ _ _ p ps => (∃ g c, p = .slice (some ⟨g, 0, none⟩) ps.length c ∧ ps.length + 3 ≤ c ∧ w.rangeAt g 0 (ps.flatMap NT.cells ++ marks 3) ∧ S g) ∧ NT.SpareL w S ps
def NT.SpareL (w : World) (S : Nat → Prop) : List NT → Prop | [] => True | t :: ts => t.Spare w S ∧ NT.SpareL w S ts
end
theorem NT.SpareL_all {w : World} {S : Nat → Prop} (ps : List NT) : NT.SpareL w S ps ↔ ∀ t ∈ ps, t.Spare w S := by
  induction ps with
  | nil => simp [NT.SpareL]
  | cons t ts ih => rw [NT.SpareL, ih]; simp
theorem NT.Spare_mk {w : World} {S : Nat → Prop} {k : Int} {s : S4} {m n : Int} {p : Value} {ps : List NT} : (NT.mk k s m n p ps).Spare w S ↔ (∃ g c, p = .slice (some ⟨g, 0, none⟩) ps.length c ∧ ps.length + 3 ≤ c ∧ w.rangeAt g 0 (ps.flatMap NT.cells ++ marks 3) ∧ S g) ∧ ∀ t ∈ ps, t.Spare w S := by rw [NT.Spare, NT.SpareL_all]
theorem NT.Spare.turn {w w' : World} {S S' : Nat → Prop} (h1 : ∀ g, S g → ∀ j v, w.cell? ⟨g, j, none⟩ = some v → w'.cell? ⟨g, j, none⟩ = some v) (h2 : ∀ g, S g → S' g) (t : NT) : t.Spare w S → t.Spare w' S' := by
  induction t using NT.ind with
  | h k s m n p ps ih =>
    rw [NT.Spare_mk, NT.Spare_mk]
    rintro ⟨⟨g, c, e, hc, hr, hs⟩, hps⟩
    exact ⟨⟨g, c, e, hc, fun j v hv => h1 g hs _ v (hr j v hv), h2 g hs⟩, fun t ht => ih t ht (hps t ht)⟩
theorem NT.Spare.below {w w' : World} {S : Nat → Prop} (hb : Below w.heap.size w w') (t : NT) : t.Spare w S → t.Spare w' S := NT.Spare.turn (fun _ _ _ _ h => below_cell hb _ _ h) (fun _ h => h) t
theorem NT.Spare.chg {w w' : World} {S S' T : Nat → Prop} (hc : Chg T w w') (h1 : ∀ g, S g → ¬ T g) (h2 : ∀ g, S g → S' g) (t : NT) : t.Spare w S → t.Spare w' S' := NT.Spare.turn (fun g hg _ _ h => hc.cell h (h1 g hg)) h2 t
theorem range_pre {w : World} {g o : Nat} {a b : List Value} (h : w.rangeAt g o (a ++ b)) : w.rangeAt g o a := fun j v hv => h j v (by
  have hj : j < a.length := (List.getElem?_eq_some_iff.1 hv).1
  rw [List.getElem?_append_left hj]; exact hv)
theorem NT.Spare.lies {w : World} {S : Nat → Prop} (t : NT) : t.Spare w S → t.Lies w := by
  induction t using NT.ind with
  | h k s m n p ps ih =>
    rw [NT.Spare_mk, NT.Lies_mk]
    rintro ⟨⟨g, c, e, hc, hr, hs⟩, hps⟩
    exact ⟨⟨_, c, e, .inr ⟨g, 0, rfl, range_pre hr⟩⟩, fun t ht => ih t ht (hps t ht)⟩
theorem marks_succ (j : Nat) : marks (j + 1) = marks j ++ markN.cells := by
  unfold marks
  rw [List.replicate_succ', List.flatMap_append]
  simp
/-- The row that a lent tree's parts make. -/
structure LeI (w : World) (k : Int) (s : S4) (m n : Int) (o : Nat) (ps : List PT) (i j : Nat) (W : World) (pv : Value) (qs : List NT) : Prop where
  b : Below w.heap.size w W
  out : CB W 27 o (nodeCells k s m n pv)
  row : W.ownsRow (o + 1) 27 8 pv (i + j) (qs.flatMap NT.cells ++ marks j)
  pts : qs.map NT.pt = ps.take i
  spare : ∀ t ∈ qs, t.Spare W fun g => o + 1 ≤ g ∧ g < W.heap.size ∧ pv.ownBlock ≠ some g
set_option maxHeartbeats 4000000 in
set_option maxRecDepth 100000 in
theorem n_lentNode (t : NT) : ∀ (w : World), nodes t.pt ≤ 1099511627000 → t.Lies w → Calls Try.prog 6 #[t.val] w fun e w' => ∃ (g c : Nat) (qs : List NT), e = .returned (nodeVal t.k t.s t.m t.n (.slice (some ⟨g, 0, none⟩) qs.length c)) ∧ qs.map NT.pt = t.ps.map NT.pt ∧ (NT.mk t.k t.s t.m t.n (.slice (some ⟨g, 0, none⟩) qs.length c) qs).Spare w' (fun g => w.heap.size ≤ g ∧ g < w'.heap.size) ∧ Below w.heap.size w w' := by
  induction t using NT.ind with
  | h k s m n p ps ih =>
    intro w hnod hlies
    obtain ⟨⟨a, c, rfl, hrow⟩, hps⟩ := NT.Lies_mk.1 hlies
    obtain ⟨hl1, hnp⟩ := nodes_part (k := k) (s := s) (m := m) (n := n) (p := .slice a ps.length c) (ps := ps)
    have hlb : ps.length ≤ 1099511627000 := by omega
    have hnps : ∀ t ∈ ps, nodes t.pt ≤ 1099511627000 := fun t ht => Nat.le_trans (hnp t ht) hnod
    show Calls Try.prog 6 #[nodeVal k s m n (.slice a ps.length c)] w fun e w' => ∃ (g c : Nat) (qs : List NT), e = .returned (nodeVal k s m n (.slice (some ⟨g, 0, none⟩) qs.length c)) ∧ qs.map NT.pt = ps.map NT.pt ∧ (NT.mk k s m n (.slice (some ⟨g, 0, none⟩) qs.length c) qs).Spare w' (fun g => w.heap.size ≤ g ∧ g < w'.heap.size) ∧ Below w.heap.size w w'
    obtain ⟨len, hlen⟩ : ∃ len, ps.length = len := ⟨_, rfl⟩
    rw [hlen] at hlb
    have HROW := Lib.hid hrow
    have HPS := Lib.hid hps
    have HIH := Lib.hid ih
    have HL := Lib.hid hlen
    have HNP := Lib.hid hnps
    rw [hlen]
    clear hrow hps ih hlies hlen hnod hl1 hnp hnps
    go_enter Try.func6, Try.ntmps6
    go_wp2
    obtain ⟨W1, hW1⟩ : ∃ W1, ((w.alloc (.cells #[.int .i64 k, .int .u64 (s.a : Nat), .int .u64 (s.b : Nat), .int .u64 (s.c : Nat), .int .u64 (s.d : Nat), .int .i64 m, .int .i64 n, .slice a len c] 27)).alloc (.cells #[.int .i64 0, .int .u64 0, .int .u64 0, .int .u64 0, .int .u64 0, .int .i64 0, .int .i64 0, .slice none 0 0] 27)).alloc (.cells #[.int .i64 k, .int .u64 (s.a : Nat), .int .u64 (s.b : Nat), .int .u64 (s.c : Nat), .int .u64 (s.d : Nat), .int .i64 m, .int .i64 n, .slice none 0 0] 27) = W1 := ⟨_, rfl⟩
    have HA1 : Hid (CB W1 27 w.heap.size (nodeCells k s m n (.slice a len c))) := by rw [← hW1]; exact ((CB.new w _ _).alloc _).alloc _
    have HR1 : Hid (CB W1 27 (w.heap.size + 1) (nodeCells 0 .zero 0 0 (.slice none 0 0))) := by rw [← hW1]; exact (cb2 w _ _ _).alloc _
    have HO1 : Hid (CB W1 27 (w.heap.size + 1 + 1) (nodeCells k s m n (.slice none 0 0))) := by rw [← hW1]; exact cb3 w _ _ _ _
    have HB1 : Hid (Below w.heap.size w W1) := by rw [← hW1]; exact (((Below.refl _ w).alloc (Nat.le_refl _) _).alloc (by simp) _).alloc (by simp; omega) _
    have hsz1 : W1.heap.size = w.heap.size + 3 := by rw [← hW1]; simp
    rw [hW1]
    go_loopw [4] (fun iv wr => ∃ (i : Nat) (pv : Value) (qs : List NT), i ≤ len ∧ iv = .int .i64 (i : Nat) ∧ Hid (LeI w k s m n (w.heap.size + 1 + 1) (ps.map NT.pt) i 0 wr pv qs) ∧ Hid (CB wr 27 w.heap.size (nodeCells k s m n (.slice a len c))) ∧ Hid (CB wr 27 (w.heap.size + 1) (nodeCells 0 .zero 0 0 (.slice none 0 0)))) (fun iv _ => len - (intOf iv).toNat)
    case atStart => exact ⟨0, _, [], by omega, rfl, ⟨HB1.out, HO1.out, World.ownsRow_nil _ _ _ _, rfl, fun t ht => (by cases ht)⟩, HA1.out, HR1.out⟩
    case round =>
      obtain ⟨i, pv, qs, hi, rfl, HI, HA, HR⟩ := hrel
      obtain ⟨⟨x0, x1, x2, x3, x4, x5, x6, x7⟩, -⟩ := HA.out.eight
      by_cases hlt : i < len
      · have hip : i < ps.length := by rw [HL.out]; exact hlt
        obtain ⟨b, off, tk, tS, tm, tn, ta, tl, tc, tps, rfl, ht, htm, hra⟩ := lies_elem HROW.out HPS.out hip
        have HRA := Lib.hid (rangeAt_below hra HI.out.b)
        have hpt : (ps.map NT.pt)[i]? = some (NT.mk tk tS tm tn (.slice ta tl tc) tps).pt := by rw [List.getElem?_map, List.getElem?_eq_getElem hip, ht]; rfl
        have htake : (ps.map NT.pt).take (i + 1) = (ps.map NT.pt).take i ++ [(NT.mk tk tS tm tn (.slice ta tl tc) tps).pt] := by rw [List.take_add_one, hpt]; rfl
        have hcall : ∀ W, Below w.heap.size w W → Calls Try.prog 6 #[nodeVal tk tS tm tn (.slice ta tl tc)] W fun e w' => ∃ (g c : Nat) (us : List NT), e = .returned (nodeVal tk tS tm tn (.slice (some ⟨g, 0, none⟩) us.length c)) ∧ us.map NT.pt = tps.map NT.pt ∧ (NT.mk tk tS tm tn (.slice (some ⟨g, 0, none⟩) us.length c) us).Spare w' (fun g => W.heap.size ≤ g ∧ g < w'.heap.size) ∧ Below W.heap.size W w' := fun W hW => HIH.out _ htm W (HNP.out _ htm) ((HPS.out _ htm).below hW)
        have HC1 := Lib.hid hcall
        have HTK := Lib.hid htake
        clear hcall hpt htake ht hra hip
        have hsm : ∀ k, pv.ownBlock = some k → k < wr.heap.size := fun k e => (World.ownsRow.lt HI.out.row _ e).2
        have HSM := Lib.hid hsm
        have hszr := HI.out.b.size
        clear hsm
        go_wp2_with (first | (refine wpl_loadN (.tmp 19) rfl rfl (g := b) (off := off + i * 8) (k := tk) (s := tS) (m := tm) (n := tn) (p := .slice ta tl tc) ?_ HRA.out ?_; rfl) | (go_at_call 6; refine (HC1.out _ HI.out.b).mono ?_; rintro e w3 ⟨yg, yc, us, rfl, hyp, hys, hb3⟩; have HYP := Lib.hid hyp; have HYS := Lib.hid hys; have hl3 := CB.lt (CB.below HI.out.out hb3); have hs3 : wr.heap.size ≤ w3.heap.size := hb3.size; have hb4 := hb3.alloc hb3.size (.cells #[.int .i64 tk, .int .u64 (tS.a : Nat), .int .u64 (tS.b : Nat), .int .u64 (tS.c : Nat), .int .u64 (tS.d : Nat), .int .i64 tm, .int .i64 tn, .slice (some ⟨yg, 0, none⟩) us.length yc] 27); have hb5 := hb4.alloc hb4.size (.cells #[.int .i64 tk, .int .u64 (tS.a : Nat), .int .u64 (tS.b : Nat), .int .u64 (tS.c : Nat), .int .u64 (tS.d : Nat), .int .i64 tm, .int .i64 tn, .slice (some ⟨yg, 0, none⟩) us.length yc] 27); have HB5 := Lib.hid hb5; have HO4 := Lib.hid (CB.below HI.out.out hb4); have HO5 := Lib.hid (CB.below HI.out.out hb5); have HA5 := Lib.hid (CB.below HA.out hb5); have HR5 := Lib.hid (CB.below HR.out hb5); have HW5 := Lib.hid (own_below HI.out.row hb5); have HX5 : Hid (CB ((w3.alloc (.cells #[.int .i64 tk, .int .u64 (tS.a : Nat), .int .u64 (tS.b : Nat), .int .u64 (tS.c : Nat), .int .u64 (tS.d : Nat), .int .i64 tm, .int .i64 tn, .slice (some ⟨yg, 0, none⟩) us.length yc] 27)).alloc (.cells #[.int .i64 tk, .int .u64 (tS.a : Nat), .int .u64 (tS.b : Nat), .int .u64 (tS.c : Nat), .int .u64 (tS.d : Nat), .int .i64 tm, .int .i64 tn, .slice (some ⟨yg, 0, none⟩) us.length yc] 27)) 27 (w3.heap.size + 1) (nodeCells tk tS tm tn (.slice (some ⟨yg, 0, none⟩) us.length yc))) := cb2 w3 _ _ _; obtain ⟨⟨o0, o1, o2, o3, o4, o5, o6, o7⟩, -⟩ := HO4.out.eight; clear hyp hys hb3 hb4 hb5) | (refine wpl_appS 25 27 Try.underlying25 infoNode3 rfl (by decide) (by decide) rfl (.tmp 23) (.tmp 25) rfl (w.heap.size + 1 + 1 + 1) pv (i + 0) (qs.flatMap NT.cells ++ marks 0) rfl HW5.out (w3.heap.size + 1) (nodeCells tk tS tm tn (.slice (some ⟨yg, 0, none⟩) us.length yc)) rfl rfl (fun j u hj => (CB.cell HX5.out j).trans hj) (all_one (by rfl)) (by omega) (by simp; omega) ?_; intro g cap w5 hown5 hg5 hBg hlt5 hor; have HN5 := Lib.hid hown5; have HG5 := Lib.hid hg5; have ho5 := CB.chg HO5.out (Chg.of_grown hg5) (fun e => by have := (World.ownsRow.lt HI.out.row _ e.symm).1; omega); have HO6 := Lib.hid ho5; have f7 : w5.frozen? ⟨w.heap.size + 1 + 1, 7, none⟩ = false := ho5.free 7; have d7 := ho5.cell 7; clear hown5 hg5 ho5))
        have hbq : Below w.heap.size w (w5.setCell ⟨w.heap.size + 1 + 1, 7, none⟩ (.slice (some ⟨g, 0, none⟩) (i + 1) cap)) := ((HI.out.b.trans (HB5.out.mono hszr)).grown HG5.out (by have := HB5.out.size; omega) fun k e => by have := (World.ownsRow.lt HI.out.row _ e).1; omega).setCell (p := ⟨w.heap.size + 1 + 1, 7, none⟩) (by show _ ≤ w.heap.size + 1 + 1; omega) _
        have hch5 : Chg (fun k => k = w.heap.size + 1 + 1) w5 (w5.setCell ⟨w.heap.size + 1 + 1, 7, none⟩ (.slice (some ⟨g, 0, none⟩) (i + 1) cap)) := (Chg.refl (fun k => k = w.heap.size + 1 + 1) w5).setCell (p := ⟨w.heap.size + 1 + 1, 7, none⟩) rfl _
        have hrow5 := hch5.ownsS HN5.out fun k hk e => by have := (World.ownsRow.lt HN5.out k hk).1; omega
        have hs5 := HG5.out.size
        rw [World.size_alloc, World.size_alloc] at hs5
        have hg5l : ∀ g', g' < w3.heap.size → pv.ownBlock ≠ some g' → (Value.slice (some ⟨g, 0, none⟩) (i + 1) cap).ownBlock ≠ some g' := by
          intro g' h1 h2 e
          have e2 : g = g' := by simpa [Value.ownBlock] using e
          subst e2
          rcases hor with h9 | h9
          · exact h2 h9
          · simp at h9; omega
        have hno : ∀ c0, CB ((w3.alloc (.cells #[.int .i64 tk, .int .u64 (tS.a : Nat), .int .u64 (tS.b : Nat), .int .u64 (tS.c : Nat), .int .u64 (tS.d : Nat), .int .i64 tm, .int .i64 tn, .slice (some ⟨yg, 0, none⟩) us.length yc] 27)).alloc (.cells #[.int .i64 tk, .int .u64 (tS.a : Nat), .int .u64 (tS.b : Nat), .int .u64 (tS.c : Nat), .int .u64 (tS.d : Nat), .int .i64 tm, .int .i64 tn, .slice (some ⟨yg, 0, none⟩) us.length yc] 27)) 27 w.heap.size c0 → CB (w5.setCell ⟨w.heap.size + 1 + 1, 7, none⟩ (.slice (some ⟨g, 0, none⟩) (i + 1) cap)) 27 w.heap.size c0 := fun c0 h => CB.other (CB.chg h (Chg.of_grown HG5.out) fun e => by have := (World.ownsRow.lt HI.out.row _ e.symm).1; omega) _ (by show w.heap.size + 1 + 1 ≠ w.heap.size; omega) _
        have hno2 : ∀ c0, CB ((w3.alloc (.cells #[.int .i64 tk, .int .u64 (tS.a : Nat), .int .u64 (tS.b : Nat), .int .u64 (tS.c : Nat), .int .u64 (tS.d : Nat), .int .i64 tm, .int .i64 tn, .slice (some ⟨yg, 0, none⟩) us.length yc] 27)).alloc (.cells #[.int .i64 tk, .int .u64 (tS.a : Nat), .int .u64 (tS.b : Nat), .int .u64 (tS.c : Nat), .int .u64 (tS.d : Nat), .int .i64 tm, .int .i64 tn, .slice (some ⟨yg, 0, none⟩) us.length yc] 27)) 27 (w.heap.size + 1) c0 → CB (w5.setCell ⟨w.heap.size + 1 + 1, 7, none⟩ (.slice (some ⟨g, 0, none⟩) (i + 1) cap)) 27 (w.heap.size + 1) c0 := fun c0 h => CB.other (CB.chg h (Chg.of_grown HG5.out) fun e => by have := (World.ownsRow.lt HI.out.row _ e.symm).1; omega) _ (by show w.heap.size + 1 + 1 ≠ w.heap.size + 1; omega) _
        have hss : ∀ t : NT, t.Spare ((w3.alloc (.cells #[.int .i64 tk, .int .u64 (tS.a : Nat), .int .u64 (tS.b : Nat), .int .u64 (tS.c : Nat), .int .u64 (tS.d : Nat), .int .i64 tm, .int .i64 tn, .slice (some ⟨yg, 0, none⟩) us.length yc] 27)).alloc (.cells #[.int .i64 tk, .int .u64 (tS.a : Nat), .int .u64 (tS.b : Nat), .int .u64 (tS.c : Nat), .int .u64 (tS.d : Nat), .int .i64 tm, .int .i64 tn, .slice (some ⟨yg, 0, none⟩) us.length yc] 27)) (fun g' => w.heap.size + 1 + 1 + 1 ≤ g' ∧ g' < w3.heap.size ∧ pv.ownBlock ≠ some g') → t.Spare (w5.setCell ⟨w.heap.size + 1 + 1, 7, none⟩ (.slice (some ⟨g, 0, none⟩) (i + 1) cap)) (fun g' => w.heap.size + 1 + 1 + 1 ≤ g' ∧ g' < (w5.setCell ⟨w.heap.size + 1 + 1, 7, none⟩ (.slice (some ⟨g, 0, none⟩) (i + 1) cap)).heap.size ∧ (Value.slice (some ⟨g, 0, none⟩) (i + 1) cap).ownBlock ≠ some g') := fun t ht =>
          NT.Spare.chg hch5 (fun g' hg' e => by have := hg'.1; omega) (fun g' hg' => ⟨hg'.1, by have := hg'.2.1; simp [World.setCell]; omega, hg5l g' hg'.2.1 hg'.2.2⟩) t (NT.Spare.chg (S' := fun g' => w.heap.size + 1 + 1 + 1 ≤ g' ∧ g' < w3.heap.size ∧ pv.ownBlock ≠ some g') (Chg.of_grown HG5.out) (fun g' hg' e => hg'.2.2 e.symm) (fun _ h => h) t ht)
        go_roundw
        case rel =>
          refine ⟨i + 1, _, qs ++ [NT.mk tk tS tm tn (.slice (some ⟨yg, 0, none⟩) us.length yc) us], by omega, by go_num, ⟨hbq, CB.set HO6.out 7 _, ?_, ?_, ?_⟩, hno _ HA5.out, hno2 _ HR5.out⟩
          · have e9 : (qs ++ [NT.mk tk tS tm tn (.slice (some ⟨yg, 0, none⟩) us.length yc) us]).flatMap NT.cells ++ marks 0 = qs.flatMap NT.cells ++ marks 0 ++ nodeCells tk tS tm tn (.slice (some ⟨yg, 0, none⟩) us.length yc) := by
              rw [List.flatMap_append, List.flatMap_cons, List.flatMap_nil, List.append_nil]
              simp [marks]
              rfl
            rw [e9]
            exact hrow5
          · rw [List.map_append, HI.out.pts, HTK.out]
            show _ ++ [(NT.mk tk tS tm tn _ us).pt] = _ ++ [(NT.mk tk tS tm tn _ tps).pt]
            rw [NT.pt_mk, NT.pt_mk, HYP.out]
          · intro t ht
            rcases List.mem_append.1 ht with ht | ht
            · exact hss t (NT.Spare.turn (fun g' _ j v h => below_cell HB5.out _ _ h) (fun g' hg' => ⟨hg'.1, Nat.lt_of_lt_of_le hg'.2.1 hs3, hg'.2.2⟩) t (HI.out.spare t ht))
            · rw [List.mem_singleton.1 ht]
              exact hss _ (NT.Spare.turn (fun g' _ j v h => below_cell (((Below.refl _ w3).alloc (Nat.le_refl _) _).alloc (by simp) _) _ _ h) (fun g' hg' => ⟨by have := hg'.1; have := CB.lt HI.out.out; omega, hg'.2, fun e => by have := HSM.out _ e; have := hg'.1; omega⟩) _ HYS.out)
        case measure => simp [intOf]; omega
      · obtain rfl : i = len := by omega
        go_wp2
        clear x0 x1 x2 x3 x4 x5 x6 x7
        go_loopw [6] (fun iv wr => ∃ (j : Nat) (pv : Value), j ≤ 3 ∧ iv = .int .i64 (j : Nat) ∧ Hid (LeI w k s m n (w.heap.size + 1 + 1) (ps.map NT.pt) i j wr pv qs) ∧ Hid (CB wr 27 w.heap.size (nodeCells k s m n (.slice a i c))) ∧ Hid (CB wr 27 (w.heap.size + 1) (nodeCells 0 .zero 0 0 (.slice none 0 0)))) (fun iv _ => 3 - (intOf iv).toNat)
        case atStart => exact ⟨0, pv, by omega, rfl, HI.out, HA.out, HR.out⟩
        case round =>
          obtain ⟨j, pu, hj, rfl, HI, HA, HR⟩ := hrel
          obtain ⟨⟨y0, y1, y2, y3, y4, y5, y6, y7⟩, -⟩ := HI.out.out.eight
          obtain ⟨⟨x0, x1, x2, x3, x4, x5, x6, x7⟩, -⟩ := HA.out.eight
          have hszv := HI.out.b.size
          have hl3 := CB.lt HI.out.out
          by_cases hlt : j < 3
          · have hba : Below wr.heap.size wr (wr.alloc (.cells #[.int .i64 (-77), .int .u64 0, .int .u64 0, .int .u64 0, .int .u64 0, .int .i64 0, .int .i64 0, .slice none 0 0] 27)) := (Below.refl _ _).alloc (Nat.le_refl _) _
            have HO5 := Lib.hid (CB.below HI.out.out hba)
            have HA5 := Lib.hid (CB.below HA.out hba)
            have HR5 := Lib.hid (CB.below HR.out hba)
            have HW5 := Lib.hid (own_below HI.out.row hba)
            have HX5 : Hid (CB (wr.alloc (.cells #[.int .i64 (-77), .int .u64 0, .int .u64 0, .int .u64 0, .int .u64 0, .int .i64 0, .int .i64 0, .slice none 0 0] 27)) 27 wr.heap.size (nodeCells (-77) .zero 0 0 (.slice none 0 0))) := CB.new wr _ _
            clear hba
            go_wp2_with (refine wpl_appS 25 27 Try.underlying25 infoNode3 rfl (by decide) (by decide) rfl (.tmp 33) (.tmp 35) rfl (w.heap.size + 1 + 1 + 1) pu (i + j) (qs.flatMap NT.cells ++ marks j) rfl HW5.out wr.heap.size (nodeCells (-77) .zero 0 0 (.slice none 0 0)) rfl rfl (fun j u hj => (CB.cell HX5.out j).trans hj) (all_one (by rfl)) (by omega) (by simp; omega) ?_; intro g cap w5 hown5 hg5 hBg hlt5 hor; have HN5 := Lib.hid hown5; have HG5 := Lib.hid hg5; have ho5 := CB.chg HO5.out (Chg.of_grown hg5) (fun e => by have := (World.ownsRow.lt HI.out.row _ e.symm).1; omega); have HO6 := Lib.hid ho5; have f7 : w5.frozen? ⟨w.heap.size + 1 + 1, 7, none⟩ = false := ho5.free 7; have d7 := ho5.cell 7; clear hown5 hg5 ho5)
            have hbq : Below w.heap.size w (w5.setCell ⟨w.heap.size + 1 + 1, 7, none⟩ (.slice (some ⟨g, 0, none⟩) (i + j + 1) cap)) := ((HI.out.b.alloc hszv (.cells #[.int .i64 (-77), .int .u64 0, .int .u64 0, .int .u64 0, .int .u64 0, .int .i64 0, .int .i64 0, .slice none 0 0] 27)).grown HG5.out (by simp; omega) fun k e => by have := (World.ownsRow.lt HI.out.row _ e).1; omega).setCell (p := ⟨w.heap.size + 1 + 1, 7, none⟩) (by show _ ≤ w.heap.size + 1 + 1; omega) _
            have hch5 : Chg (fun k => k = w.heap.size + 1 + 1) w5 (w5.setCell ⟨w.heap.size + 1 + 1, 7, none⟩ (.slice (some ⟨g, 0, none⟩) (i + j + 1) cap)) := (Chg.refl (fun k => k = w.heap.size + 1 + 1) w5).setCell (p := ⟨w.heap.size + 1 + 1, 7, none⟩) rfl _
            have hrow5 := hch5.ownsS HN5.out fun k hk e => by have := (World.ownsRow.lt HN5.out k hk).1; omega
            have hs5 := HG5.out.size
            rw [World.size_alloc] at hs5
            have hg5l : ∀ g', g' < wr.heap.size → pu.ownBlock ≠ some g' → (Value.slice (some ⟨g, 0, none⟩) (i + j + 1) cap).ownBlock ≠ some g' := by
              intro g' h1 h2 e
              have e2 : g = g' := by simpa [Value.ownBlock] using e
              subst e2
              rcases hor with h9 | h9
              · exact h2 h9
              · simp at h9; omega
            go_roundw
            case rel =>
              refine ⟨j + 1, _, by omega, by go_num, ⟨hbq, CB.set HO6.out 7 _, ?_, HI.out.pts, ?_⟩, CB.other (CB.chg HA5.out (Chg.of_grown HG5.out) fun e => by have := (World.ownsRow.lt HI.out.row _ e.symm).1; omega) _ (by show w.heap.size + 1 + 1 ≠ w.heap.size; omega) _, CB.other (CB.chg HR5.out (Chg.of_grown HG5.out) fun e => by have := (World.ownsRow.lt HI.out.row _ e.symm).1; omega) _ (by show w.heap.size + 1 + 1 ≠ w.heap.size + 1; omega) _⟩
              · rw [marks_succ, ← List.append_assoc]
                exact hrow5
              · intro t ht
                exact NT.Spare.chg hch5 (fun g' hg' e => by have := hg'.1; omega) (fun g' hg' => ⟨hg'.1, by have := hg'.2.1; simp [World.setCell]; omega, hg5l g' hg'.2.1 hg'.2.2⟩) t (NT.Spare.chg (S' := fun g' => w.heap.size + 1 + 1 + 1 ≤ g' ∧ g' < wr.heap.size ∧ pu.ownBlock ≠ some g') (Chg.of_grown HG5.out) (fun g' hg' e => hg'.2.2 e.symm) (fun _ h => h) t (NT.Spare.turn (fun g' _ j v h => below_cell ((Below.refl _ wr).alloc (Nat.le_refl _) _) _ _ h) (fun _ h => h) t (HI.out.spare t ht)))
            case measure => simp [intOf]; omega
          · obtain rfl : j = 3 := by omega
            have hrw := HI.out.row
            obtain ⟨g, cap, rfl⟩ := Go.Joins.ownsRow_form hrw (by omega)
            have hcap : i + 3 ≤ cap := by
              rcases hrw.2 with ⟨h9, _⟩ | ⟨g', cap', cur, h9, _, _, h8, _⟩
              · cases h9
              · injection h9 with _ _ e3
                rw [e3]
                exact h8
            have f7 : wr.frozen? ⟨w.heap.size + 1 + 1, 7, none⟩ = false := HI.out.out.free 7
            clear hrw
            have HOS : Hid (CB (wr.setCell ⟨w.heap.size + 1 + 1, 7, none⟩ (.slice (some ⟨g, 0, none⟩) i cap)) 27 (w.heap.size + 1 + 1) (nodeCells k s m n (.slice (some ⟨g, 0, none⟩) i cap))) := CB.set HI.out.out 7 _
            have HRS : Hid (CB (wr.setCell ⟨w.heap.size + 1 + 1, 7, none⟩ (.slice (some ⟨g, 0, none⟩) i cap)) 27 (w.heap.size + 1) (nodeCells 0 .zero 0 0 (.slice none 0 0))) := CB.other HR.out _ (by show w.heap.size + 1 + 1 ≠ w.heap.size + 1; omega) _
            go_wp2_with (first | (refine wpl_loadN (.tmp 3) rfl rfl (g := w.heap.size + 1 + 1) (off := 0) (k := k) (s := s) (m := m) (n := n) (p := .slice (some ⟨g, 0, none⟩) i cap) ?_ HOS.out.range0 ?_; rfl) | (refine wpl_storeS 27 (.tmp 2) (.tmp 45) rfl rfl HRS.out rfl rfl rfl infoNode (by rfl) ?_; intro w6 hcb6 hch6 hsz6; have HCB6 := Lib.hid hcb6; have HCH6 := Lib.hid hch6; clear hcb6 hch6))
            have hql : qs.length = i := by
              have := congrArg List.length HI.out.pts
              rw [List.length_map, List.length_take, List.length_map, HL.out, Nat.min_self] at this
              exact this
            have hgb := World.ownsRow.lt HI.out.row g rfl
            have hc1 : Chg (fun k => k = w.heap.size + 1 ∨ k = w.heap.size + 1 + 1) wr w6 := (((Chg.refl (fun k => k = w.heap.size + 1 ∨ k = w.heap.size + 1 + 1) wr).setCell (p := ⟨w.heap.size + 1 + 1, 7, none⟩) (.inr rfl) _)).trans (HCH6.out.mono fun i h _ => .inl h)
            have hrg : w6.rangeAt g 0 (qs.flatMap NT.cells ++ marks 3) := fun j u hu => hc1.cell (show wr.cell? ⟨g, 0 + j, none⟩ = some u from by have h9 := World.ownsRow.cells HI.out.row (g := g) rfl j u hu; rwa [Addr.add_mid] at h9) fun e => by rcases (show g = w.heap.size + 1 ∨ g = w.heap.size + 1 + 1 from e) with e | e <;> omega
            have hsz6 := hc1.size
            refine bodyPost_ret (ret_row rfl rfl HCB6.out _ Try.underlying27 rfl infoNode) rfl ⟨g, cap, qs, by rw [hql], ?_, NT.Spare_mk.2 ⟨⟨g, cap, rfl, by rw [hql]; exact hcap, hrg, by omega, by omega⟩, fun t ht => ?_⟩, ?_⟩
            · rw [HI.out.pts]
              exact List.take_of_length_le (by rw [List.length_map, HL.out]; exact Nat.le_refl _)
            · exact NT.Spare.chg hc1 (fun g' hg' e => by have := hg'.1; rcases (show g' = w.heap.size + 1 ∨ g' = w.heap.size + 1 + 1 from e) with e | e <;> omega) (fun g' hg' => ⟨by have := hg'.1; omega, Nat.lt_of_lt_of_le hg'.2.1 hsz6⟩) t (HI.out.spare t ht)
            · exact HI.out.b.trans (hc1.below hszv fun i hi => by rcases (show i = w.heap.size + 1 ∨ i = w.heap.size + 1 + 1 from hi) with e | e <;> omega)
end

section
/-! A lent tree is as it was. -/
theorem n_flat_len (ps : List NT) : (ps.flatMap NT.cells).length = 8 * ps.length := by
  induction ps with
  | nil => rfl
  | cons t ts ih => rw [List.flatMap_cons, List.length_append, ih, List.length_cons]; show 8 + _ = _; omega
theorem marks_cells {ps : List NT} {e : Nat} (h1 : ps.length ≤ e) (h2 : e < ps.length + 3) : (ps.flatMap NT.cells ++ marks 3)[e * 8]? = some (.int .i64 (-77)) ∧ (ps.flatMap NT.cells ++ marks 3)[e * 8 + 7]? = some (.slice none 0 0) := by
  have hl := n_flat_len ps
  obtain ⟨j, rfl⟩ : ∃ j, e = ps.length + j := ⟨e - ps.length, by omega⟩
  rw [List.getElem?_append_right (by omega), List.getElem?_append_right (by omega), hl, show (ps.length + j) * 8 - 8 * ps.length = j * 8 by omega, show (ps.length + j) * 8 + 7 - 8 * ps.length = j * 8 + 7 by omega]
  have hj : j = 0 ∨ j = 1 ∨ j = 2 := by omega
  rcases hj with rfl | rfl | rfl <;> exact ⟨rfl, rfl⟩
set_option maxHeartbeats 2000000 in
set_option maxRecDepth 100000 in
theorem n_keptNode {S : Nat → Prop} (t : NT) : ∀ (u : NT) (w : World), t.pt = u.pt → nodes t.pt ≤ 1099511627000 → t.Spare w S → u.Lies w → Calls Try.prog 12 #[t.val, u.val] w fun e w' => e = .returned (.bool true) ∧ Below w.heap.size w w' := by
  induction t using NT.ind with
  | h k s m n p ps ih =>
    intro u w he hnod hl1 hl2
    obtain ⟨k', s', m', n', p', qs⟩ := u
    rw [NT.pt_mk, NT.pt_mk] at he
    simp only [PT.mk.injEq] at he
    obtain ⟨rfl, rfl, rfl, rfl, hpq⟩ := he
    obtain ⟨⟨g, c, rfl, hcap, hrg, -⟩, hsp⟩ := NT.Spare_mk.1 hl1
    have hrow : RowAt w (some ⟨g, 0, none⟩) (ps.flatMap NT.cells) := .inr ⟨g, 0, rfl, range_pre hrg⟩
    have hps : ∀ t ∈ ps, t.Lies w := fun t ht => (hsp t ht).lies t
    obtain ⟨⟨a', c', rfl, hrow'⟩, hqs⟩ := NT.Lies_mk.1 hl2
    obtain ⟨hlb, hnp⟩ := nodes_part (k := k) (s := s) (m := m) (n := n) (p := .slice (some ⟨g, 0, none⟩) ps.length c) (ps := ps)
    have hlen2 : qs.length = ps.length := by have := congrArg List.length hpq; simpa using this.symm
    have HAT : Hid (∀ (i : Nat) (h : i < ps.length) (h' : i < qs.length), (ps[i]).pt = (qs[i]).pt) := fun i h h' => by
      have h9 : (ps.map NT.pt)[i]'(by simpa using h) = (qs.map NT.pt)[i]'(by simpa using h') := by simp only [hpq]
      simpa using h9
    show Calls Try.prog 12 #[nodeVal k s m n (.slice (some ⟨g, 0, none⟩) ps.length c), nodeVal k s m n (.slice a' qs.length c')] w _
    rw [hlen2]
    obtain ⟨len, hlen⟩ : ∃ len, ps.length = len := ⟨_, rfl⟩
    have hlb2 : len ≤ 1099511627000 := by omega
    have HROW := Lib.hid hrow
    have HSP := Lib.hid hsp
    have HRG := Lib.hid hrg
    rw [hlen] at hcap
    have HPS := Lib.hid hps
    have HROW2 := Lib.hid hrow'
    have HQS := Lib.hid hqs
    have HIH := Lib.hid ih
    have HNP : Hid (∀ t ∈ ps, nodes t.pt ≤ 1099511627000) := fun t ht => Nat.le_trans (hnp t ht) hnod
    have HL := Lib.hid hlen
    have HL2 : Hid (qs.length = len) := hlen2.trans hlen
    rw [hlen]
    obtain ⟨W1, hW1⟩ : ∃ W1, (w.alloc (.cells #[.int .i64 k, .int .u64 (s.a : Nat), .int .u64 (s.b : Nat), .int .u64 (s.c : Nat), .int .u64 (s.d : Nat), .int .i64 m, .int .i64 n, .slice (some ⟨g, 0, none⟩) len c] 27)).alloc (.cells #[.int .i64 k, .int .u64 (s.a : Nat), .int .u64 (s.b : Nat), .int .u64 (s.c : Nat), .int .u64 (s.d : Nat), .int .i64 m, .int .i64 n, .slice a' len c'] 27) = W1 := ⟨_, rfl⟩
    have HC1 : Hid (CB W1 27 w.heap.size (nodeCells k s m n (.slice (some ⟨g, 0, none⟩) len c))) := by rw [← hW1]; exact CB.alloc (CB.new w _ _) _
    have HC2 : Hid (CB W1 27 (w.heap.size + 1) (nodeCells k s m n (.slice a' len c'))) := by rw [← hW1]; exact cb2 w _ _ _
    have HBW : Hid (Below w.heap.size w W1) := by rw [← hW1]; exact ((Below.refl _ _).alloc (Nat.le_refl _) _).alloc (by go_size) _
    have HW1 := Lib.hid hW1
    clear hrow hrow' hsp hrg hps hqs ih hl1 hl2 hnp hlb hnod hpq hlen hlen2 hW1
    go_enter Try.func12, Try.ntmps12
    go_wp2
    rw [HW1.out]
    go_loopw [5] (fun iv wr => ∃ i : Nat, i ≤ len ∧ iv = .int .i64 (i : Nat) ∧ Hid (Below W1.heap.size W1 wr)) (fun iv _ => len - (intOf iv).toNat)
    case atStart => exact ⟨0, by omega, rfl, Below.refl _ _⟩
    case round =>
      obtain ⟨i, hi, rfl, HB⟩ := hrel
      obtain ⟨⟨x0, x1, x2, x3, x4, x5, x6, x7⟩, _⟩ := (CB.below HC1.out HB.out).eight
      obtain ⟨⟨y0, y1, y2, y3, y4, y5, y6, y7⟩, _⟩ := (CB.below HC2.out HB.out).eight
      have HBr : Hid (Below w.heap.size w wr) := HBW.out.trans (HB.out.mono HBW.out.size)
      by_cases hlt : i < len
      · have hip : i < ps.length := by rw [HL.out]; exact hlt
        have hiq : i < qs.length := by rw [HL2.out]; exact hlt
        obtain ⟨b, off, tk, tS, tm, tn, ta, tl, tc, tps, hbe, ht, htm, hra⟩ := lies_elem HROW.out HPS.out hip
        injection hbe with hbe
        injection hbe with e1 e2
        subst e1 e2
        rw [Nat.zero_add] at hra
        obtain ⟨b', off', uk, uS, um, un, ua, ul, uc, ups, rfl, hu, hum, hra'⟩ := lies_elem HROW2.out HQS.out hiq
        have hat := HAT.out i hip hiq
        rw [ht, hu] at hat
        obtain ⟨a0, a1, a2, a3, a4, a5, a6, a7⟩ := range8 (rangeAt_below hra HBr.out)
        obtain ⟨b0, b1, b2, b3, b4, b5, b6, b7⟩ := range8 (rangeAt_below hra' HBr.out)
        have hcall := fun W (hW : Below w.heap.size w W) => HIH.out _ htm _ W hat (HNP.out _ htm) (NT.Spare.below hW _ (HSP.out _ htm)) ((HQS.out _ hum).below hW)
        have HCALL := Lib.hid hcall
        clear hat hcall ht hu hra hra'
        go_wp2
        go_region_with (go_at_call 12; refine (HCALL.out _ HBr.out.drew).mono ?_; rintro e w3 ⟨rfl, hb3⟩; have HB3 : Hid (Below w.heap.size w w3) := HBr.out.trans ((below_drw hb3).mono HBr.out.size); have HB4 : Hid (Below W1.heap.size W1 w3) := HB.out.trans ((below_drw hb3).mono HB.out.size))
        all_goals
          go_wp2
          go_roundw
          case rel => exact ⟨i + 1, by omega, by go_num, HB4⟩
          case measure => simp [intOf]; omega
      · obtain rfl : i = len := by omega
        go_wp2
        clear x0 x1 x2 x3 x4 x5 x6 x7 y0 y1 y2 y3 y4 y5 y6 y7
        go_loopw [7] (fun iv wz => ∃ e : Nat, i ≤ e ∧ e ≤ i + 3 ∧ iv = .int .i64 (e : Nat) ∧ Hid (Below w.heap.size w wz)) (fun iv _ => i + 3 - (intOf iv).toNat)
        case atStart => exact ⟨i, Nat.le_refl _, by omega, rfl, HBr.out⟩
        case round =>
          rename_i wz
          obtain ⟨e, he1, he2, rfl, HBz⟩ := hrel
          by_cases hlt2 : e < i + 3
          · have hm := marks_cells (ps := ps) (e := e) (by rw [HL.out]; exact he1) (by rw [HL.out]; exact hlt2)
            have hk0 := rangeAt_below HRG.out HBz.out (e * 8) _ hm.1
            have hk7 := rangeAt_below HRG.out HBz.out (e * 8 + 7) _ hm.2
            rw [Nat.zero_add] at hk0 hk7
            clear hm
            go_wp2
            go_roundw
            case rel => exact ⟨e + 1, by omega, by omega, by go_num, HBz.out⟩
            case measure => simp [intOf]; omega
          · obtain rfl : e = i + 3 := by omega
            go_wp2
            go_ret
            exact ⟨rfl, HBz.out⟩
end

section
/-! A machine that was handed out is written over: its own row alone turns. -/
theorem splice_len {cur : List Value} {o : Nat} {vs : List Value} (h : o + vs.length ≤ cur.length) : (splice cur o vs).length = cur.length := by
  unfold splice
  simp
  omega
theorem wpl_turnS {w : World} {ops : Array Oper} {rest : List Oper} {o : Oper} {a : Act} {Q : Exit → Act → World → Prop} (x y : Operand) (ho : o.op = .store 45 x y) (hgd : o.guard = none)
    {B g n c i : Nat} {xs : List Value} (hx : a.eval x = .pointer (some ⟨g, i * 7, none⟩)) (hown : w.ownsRow B 45 7 (.slice (some ⟨g, 0, none⟩) n c) n xs) (hi : i < n) {v0 v1 v2 v3 v4 v5 v6 : Value} (hy : a.eval y = .agg #[v0, v1, v2, v3, v4, v5, v6]) (h1 : ∀ v ∈ [v0, v1, v2, v3, v4, v5, v6], v.oneCell' = true)
    (h : ∀ w' xs', w'.ownsRow B 45 7 (.slice (some ⟨g, 0, none⟩) n c) n xs' → Chg (fun k => k = g) w w' → w'.heap.size = w.heap.size → wpList Try.prog ops Q rest (a.put o.dst undef) w') : wpList Try.prog ops Q (o :: rest) a w := by
  refine wpList_plain hgd fun K hK => ?_
  obtain ⟨hxl, h2⟩ := hown
  rcases h2 with ⟨h2, _⟩ | ⟨g', cap, cur, hv, hg, hh, ha, hb, hc, hd⟩
  · cases h2
  · injection hv with e1 e2 e3
    injection e1 with e1
    injection e1 with e1
    subst e1 e3
    have hcb : CB w 45 g cur.toList := by simpa [CB] using hh
    have hfit : i * 7 + 7 ≤ cur.toList.length := by simp [hc]; omega
    refine wp_storec 45 x y ho g (i * 7) 7 hx [v0, v1, v2, v3, v4, v5, v6] hy rfl hcb infoSt hfit h1 fun w' h2 h3 h4 => hK _ _ (h w' ((splice cur.toList (i * 7) [v0, v1, v2, v3, v4, v5, v6]).take (n * 7)) ⟨?_, .inr ⟨g, c, (splice cur.toList (i * 7) [v0, v1, v2, v3, v4, v5, v6]).toArray, rfl, hg, h2, ha, hb, ?_, ?_⟩⟩ h3 h4)
    · rw [List.length_take, splice_len (by simpa using hfit)]
      have h9 : n * 7 ≤ c * 7 := Nat.mul_le_mul_right _ ha
      simp [hc]
      omega
    · rw [List.size_toArray, splice_len (by simpa using hfit)]
      simpa using hc
    · rfl
set_option maxHeartbeats 4000000 in
set_option maxRecDepth 100000 in
theorem n_spoil (L : List St) (a : Option Addr) (c : Nat) (q : Int) (B : Nat) (w : World) (hlen : L.length ≤ 1048576) (ho : w.ownsRow B 45 7 (.slice a L.length c) L.length (L.flatMap St.cells)) (hB : B ≤ w.heap.size) :
    Calls Try.prog 13 #[.agg #[.slice a L.length c, .int .i64 q]] w fun e w' => (∃ v, e = .returned v) ∧ Chg (fun k => (Value.slice a L.length c).ownBlock = some k) w w' := by
  obtain ⟨len, hl⟩ : ∃ len, L.length = len := ⟨_, rfl⟩
  rw [hl] at hlen ho ⊢
  have HC : Hid (CB (w.alloc (.cells #[.slice a len c, .int .i64 q] 35)) 35 w.heap.size [.slice a len c, .int .i64 q]) := CB.new w _ _
  have HCH : Hid (Chg (fun k => (Value.slice a len c).ownBlock = some k) w (w.alloc (.cells #[.slice a len c, .int .i64 q] 35))) := (Chg.refl _ w).alloc _
  have HO : Hid ((w.alloc (.cells #[.slice a len c, .int .i64 q] 35)).ownsRow B 45 7 (.slice a len c) len (L.flatMap St.cells)) := own_alloc ho _
  have hnb : ∀ k, (Value.slice a len c).ownBlock = some k → B ≤ k ∧ k < w.heap.size := fun k e => World.ownsRow.lt ho _ e
  have HNB := Lib.hid hnb
  clear ho hl hnb
  go_enter Try.func13, Try.ntmps13
  go_wp2
  go_loopw [2] (fun iv wr => ∃ (i : Nat) (xs : List Value), i ≤ len ∧ iv = .int .i64 (i : Nat) ∧ Hid (CB wr 35 w.heap.size [.slice a len c, .int .i64 q]) ∧ Hid (Chg (fun k => (Value.slice a len c).ownBlock = some k) w wr) ∧ Hid (wr.ownsRow B 45 7 (.slice a len c) len xs) ∧ Hid (w.heap.size + 1 ≤ wr.heap.size)) (fun iv _ => len - (intOf iv).toNat)
  case atStart => exact ⟨0, _, by omega, rfl, HC.out, HCH.out, HO.out, (by show _ ≤ _; simp)⟩
  case round =>
    obtain ⟨i, xs, hi, rfl, HCr, HCHr, HOr, HZr⟩ := hrel
    obtain ⟨⟨m0, m1⟩, -⟩ := CB.two HCr.out
    by_cases hlt : i < len
    · obtain ⟨g, c', hv⟩ := Go.Joins.ownsRow_form HOr.out (by omega)
      injection hv with hva hvl hvc
      subst hva hvc
      go_wp2_with (refine wpl_turnS (.tmp 16) (.tmp 15) rfl rfl (g := g) (i := i) (v0 := .int .i64 (-5)) (v1 := .int .u64 0) (v2 := .int .u64 0) (v3 := .int .u64 0) (v4 := .int .u64 0) (v5 := .int .i64 0) (v6 := .int .i64 0) ?_ HOr.out hlt ?_ (all_one (by rfl)) ?_; rfl; rfl; intro w5 ys hown5 hch5 hsz5; have HO5 := Lib.hid hown5; have HCH5 := Lib.hid hch5; clear hown5 hch5)
      have hgw := HNB.out g rfl
      go_roundw
      case rel => exact ⟨i + 1, ys, by omega, by go_num, CB.chg HCr.out HCH5.out (by show ¬ w.heap.size = g; omega), HCHr.out.trans (HCH5.out.mono fun k hk _ => by rw [hk]; rfl), HO5.out, (by have := HZr.out; show _ ≤ _; omega)⟩
      case measure => simp [intOf]; omega
    · obtain rfl : i = len := by omega
      go_wp2
      go_loopw [3, 4] (fun lv iv wz => ∃ (j : Nat) (ys : List Value), j ≤ 8 ∧ iv = .int .i64 (j : Nat) ∧ Hid (Chg (fun k => (Value.slice a i c).ownBlock = some k) w wz) ∧ Hid (wz.ownsRow B 45 7 lv (i + j) ys) ∧ Hid (∀ k, lv.ownBlock = some k → (Value.slice a i c).ownBlock = some k ∨ w.heap.size ≤ k) ∧ Hid (B ≤ wz.heap.size)) (fun _ iv _ => 8 - (intOf iv).toNat)
      case atStart => exact ⟨0, xs, by omega, rfl, HCHr.out, HOr.out, (fun k hk => .inl hk), Nat.le_trans hB HCHr.out.size⟩
      case round =>
        obtain ⟨j, ys, hj, rfl, HCHz, HOz, HNz, HBz⟩ := hrel
        by_cases hlt8 : j < 8
        · have hbz := HBz.out
          go_wp2_with (refine wpl_appS 33 45 Try.underlying33 infoSt3 rfl (by decide) (by decide) rfl (.tmp 23) (.tmp 25) rfl B _ (i + j) ys rfl (own_alloc HOz.out _) _ [.int .i64 (-6), .int .u64 0, .int .u64 0, .int .u64 0, .int .u64 0, .int .i64 0, .int .i64 0] rfl rfl ?_ (all_one (by rfl)) (by omega) (by simp; omega) ?_; (exact fun j u hj => (CB.cell (CB.new _ _ [.int .i64 (-6), .int .u64 0, .int .u64 0, .int .u64 0, .int .u64 0, .int .i64 0, .int .i64 0]) j).trans hj); intro g cap w5 hown5 hg5 hBg hlt5 hor; have HO5 := Lib.hid hown5; have HG5 := Lib.hid hg5; clear hown5 hg5)
          have hzs := HCHz.out.size
          go_roundw
          case rel =>
            refine ⟨j + 1, _, by omega, by go_num, (HCHz.out.alloc _).step (Chg.of_grown HG5.out) (fun k hk hlt9 => (HNz.out k hk.symm).resolve_right (by omega)), HO5.out, (fun k hk => ?_), (by have := HG5.out.size; simp at this; show _ ≤ _; omega)⟩
            have e2 : g = k := by simpa [Value.ownBlock] using hk
            subst e2
            rcases hor with h9 | h9
            · exact HNz.out _ h9
            · exact .inr (by simp at h9; omega)
          case measure => simp [intOf]; omega
        · obtain rfl : j = 8 := by omega
          go_wp2
          go_end0
          exact ⟨⟨_, rfl⟩, HCHz.out⟩
end
end Go.Proofs.Ytboebadpohjolaa
