import Derived.Test.YtckgbcgmladcfaaDoorPuE
namespace Go.Proofs.YtckgbcgmladcfaaDoor
open Go.RowKit

/-! Bytes written. -/
theorem WC.alloc {w : World} {wb : Nat} {l : List Nat} {o d : Nat} {v : Value} (h : WC w wb l o d v) (x : Obj) : WC (w.alloc x) wb l o d v := h.below ((Below.refl _ _).alloc (Nat.le_refl _) x)
theorem WC.push1 {w w1 : World} {x : Obj} {wb c g : Nat} {l : List Nat} {o d n cap : Nat} {v : Value} (h : WC w wb l o d v) (hc : c < 256) (hown : w1.ownsRow (wb + 1) 5 1 (.slice (some ⟨g, 0, none⟩) n cap) (l.length + 1) (u8s l ++ [.int .u8 (c : Nat)])) (hg : (w.alloc x).grownBy w1 v.ownBlock) (hor : v.ownBlock = some g ∨ g = (w.alloc x).heap.size) :
    WS w (w1.setCell ⟨wb, 0, none⟩ (.slice (some ⟨g, 0, none⟩) n cap)) wb v (l ++ [c]) o d (.slice (some ⟨g, 0, none⟩) n cap) :=
  ((WS.refl h).alloc x).trans ((h.alloc x).push (x := [c]) (fun y hy => by simp at hy; omega) rfl (by rw [show u8s (l ++ [c]) = u8s l ++ [.int .u8 (c : Nat)] by simp [u8s]]; exact hown) hg fun k hk => by
    simp [Value.ownBlock] at hk
    subst hk
    exact hor)
theorem WS.apart {a b : World} {wb g : Nat} {v0 v1 : Value} {l : List Nat} {o d : Nat} (h : WS a b wb v0 l o d v1) (hg : g < a.heap.size) (h2 : v0.ownBlock ≠ some g) : v1.ownBlock ≠ some g := fun e => (h.own g e).elim h2 fun e => by omega
theorem isEsc_mem (c : Nat) : decide (c ∈ ([92, 94, 46, 91, 36, 40, 41, 124, 42, 43, 63, 123] : List Nat)) = isEsc c := by
  rw [Bool.eq_iff_iff]
  simp [isEsc, or_assoc]
theorem isSp_mem (c : Nat) : decide (c ∈ ([93, 91, 94, 45] : List Nat)) = isSp c := by
  rw [Bool.eq_iff_iff]
  simp [isSp, or_assoc]
theorem idxLt (x : Int) (b : Bool) (k : decide (0 ≤ x) = b) : decide (x < 0) = !b := by
  subst k
  rw [Bool.eq_iff_iff]
  simp
set_option maxHeartbeats 1000000 in
set_option maxRecDepth 100000 in
theorem p_alone (wb c : Nat) (l : List Nat) (o d : Nat) (v : Value) (w : World) (hc : c < 256) (h : WC w wb l o d v) (hlen : l.length + 2 ≤ 549755813888) :
    Calls Tryd.prog 29 #[.pointer (some ⟨wb, 0, none⟩), .int .u8 (c : Nat)] w fun e w' => Wrote wb v (l ++ escT c) o d w e w' := by
  have HW := Lib.hid h
  have hx := idxByte_some [92, 94, 46, 91, 36, 40, 41, 124, 42, 43, 63, 123] c hc
  have hx2 : decide (0 ≤ Lib.indexByte [92, 94, 46, 91, 36, 40, 41, 124, 42, 43, 63, 123] (UInt8.ofNat c)) = isEsc c := hx.trans (isEsc_mem c)
  clear hx
  unfold escT
  obtain ⟨b, hb⟩ : ∃ b, isEsc c = b := ⟨_, rfl⟩
  rw [hb] at hx2 ⊢
  clear hb
  cases b
  · rw [if_neg (by decide)]
    have HL1 : Hid (l.length + 1 ≤ 4398046511104) := (by show _ ≤ _; omega)
    obtain ⟨⟨c0, c1, c2⟩, f0, f1, f2⟩ := h.cells
    clear h
    go_enter Tryd.func29, Tryd.ntmps29
    go_wp2_with (first | (go_at_call 37; refine (Tryd.strings_IndexByte _ _ _).mono ?_; rintro e w2 ⟨rfl, rfl⟩) | (at_builtin; refine wpl_app 41 5 Tryd.underlying41 info8 rfl (by decide) rfl _ _ rfl (wb + 1) _ _ _ rfl (HW.out.alloc _).row _ (.int .u8 (c : Nat)) rfl (World.cell?_alloc_at _ _ _ _ rfl) rfl HL1.out (HW.out.alloc _).lt ?_; intro g9 cap9 w9 hown9 hgr9 _ _ hor9; have HG9 := Lib.hid hgr9; have HO9 := Lib.hid hown9; obtain ⟨y0, g0⟩ := (HW.out.alloc _).g0 hgr9; clear hown9 hgr9))
    exact bodyPost_end (results_none rfl _ _ _) rfl ⟨rfl, _, HW.out.push1 hc HO9.out HG9.out hor9.out⟩
  · rw [if_pos rfl, show l ++ [92, c] = (l ++ bsN ⟨#[92]⟩) ++ [c] by rw [List.append_assoc]; rfl]
    obtain ⟨L, hL⟩ : ∃ L, l ++ bsN ⟨#[92]⟩ = L := ⟨_, rfl⟩
    have hLl : L.length = l.length + 1 := by rw [← hL, List.length_append, bsN_len]; rfl
    rw [hL]
    have HL1 : Hid (L.length + 1 ≤ 4398046511104) := (by show _ ≤ _; omega)
    have HLL : Hid (L.length ≤ 549755813888) := (by show _ ≤ _; omega)
    have HL := Lib.hid hL
    clear h hL hLl
    go_enter Tryd.func29, Tryd.ntmps29
    go_wp2_with (first | (go_at_call 37; refine (Tryd.strings_IndexByte _ _ _).mono ?_; rintro e w2 ⟨rfl, rfl⟩) | (go_at_call 19; refine (p_put wb _ l L o d _ _ HW.out HL.out HLL.out).mono ?_; rintro e w3 ⟨rfl, v3, hS3⟩; obtain ⟨⟨c0, c1, c2⟩, f0, f1, f2⟩ := hS3.at_.cells; have HS3 := Lib.hid hS3; clear hS3) | (at_builtin; refine wpl_app 41 5 Tryd.underlying41 info8 rfl (by decide) rfl _ _ rfl (wb + 1) _ _ _ rfl (HS3.out.at_.alloc _).row _ (.int .u8 (c : Nat)) rfl (World.cell?_alloc_at _ _ _ _ rfl) rfl HL1.out (HS3.out.at_.alloc _).lt ?_; intro g9 cap9 w9 hown9 hgr9 _ _ hor9; have HG9 := Lib.hid hgr9; have HO9 := Lib.hid hown9; obtain ⟨y0, g0⟩ := (HS3.out.at_.alloc _).g0 hgr9; clear hown9 hgr9))
    exact bodyPost_end (results_none rfl _ _ _) rfl ⟨rfl, _, HS3.out.trans (HS3.out.at_.push1 hc HO9.out HG9.out hor9.out)⟩
theorem mem4_len (c : Nat) : (mem4 c).length ≤ 5 := by unfold mem4; split <;> simp
set_option maxHeartbeats 1000000 in
set_option maxRecDepth 100000 in
theorem p_inside (wb c : Nat) (l : List Nat) (o d : Nat) (v : Value) (w : World) (hc : c < 256) (h : WC w wb l o d v) (hlen : l.length + 5 ≤ 549755813888) :
    Calls Tryd.prog 38 #[.pointer (some ⟨wb, 0, none⟩), .int .u8 (c : Nat)] w fun e w' => Wrote wb v (l ++ mem4 c) o d w e w' := by
  have HW := Lib.hid h
  have hx := idxByte_some [93, 91, 94, 45] c hc
  have hx2 : decide (0 ≤ Lib.indexByte [93, 91, 94, 45] (UInt8.ofNat c)) = isSp c := hx.trans (isSp_mem c)
  unfold mem4
  obtain ⟨b, hb⟩ : ∃ b, isSp c = b := ⟨_, rfl⟩
  rw [hb] at hx2 ⊢
  have hx3 := idxLt _ b hx2
  clear hb hx hx2
  cases b
  · rw [if_neg (by decide)]
    have HL1 : Hid (l.length + 1 ≤ 4398046511104) := (by show _ ≤ _; omega)
    obtain ⟨⟨c0, c1, c2⟩, f0, f1, f2⟩ := h.cells
    clear h
    go_enter Tryd.func38, Tryd.ntmps38
    go_wp2_with (first | (go_at_call 37; refine (Tryd.strings_IndexByte _ _ _).mono ?_; rintro e w2 ⟨rfl, rfl⟩) | (at_builtin; refine wpl_app 41 5 Tryd.underlying41 info8 rfl (by decide) rfl _ _ rfl (wb + 1) _ _ _ rfl (HW.out.alloc _).row _ (.int .u8 (c : Nat)) rfl (World.cell?_alloc_at _ _ _ _ rfl) rfl HL1.out (HW.out.alloc _).lt ?_; intro g9 cap9 w9 hown9 hgr9 _ _ hor9; have HG9 := Lib.hid hgr9; have HO9 := Lib.hid hown9; obtain ⟨y0, g0⟩ := (HW.out.alloc _).g0 hgr9; clear hown9 hgr9))
    exact bodyPost_ret (results_none rfl _ _ _) rfl ⟨rfl, _, HW.out.push1 hc HO9.out HG9.out hor9.out⟩
  · rw [if_pos rfl, show l ++ [91, 46, c, 46, 93] = ((l ++ bsN ⟨#[91, 46]⟩) ++ [c]) ++ bsN ⟨#[46, 93]⟩ by rw [List.append_assoc, List.append_assoc]; rfl]
    obtain ⟨L, hL⟩ : ∃ L, l ++ bsN ⟨#[91, 46]⟩ = L := ⟨_, rfl⟩
    have hLl : L.length = l.length + 2 := by rw [← hL, List.length_append, bsN_len]; rfl
    rw [hL]
    obtain ⟨M, hM⟩ : ∃ M, (L ++ [c]) ++ bsN ⟨#[46, 93]⟩ = M := ⟨_, rfl⟩
    have hMl : M.length = l.length + 5 := by rw [← hM, List.length_append, List.length_append, bsN_len, hLl]; rfl
    rw [hM]
    have HL1 : Hid (L.length + 1 ≤ 4398046511104) := (by show _ ≤ _; omega)
    have HLL : Hid (L.length ≤ 549755813888) := (by show _ ≤ _; omega)
    have HML : Hid (M.length ≤ 549755813888) := (by show _ ≤ _; omega)
    have HL := Lib.hid hL
    have HM := Lib.hid hM
    clear h hL hLl hM hMl
    go_enter Tryd.func38, Tryd.ntmps38
    go_wp2_with (first | (go_at_call 37; refine (Tryd.strings_IndexByte _ _ _).mono ?_; rintro e w2 ⟨rfl, rfl⟩) | (go_at_call 19; have HP9 := Lib.hid (HS3.out.at_.push1 hc HO9.out HG9.out hor9.out); refine (p_put wb _ (L ++ [c]) M o d _ _ HP9.out.at_ HM.out HML.out).mono ?_; rintro e w4 ⟨rfl, v4, hS4⟩; obtain ⟨⟨c0, c1, c2⟩, f0, f1, f2⟩ := hS4.at_.cells; have HS4 := Lib.hid hS4; clear hS4) | (go_at_call 19; refine (p_put wb _ l L o d _ _ HW.out HL.out HLL.out).mono ?_; rintro e w3 ⟨rfl, v3, hS3⟩; obtain ⟨⟨c0, c1, c2⟩, f0, f1, f2⟩ := hS3.at_.cells; have HS3 := Lib.hid hS3; clear hS3) | (at_builtin; refine wpl_app 41 5 Tryd.underlying41 info8 rfl (by decide) rfl _ _ rfl (wb + 1) _ _ _ rfl (HS3.out.at_.alloc _).row _ (.int .u8 (c : Nat)) rfl (World.cell?_alloc_at _ _ _ _ rfl) rfl HL1.out (HS3.out.at_.alloc _).lt ?_; intro g9 cap9 w9 hown9 hgr9 _ _ hor9; have HG9 := Lib.hid hgr9; have HO9 := Lib.hid hown9; obtain ⟨y0, g0⟩ := (HS3.out.at_.alloc _).g0 hgr9; clear hown9 hgr9))
    exact bodyPost_end (results_none rfl _ _ _) rfl ⟨rfl, _, (HS3.out.trans HP9.out).trans HS4.out⟩
theorem runT_len (a b : Nat) : (runT (a, b)).length ≤ 11 := by
  have h1 := mem4_len a
  have h2 := mem4_len b
  unfold runT
  simp only [List.length_append]
  split <;> split <;> simp <;> omega
theorem infoRun : (Tryd.prog.info? 59).map (·.size) = some 2 := by kernel_rfl
set_option maxHeartbeats 1000000 in
set_option maxRecDepth 100000 in
theorem p_run (wb a b : Nat) (l : List Nat) (o d : Nat) (v : Value) (w : World) (hab : a ≤ b) (hb : b < 256) (h : WC w wb l o d v) (hlen : l.length + 11 ≤ 549755813888) :
    Calls Tryd.prog 30 #[.pointer (some ⟨wb, 0, none⟩), .agg #[.int .u8 (a : Nat), .int .u8 (b : Nat)]] w fun e w' => Wrote wb v (l ++ runT (a, b)) o d w e w' := by
  have HW := Lib.hid h
  have hwb := h.lt
  have hne1 : w.heap.size ≠ wb := by omega
  have hne2 : v.ownBlock ≠ some w.heap.size := fun e => by have := World.ownsRow.lt h.row _ e; omega
  have HC : Hid (CB (w.alloc (.cells #[.int .u8 (a : Nat), .int .u8 (b : Nat)] 59)) 59 w.heap.size [.int .u8 (a : Nat), .int .u8 (b : Nat)]) := CB.new w _ _
  obtain ⟨L, hL⟩ : ∃ L, l ++ mem4 a = L := ⟨_, rfl⟩
  have hLl : L.length ≤ l.length + 5 := by have := mem4_len a; rw [← hL, List.length_append]; omega
  have h5 : l.length + 5 ≤ 549755813888 := by omega
  have hwr : IntKind.u8.wrap ((b : Int) - (a : Int)) = (b : Int) - (a : Int) := by
    rw [show ((b : Int) - (a : Int)) = ((b - a : Nat) : Int) by omega]
    exact wrap_u8_in _ (by omega)
  have HH := Lib.hid h
  unfold runT
  show Calls _ _ _ w fun e w' => Wrote wb v (l ++ (mem4 a ++ ((if a + 1 < b then [45] else []) ++ if a < b then mem4 b else []))) o d w e w'
  rw [← List.append_assoc, hL]
  clear h
  have HL := Lib.hid hL
  by_cases h1 : a + 1 < b
  · rw [if_pos h1, if_pos (by omega), ← List.append_assoc]
    obtain ⟨M, hM⟩ : ∃ M, L ++ bsN ⟨#[45]⟩ = M := ⟨_, rfl⟩
    have hMl : M.length = L.length + 1 := by rw [← hM, List.length_append, bsN_len]; rfl
    have HMl : Hid (M.length ≤ 549755813888) := (by show _ ≤ _; omega)
    have HMM : Hid (M.length + 5 ≤ 549755813888) := (by show _ ≤ _; omega)
    rw [show L ++ [45] = M from hM]
    have HM := Lib.hid hM
    have d1 : (1 : Int) < (b : Int) - (a : Int) := by omega
    have d2 : (a : Int) < (b : Int) := by omega
    clear hL hLl hM hMl
    go_enter Tryd.func30, Tryd.ntmps30
    go_wp2_with (first | (go_at_call 38; refine (p_inside wb b M o d _ _ hb HS4.out.at_ HMM.out).mono ?_; rintro e w5 ⟨rfl, v5, hS5⟩; have HS5 := Lib.hid hS5; clear hS5) | (go_at_call 38; refine (p_inside wb a l o d v _ (by omega) (HH.out.alloc _) h5).mono ?_; rintro e w3 ⟨rfl, v3, hS3⟩; rw [HL.out] at hS3; obtain ⟨⟨x0, x1⟩, _⟩ := (hS3.box HC.out hne1 hne2).two; have HC3 := Lib.hid (hS3.box HC.out hne1 hne2); have HA3 := Lib.hid (hS3.apart (g := w.heap.size) (by go_size) hne2); have HS3 := Lib.hid (((WS.refl HH.out).alloc _).trans hS3); clear hS3) | (go_at_call 19; refine (p_put wb _ L M o d _ _ HS3.out.at_ HM.out HMl.out).mono ?_; rintro e w4 ⟨rfl, v4, hS4⟩; obtain ⟨⟨c0, c1, c2⟩, f0, f1, f2⟩ := hS4.at_.cells; have HS4 := Lib.hid hS4; obtain ⟨⟨y0, y1⟩, _⟩ := (hS4.box HC3.out hne1 HA3.out).two; clear hS4))
    exact bodyPost_end (results_none rfl _ _ _) rfl ⟨rfl, _, (HS3.out.trans HS4.out).trans HS5.out⟩
  · rw [if_neg h1, List.nil_append]
    have d1 : ¬ ((1 : Int) < (b : Int) - (a : Int)) := by omega
    by_cases h2 : a < b
    · rw [if_pos h2]
      have HMM : Hid (L.length + 5 ≤ 549755813888) := (by show _ ≤ _; omega)
      have d2 : (a : Int) < (b : Int) := by omega
      clear hL hLl
      go_enter Tryd.func30, Tryd.ntmps30
      go_wp2_with (first | (go_at_call 38; refine (p_inside wb b L o d _ _ hb HS3.out.at_ HMM.out).mono ?_; rintro e w5 ⟨rfl, v5, hS5⟩; have HS5 := Lib.hid hS5; clear hS5) | (go_at_call 38; refine (p_inside wb a l o d v _ (by omega) (HH.out.alloc _) h5).mono ?_; rintro e w3 ⟨rfl, v3, hS3⟩; rw [HL.out] at hS3; obtain ⟨⟨x0, x1⟩, _⟩ := (hS3.box HC.out hne1 hne2).two; have HC3 := Lib.hid (hS3.box HC.out hne1 hne2); have HA3 := Lib.hid (hS3.apart (g := w.heap.size) (by go_size) hne2); have HS3 := Lib.hid (((WS.refl HH.out).alloc _).trans hS3); clear hS3))
      exact bodyPost_end (results_none rfl _ _ _) rfl ⟨rfl, _, HS3.out.trans HS5.out⟩
    · rw [if_neg h2, List.append_nil]
      have d2 : ¬ ((a : Int) < (b : Int)) := by omega
      clear hL hLl
      go_enter Tryd.func30, Tryd.ntmps30
      go_wp2_with (go_at_call 38; refine (p_inside wb a l o d v _ (by omega) (HH.out.alloc _) h5).mono ?_; rintro e w3 ⟨rfl, v3, hS3⟩; rw [HL.out] at hS3; obtain ⟨⟨x0, x1⟩, _⟩ := (hS3.box HC.out hne1 hne2).two; have HC3 := Lib.hid (hS3.box HC.out hne1 hne2); have HA3 := Lib.hid (hS3.apart (g := w.heap.size) (by go_size) hne2); have HS3 := Lib.hid (((WS.refl HH.out).alloc _).trans hS3); clear hS3)
      exact bodyPost_end (results_none rfl _ _ _) rfl ⟨rfl, _, HS3.out⟩
end Go.Proofs.YtckgbcgmladcfaaDoor
