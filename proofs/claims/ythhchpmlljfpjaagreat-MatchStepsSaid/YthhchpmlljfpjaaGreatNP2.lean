import Derived.Test.YthhchpmlljfpjaaGreatNfD
import Derived.Test.YthhchpmlljfpjaaGreatNP1
import Derived.Test.YthhchpmlljfpjaaGreatNfCs
namespace Go.Proofs.YthhchpmlljfpjaaGreat
open Go.RowKit

section
variable {B : Nat}

/-! The layout made; Make. -/
def waysL : List Value := [wayF 71, wayF 72, wayF 73, wayF 74, wayF 75, wayF 76, wayF 77]
@[reducible] def waysV : Value := .agg #[wayF 71, wayF 72, wayF 73, wayF 74, wayF 75, wayF 76, wayF 77]
theorem infoWays : (Tryz.prog.info? 68).map (·.size) = some 7 := by kernel_rfl
set_option maxHeartbeats 1000000 in
set_option maxRecDepth 100000 in
theorem n_ways (w : World) : Calls Tryz.prog 54 #[] w fun e w' => e = .returned waysV ∧ Below w.heap.size w w' := by
  have HC : Hid (CB (w.alloc (.cells waysL.toArray 68)) 68 w.heap.size waysL) := CB.new w _ _
  go_enter Tryz.func54, Tryz.ntmps54
  go_wp2
  refine bodyPost_ret (ret_row rfl rfl HC.out _ Tryz.underlying68 rfl infoWays) rfl ⟨rfl, ?_⟩
  exact (Below.refl _ _).alloc (Nat.le_refl _) _
/-- A new row of states, empty yet. -/
theorem make_states (n : Nat) (hn : n ≤ 4096) : ∃ cs : Array Value, (∀ W : World, (Instr.makeSlice 22 (.int .i64 0) (.int .i64 (n : Int))).run Tryz.prog W = .ok (.slice (some ⟨W.heap.size, 0, none⟩) 0 n) (W.alloc (.cells cs 48))) ∧
    ∀ (W : World) (B : Nat), B ≤ W.heap.size → (W.alloc (.cells cs 48)).ownsRow B 48 7 (.slice (some ⟨W.heap.size, 0, none⟩) 0 n) 0 [] := by
  obtain ⟨i, hi, hz, hsz, hb⟩ := info_parts infoSt3
  refine ⟨madeCells (stVal 0 .zero 0 0).cells (n * i.size), fun W => ?_, fun W B hB => ?_⟩
  · have hr := run_make (P := Tryz.prog) W 22 48 i (stVal 0 .zero 0 0) Tryz.underlying22 hi hz .i64 .i64 0 n (Int.le_refl _) (by omega) (by rw [hb]; omega) (by omega)
    simp only [Int.toNat_zero, Int.toNat_natCast] at hr
    exact hr
  · rw [hsz]
    exact World.ownsRow_made W (madeCells (stVal 0 .zero 0 0).cells (n * 7)) n hB (by simp only [maxLen]; omega) (size_madeCells _ _)
theorem LC.made {W : World} {g n : Nat} (hown : W.ownsRow B 48 7 (.slice (some ⟨g, 0, none⟩) 0 n) 0 []) (hB : B ≤ W.heap.size) :
    LC B (W.alloc (.cells #[.slice (some ⟨g, 0, none⟩) 0 n, wayF 71, wayF 72, wayF 73, wayF 74, wayF 75, wayF 76, wayF 77] 70)) W.heap.size [] (.slice (some ⟨g, 0, none⟩) 0 n) :=
  ⟨CB.new W _ _, (Chg.of_below ((Below.refl W.heap.size W).alloc (Nat.le_refl _) _)).ownsS hown fun k hk => (by have := World.ownsRow.lt hown k hk; omega), fun e => (by have := World.ownsRow.lt hown _ e; omega), hB⟩
set_option maxHeartbeats 2000000 in
set_option maxRecDepth 100000 in
theorem n_newLayout (n : Nat) (w : World) (hn : n ≤ 4096) : Calls Tryz.prog 34 #[.int .i64 (n : Nat)] w fun e w' => Below w.heap.size w w' ∧ ∃ lb v, e = .returned (.pointer (some ⟨lb, 0, none⟩)) ∧ LC w.heap.size w' lb [] v := by
  obtain ⟨cs, hmk, hown⟩ := make_states n hn
  have HO := Lib.hid hown
  clear hown
  go_enter Tryz.func34, Tryz.ntmps34
  go_wp2
  go_region_with (go_at_call 54; refine (n_ways _).mono ?_; rintro e w2 ⟨rfl, hb2⟩; have HB2 := Lib.hid hb2; clear hb2)
  all_goals
    go_wp2
    go_ret
  · exact ⟨(((Below.refl _ _).alloc (Nat.le_refl _) _).drew.trans (HB2.out.mono (by show _ ≤ Array.size (Array.push _ _); simp))).alloc (Nat.le_trans (Nat.le_succ _) (by have := HB2.out.size; simp at this; omega)) _, _, _, rfl, LC.made ((Chg.of_below HB2.out).ownsS (HO.out w w.heap.size (Nat.le_refl _)) fun k hk => (by have := World.ownsRow.lt (HO.out w w.heap.size (Nat.le_refl _)) k hk; exact Nat.not_le.2 this.2)) (by have := HB2.out.size; simp at this; omega)⟩
  · exact ⟨((((Below.refl _ _).drew.trans HB2.out).alloc HB2.out.size _)).alloc (by have := HB2.out.size; simp at this ⊢; omega) _, _, _, rfl, by have h9 := LC.made (HO.out w2 w.heap.size HB2.out.size) (by have := HB2.out.size; simp at this ⊢; omega); simp only [World.size_alloc] at h9; exact h9⟩
end

section
variable {B : Nat}

/-! Make. -/
def doneS : St := ⟨5, .zero, 0, 0⟩
/-- A tree's machine. -/
def mk11 (t : PT) : List St × Nat := layT t 0 [doneS]
theorem good_done : GoodS [doneS] := by
  intro i hi
  have : i = 0 := by simp at hi; omega
  subst this
  simp only [List.getElem_cons_zero]
  exact ⟨by decide, by decide, by decide, by decide, by decide, by decide, by decide, by decide, fun _ => rfl, S4.zero_fit⟩
theorem infoNfa : (Tryz.prog.info? 24).map (·.size) = some 2 := by kernel_rfl
/-- A machine that was made. -/
def MadeM (t : PT) (w : World) (e : Ending) (w' : World) : Prop :=
  Below w.heap.size w w' ∧ ∃ (a : Option Addr) (c : Nat), e = .returned (.tuple #[.agg #[.slice a (mk11 t).1.length c, .int .i64 ((mk11 t).2 : Nat)], .int .i64 0]) ∧ w'.ownsRow w.heap.size 48 7 (.slice a (mk11 t).1.length c) (mk11 t).1.length ((mk11 t).1.flatMap St.cells)
set_option maxHeartbeats 2000000 in
set_option maxRecDepth 100000 in
theorem n_Make_ok (k : Int) (s : S4) (m n : Int) (a : Option Addr) (len c : Nat) (ps : List NT) (w : World) (hn : (NT.mk k s m n (.slice a len c) ps).num) (hl : (NT.mk k s m n (.slice a len c) ps).Lies w) (h0 : sizeE (NT.mk k s m n (.slice a len c) ps).pt = 0)
    (hlay : ∀ (B lb : Nat) (w0 : World), w0.heap.size ≤ B → (NT.mk k s m n (.slice a len c) ps).Lies w0 → LayOK B lb w0 (.mk k s m n (.slice a len c) ps)) :
    Calls Tryz.prog 20 #[nodeVal k s m n (.slice a len c)] w fun e w' => MadeM (NT.mk k s m n (.slice a len c) ps).pt w e w' := by
  have hchk : chk (NT.mk k s m n (.slice a len c) ps).pt = 0 ∧ cnt (NT.mk k s m n (.slice a len c) ps).pt + 1 ≤ 4096 := by
    unfold sizeE at h0
    by_cases h1 : chk (NT.mk k s m n (.slice a len c) ps).pt = 0
    · rw [if_pos h1] at h0
      by_cases h2 : cnt (NT.mk k s m n (.slice a len c) ps).pt + 1 ≤ 4096
      · exact ⟨h1, h2⟩
      · rw [if_neg h2] at h0; cases h0
    · rw [if_neg h1] at h0; exact absurd h0 h1
  have hsn : sizeN (NT.mk k s m n (.slice a len c) ps).pt = cnt (NT.mk k s m n (.slice a len c) ps).pt + 1 := by unfold sizeN; rw [if_pos hchk.1, if_pos hchk.2]
  have hsize := fun W (hW : Below w.heap.size w W) => p_Size (NT.mk k s m n (.slice a len c) ps) W hn (hl.below hW)
  rw [h0, hsn] at hsize
  have hlays := fun B lb W (hW : Below w.heap.size w W) (hB : W.heap.size ≤ B) => hlay B lb W hB (hl.below hW)
  unfold LayOK at hlays
  unfold MadeM mk11
  obtain ⟨T, hT⟩ : ∃ T, (NT.mk k s m n (.slice a len c) ps).pt = T := ⟨_, rfl⟩
  rw [hT] at hsize hlays hchk ⊢
  obtain ⟨Z, hZ⟩ : ∃ Z, cnt T = Z := ⟨_, rfl⟩
  rw [hZ] at hsize hlays hchk
  obtain ⟨L, hL⟩ : ∃ L, (layT T 0 [doneS]).1 = L := ⟨_, rfl⟩
  obtain ⟨q, hq⟩ : ∃ q, (layT T 0 [doneS]).2 = q := ⟨_, rfl⟩
  have HLAY : Hid (∀ (B lb : Nat) (W0 : World), Below w.heap.size w W0 → W0.heap.size ≤ B → ∀ (v : Value) (W : World), LC B W lb [doneS] v → Below W0.heap.size W0 W → Calls Tryz.prog 36 #[.pointer (some ⟨lb, 0, none⟩), nodeVal k s m n (.slice a len c), .int .i64 0] W fun e w' => LRet B lb v L q W e w') := fun B lb W0 h1 h2 v W h3 h4 => by
    have h9 := hlays B lb W0 h1 h2 [doneS] 0 v W h3 h4 (by decide) (by decide) good_done (by show 1 + Z ≤ _; omega)
    rw [hL, hq] at h9
    exact h9
  have HSIZE : Hid (∀ W, Below w.heap.size w W → Calls Tryz.prog 33 #[nodeVal k s m n (.slice a len c)] W fun e w' => e = .returned (.tuple #[.int .i64 ((Z + 1 : Nat) : Int), .int .i64 0]) ∧ Below W.heap.size W w') := hsize
  rw [hL, hq]
  have hz : Z + 1 ≤ 4096 := hchk.2
  obtain ⟨Z1, hZ1⟩ : ∃ Z1, Z + 1 = Z1 := ⟨_, rfl⟩
  rw [hZ1] at HSIZE hz
  clear hsize hlays hchk hL hq hT hZ hn hl h0 hlay hsn hZ1
  have HB1 : Hid (Below w.heap.size w ((w.alloc (.cells #[.int .i64 k, .int .u64 (s.a : Nat), .int .u64 (s.b : Nat), .int .u64 (s.c : Nat), .int .u64 (s.d : Nat), .int .i64 m, .int .i64 n, .slice a len c] 42)).alloc (.cells #[.slice none 0 0, .int .i64 0] 24))) := ((Below.refl _ _).alloc (Nat.le_refl _) _).alloc (by go_size) _
  have HC1 : Hid (CB ((w.alloc (.cells #[.int .i64 k, .int .u64 (s.a : Nat), .int .u64 (s.b : Nat), .int .u64 (s.c : Nat), .int .u64 (s.d : Nat), .int .i64 m, .int .i64 n, .slice a len c] 42)).alloc (.cells #[.slice none 0 0, .int .i64 0] 24)) 42 w.heap.size (nodeCells k s m n (.slice a len c))) := CB.alloc (CB.new w _ _) _
  have HR1 : Hid (CB ((w.alloc (.cells #[.int .i64 k, .int .u64 (s.a : Nat), .int .u64 (s.b : Nat), .int .u64 (s.c : Nat), .int .u64 (s.d : Nat), .int .i64 m, .int .i64 n, .slice a len c] 42)).alloc (.cells #[.slice none 0 0, .int .i64 0] 24)) 24 (w.heap.size + 1) [.slice none 0 0, .int .i64 0]) := cb2 w _ _ _
  go_enter Tryz.func20, Tryz.ntmps20
  go_wp2_with (first
    | (go_at_call 36; refine (HLAY.out w2.heap.size lb w2 HB2.out (Nat.le_refl _) v4 _ HS4.out.at_ HB4.out).mono ?_; rintro e w5 ⟨rfl, v5, hS5⟩; obtain ⟨la, lc, rfl⟩ := own_slice hS5.at_.row; obtain ⟨⟨z0, -⟩, -⟩ := hS5.at_.cells; have HR5 := Lib.hid (hS5.box HR4.out HNE.out.1 (fun e => (by have h9 := World.ownsRow.lt HS4.out.at_.row _ e; have h8 := HNE.out.2; omega))); obtain ⟨⟨r0, r1⟩, rf0, rf1⟩ := CB.two HR5.out; have HB5 := Lib.hid (hS5.from0 HS4.out.at_ HB4.out (Nat.le_refl _)); have HO5 := Lib.hid hS5.at_.row; clear hS5)
    | (go_at_call 35; refine (p_add lb [] v3 _ 5 .zero 0 0 HL3.out (by decide)).mono ?_; rintro e w4 ⟨rfl, v4, hS4⟩; have HR4 := Lib.hid (hS4.box HR3.out HNE.out.1 (fun e => (by have h9 := World.ownsRow.lt HL3.out.row _ e; have h8 := HNE.out.2; omega))); have HC4 := Lib.hid (hS4.box HC3.out HNF.out.1 (fun e => (by have h9 := World.ownsRow.lt HL3.out.row _ e; have h8 := HNF.out.2; omega))); obtain ⟨⟨y0, y1, y2, y3, y4, y5, y6, y7⟩, -⟩ := HC4.out.eight; have HB4 := Lib.hid (hS4.from0 HL3.out HB3.out (Nat.le_refl _)); have HS4 := Lib.hid hS4; clear hS4)
    | (go_at_call 34; refine (n_newLayout Z1 _ hz).mono ?_; rintro e w3 ⟨hb3, lb, v3, rfl, hL3⟩; have HC3 := Lib.hid (CB.below HC2.out hb3); have HR3 := Lib.hid (CB.below HR2.out hb3); have HNE : Hid (w.heap.size + 1 ≠ lb ∧ w.heap.size + 1 < w2.heap.size) := (by have h8 := CB.lt HR2.out; have h9 := hL3.base; exact ⟨by omega, by omega⟩); have HNF : Hid (w.heap.size ≠ lb ∧ w.heap.size < w2.heap.size) := (by have h8 := CB.lt HR2.out; have h9 := hL3.base; exact ⟨by omega, by omega⟩); have HB3 := Lib.hid hb3; have HL3 := Lib.hid hL3; clear hb3 hL3)
    | (go_at_call 33; refine (HSIZE.out _ HB1.out).mono ?_; rintro e w2 ⟨rfl, hb2⟩; have HB2 := Lib.hid (HB1.out.trans (hb2.mono HB1.out.size)); have HC2 := Lib.hid (CB.below HC1.out hb2); have HR2 := Lib.hid (CB.below HR1.out hb2); clear hb2))
  have hz9 := CB.set2 HR5.out (.slice la L.length lc) (.int .i64 (q : Nat))
  refine bodyPost_ret (results_cbT rfl rfl rfl hz9 Tryz.underlying24 infoNfa) rfl ⟨?_, la, lc, rfl, ?_⟩
  · exact ((HB2.out.trans (HB5.out.mono HB2.out.size)).setCell (p := ⟨w.heap.size + 1, 0, none⟩) (Nat.le_succ _) _).setCell (p := ⟨w.heap.size + 1, 1, none⟩) (Nat.le_succ _) _
  · have hch : Chg (fun k => k = w.heap.size + 1) w5 ((w5.setCell ⟨w.heap.size + 1, 0, none⟩ (.slice la L.length lc)).setCell ⟨w.heap.size + 1, 1, none⟩ (.int .i64 (q : Nat))) := Chg.setCell (S := fun k => k = w.heap.size + 1) (Chg.setCell (S := fun k => k = w.heap.size + 1) (Chg.refl _ w5) (p := ⟨w.heap.size + 1, 0, none⟩) rfl _) (p := ⟨w.heap.size + 1, 1, none⟩) rfl _
    exact hch.ownsS (ownsS_base HO5.out HB2.out.size) fun k hk e => (by have h9 := World.ownsRow.lt HO5.out k hk; have h8 := HNE.out.2; omega)
end

section
variable {B : Nat}

/-! How a begin, an end and nothing are laid. -/
set_option maxHeartbeats 1000000 in
set_option maxRecDepth 100000 in
theorem n_beginF (lb : Nat) (L : List St) (q : Nat) (v : Value) (w : World) (k : Int) (s : S4) (m n : Int) (a : Option Addr) (len c : Nat) (h : LC B w lb L v) (hlen : L.length ≤ 1048575) :
    Calls Tryz.prog 73 #[.pointer (some ⟨lb, 0, none⟩), nodeVal k s m n (.slice a len c), .int .i64 (q : Nat)] w fun e w' => LRet B lb v (L ++ [⟨3, .zero, q, 0⟩]) L.length w e w' := by
  have HS := Lib.hid ((LS.refl h).alloc (.cells #[.int .i64 k, .int .u64 (s.a : Nat), .int .u64 (s.b : Nat), .int .u64 (s.c : Nat), .int .u64 (s.d : Nat), .int .i64 m, .int .i64 n, .slice a len c] 42))
  clear h
  go_enter Tryz.func73, Tryz.ntmps73
  go_wp2_with (go_at_call 35; refine (p_add lb L v _ 3 .zero q 0 HS.out.at_ (by omega)).mono ?_; rintro e w2 ⟨rfl, v2, hS2⟩; have HS2 := Lib.hid (HS.out.trans hS2); clear hS2)
  go_ret
  exact ⟨rfl, _, HS2.out⟩
set_option maxHeartbeats 1000000 in
set_option maxRecDepth 100000 in
theorem n_layBegin (lb : Nat) (w0 : World) (s : S4) (m n : Int) (p : Value) (ps : List NT) (hp : ∃ a l c, p = .slice a l c) : LayOK B lb w0 (.mk 2 s m n p ps) := by
  obtain ⟨a, len, c, rfl⟩ := hp
  intro L q v w h hb h0 hq hg hlen
  have e1 : layT (NT.mk 2 s m n (.slice a len c) ps).pt q L = (L ++ [⟨3, .zero, q, 0⟩], L.length) := by rw [NT.pt_mk, layT_eq]; rfl
  have e2 : cnt (NT.mk 2 s m n (.slice a len c) ps).pt = 1 := by rw [NT.pt_mk, cnt]; rfl
  rw [e1]
  rw [e2] at hlen
  show Calls Tryz.prog 36 #[.pointer (some ⟨lb, 0, none⟩), nodeVal 2 s m n (.slice a len c), .int .i64 (q : Nat)] w _
  have HS := Lib.hid ((LS.refl h).alloc (.cells #[.int .i64 2, .int .u64 (s.a : Nat), .int .u64 (s.b : Nat), .int .u64 (s.c : Nat), .int .u64 (s.d : Nat), .int .i64 m, .int .i64 n, .slice a len c] 42))
  have HSD := Lib.hid (HS.out.below ((Below.refl _ _).drew))
  obtain ⟨⟨c0, c1, c2, c3, c4, c5, c6, c7⟩, f0⟩ := HS.out.at_.cells
  clear h hb hg e1 e2
  go_enter Tryz.func36, Tryz.ntmps36
  go_wp2
  go_region_with (go_at_call 73; refine (n_beginF lb L q v _ 2 s m n a len c HSD.out.at_ (by omega)).mono ?_; rintro e w2 ⟨rfl, v2, hS2⟩; have HS2 := Lib.hid (HSD.out.trans hS2); clear hS2)
  all_goals
    go_wp2
    go_ret
    exact ⟨rfl, _, HS2.out⟩
set_option maxHeartbeats 1000000 in
set_option maxRecDepth 100000 in
theorem n_endF (lb : Nat) (L : List St) (q : Nat) (v : Value) (w : World) (k : Int) (s : S4) (m n : Int) (a : Option Addr) (len c : Nat) (h : LC B w lb L v) (hlen : L.length ≤ 1048575) :
    Calls Tryz.prog 74 #[.pointer (some ⟨lb, 0, none⟩), nodeVal k s m n (.slice a len c), .int .i64 (q : Nat)] w fun e w' => LRet B lb v (L ++ [⟨4, .zero, q, 0⟩]) L.length w e w' := by
  have HS := Lib.hid ((LS.refl h).alloc (.cells #[.int .i64 k, .int .u64 (s.a : Nat), .int .u64 (s.b : Nat), .int .u64 (s.c : Nat), .int .u64 (s.d : Nat), .int .i64 m, .int .i64 n, .slice a len c] 42))
  clear h
  go_enter Tryz.func74, Tryz.ntmps74
  go_wp2_with (go_at_call 35; refine (p_add lb L v _ 4 .zero q 0 HS.out.at_ (by omega)).mono ?_; rintro e w2 ⟨rfl, v2, hS2⟩; have HS2 := Lib.hid (HS.out.trans hS2); clear hS2)
  go_ret
  exact ⟨rfl, _, HS2.out⟩
set_option maxHeartbeats 1000000 in
set_option maxRecDepth 100000 in
theorem n_layEnd (lb : Nat) (w0 : World) (s : S4) (m n : Int) (p : Value) (ps : List NT) (hp : ∃ a l c, p = .slice a l c) : LayOK B lb w0 (.mk 3 s m n p ps) := by
  obtain ⟨a, len, c, rfl⟩ := hp
  intro L q v w h hb h0 hq hg hlen
  have e1 : layT (NT.mk 3 s m n (.slice a len c) ps).pt q L = (L ++ [⟨4, .zero, q, 0⟩], L.length) := by rw [NT.pt_mk, layT_eq]; rfl
  have e2 : cnt (NT.mk 3 s m n (.slice a len c) ps).pt = 1 := by rw [NT.pt_mk, cnt]; rfl
  rw [e1]
  rw [e2] at hlen
  show Calls Tryz.prog 36 #[.pointer (some ⟨lb, 0, none⟩), nodeVal 3 s m n (.slice a len c), .int .i64 (q : Nat)] w _
  have HS := Lib.hid ((LS.refl h).alloc (.cells #[.int .i64 3, .int .u64 (s.a : Nat), .int .u64 (s.b : Nat), .int .u64 (s.c : Nat), .int .u64 (s.d : Nat), .int .i64 m, .int .i64 n, .slice a len c] 42))
  have HSD := Lib.hid (HS.out.below ((Below.refl _ _).drew))
  obtain ⟨⟨c0, c1, c2, c3, c4, c5, c6, c7⟩, f0⟩ := HS.out.at_.cells
  clear h hb hg e1 e2
  go_enter Tryz.func36, Tryz.ntmps36
  go_wp2
  go_region_with (go_at_call 74; refine (n_endF lb L q v _ 3 s m n a len c HSD.out.at_ (by omega)).mono ?_; rintro e w2 ⟨rfl, v2, hS2⟩; have HS2 := Lib.hid (HSD.out.trans hS2); clear hS2)
  all_goals
    go_wp2
    go_ret
    exact ⟨rfl, _, HS2.out⟩
set_option maxHeartbeats 1000000 in
set_option maxRecDepth 100000 in
theorem n_noneF (lb : Nat) (L : List St) (q : Nat) (v : Value) (w : World) (k : Int) (s : S4) (m n : Int) (a : Option Addr) (len c : Nat) (h : LC B w lb L v) :
    Calls Tryz.prog 71 #[.pointer (some ⟨lb, 0, none⟩), nodeVal k s m n (.slice a len c), .int .i64 (q : Nat)] w fun e w' => LRet B lb v L q w e w' := by
  have HS := Lib.hid ((LS.refl h).alloc (.cells #[.int .i64 k, .int .u64 (s.a : Nat), .int .u64 (s.b : Nat), .int .u64 (s.c : Nat), .int .u64 (s.d : Nat), .int .i64 m, .int .i64 n, .slice a len c] 42))
  clear h
  go_enter Tryz.func71, Tryz.ntmps71
  go_wp2
  go_ret
  exact ⟨rfl, _, HS.out⟩
set_option maxHeartbeats 1000000 in
set_option maxRecDepth 100000 in
theorem n_layNone (lb : Nat) (w0 : World) (s : S4) (m n : Int) (p : Value) (ps : List NT) (hp : ∃ a l c, p = .slice a l c) : LayOK B lb w0 (.mk 0 s m n p ps) := by
  obtain ⟨a, len, c, rfl⟩ := hp
  intro L q v w h hb h0 hq hg hlen
  have e1 : layT (NT.mk 0 s m n (.slice a len c) ps).pt q L = (L, q) := by rw [NT.pt_mk, layT_eq]; rfl
  have e2 : cnt (NT.mk 0 s m n (.slice a len c) ps).pt = 0 := by rw [NT.pt_mk, cnt]; rfl
  rw [e1]
  rw [e2] at hlen
  show Calls Tryz.prog 36 #[.pointer (some ⟨lb, 0, none⟩), nodeVal 0 s m n (.slice a len c), .int .i64 (q : Nat)] w _
  have HS := Lib.hid ((LS.refl h).alloc (.cells #[.int .i64 0, .int .u64 (s.a : Nat), .int .u64 (s.b : Nat), .int .u64 (s.c : Nat), .int .u64 (s.d : Nat), .int .i64 m, .int .i64 n, .slice a len c] 42))
  have HSD := Lib.hid (HS.out.below ((Below.refl _ _).drew))
  obtain ⟨⟨c0, c1, c2, c3, c4, c5, c6, c7⟩, f0⟩ := HS.out.at_.cells
  clear h hb hg e1 e2
  go_enter Tryz.func36, Tryz.ntmps36
  go_wp2
  go_region_with (go_at_call 71; refine (n_noneF lb L q v _ 0 s m n a len c HSD.out.at_).mono ?_; rintro e w2 ⟨rfl, v2, hS2⟩; have HS2 := Lib.hid (HSD.out.trans hS2); clear hS2)
  all_goals
    go_wp2
    go_ret
    exact ⟨rfl, _, HS2.out⟩
end
end Go.Proofs.YthhchpmlljfpjaaGreat
