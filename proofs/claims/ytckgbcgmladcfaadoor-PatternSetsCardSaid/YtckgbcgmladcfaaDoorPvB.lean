import Derived.Test.YtckgbcgmladcfaaDoorPuV
import Derived.Test.YtckgbcgmladcfaaDoorPuQ
import Derived.Test.YtckgbcgmladcfaaDoorPuX
namespace Go.Proofs.YtckgbcgmladcfaaDoor
open Go.RowKit

/-! Any set there and back. -/
theorem set_cases {s : S4} (h : s.fit) : (setTxt s).length < 3 ∨ (3 ≤ (setTxt s).length ∧ at0 (setTxt s) 0 = 91 ∧ at0 (setTxt s) 1 = 94) ∨
    (3 ≤ (setTxt s).length ∧ at0 (setTxt s) 0 = 91 ∧ at0 (setTxt s) 1 ≠ 94 ∧ (setTxt s).length ≤ 1000 ∧ Run 0 (.pat []) (91 :: 94 :: (setTxt s).drop 1) (.ok (setT s.cpl) [])) := by
  by_cases ha : s.isAll = true
  · exact .inl (by unfold setTxt; rw [if_pos ha]; decide)
  · by_cases h0 : runsL s.has 256 = []
    · exact .inr (.inl (by unfold setTxt; rw [if_neg ha, h0]; decide))
    · by_cases h1 : ∃ a, runsL s.has 256 = [(a, a)]
      · obtain ⟨a, h1⟩ := h1
        refine .inl ?_
        unfold setTxt
        rw [if_neg ha, h1]
        simp only [if_pos]
        unfold escT
        split <;> simp
      · have ha2 : s.isAll = false := by simpa using ha
        have h2 : ∀ a, runsL s.has 256 ≠ [(a, a)] := fun a e => h1 ⟨a, e⟩
        have h3 := setTxt_second ha2 h0 h2
        have h4 := setTxt_of ha2 h0 h2
        have h5 := runsL_short s.has
        refine .inr (.inr ⟨h3.2, by rw [h4]; rfl, h3.1, ?_, ?_⟩)
        · rw [h4, List.length_cons, List.length_append, List.length_singleton]; omega
        · rw [h4]; exact turned_run h h0
theorem prn_set (s : S4) : prnS (setT s) = setTxt s ∧ prnE (setT s) = 0 := by
  have h1 : chk (setT s) = 0 := by unfold chk setT; rw [nodes, nodesL, may, mayL]; rfl
  have h2 : prt (setT s) = setTxt s := by unfold setT; rw [prt]; rfl
  have h3 : dep (setT s) = 0 := by unfold setT; rw [dep]; rfl
  have h4 := setTxt_short s
  unfold prnS prnE
  rw [h1, h2, h3]
  exact ⟨by rw [if_pos ⟨rfl, h4, by decide⟩], by rw [if_pos rfl, if_pos ⟨h4, by decide⟩]⟩
theorem set_back {s : S4} (h : s.fit) : Run 0 (.pat []) (setTxt s) (.ok (setT s) []) := by
  have h2 : prt (setT s) = setTxt s := by unfold setT; rw [prt]; rfl
  rw [← h2]
  refine back_any ?_ ?_ ?_
  · unfold setT; rw [may, mayL]; rfl
  · unfold setT; rw [setsOk]; exact ⟨h, trivial⟩
  · unfold setT; rw [dep]; decide
theorem leaf_of {k : Int} {S s : S4} {m n : Int} {a : Option Addr} {c d : Nat} {ps : List NT} {w : World} (h : (NT.mk k S m n (.slice a c d) ps).pt = setT s) (hl : (NT.mk k S m n (.slice a c d) ps).Lies w) : 1 = k ∧ s = S ∧ 0 = m ∧ 0 = n ∧ 0 = c ∧ [] = ps := by
  rw [NT.pt_mk] at h
  unfold setT at h
  injection h with h1 h2 h3 h4 h5
  obtain rfl : ps = [] := by simpa using h5
  obtain ⟨⟨a', c', e, _⟩, _⟩ := NT.Lies_mk.1 hl
  injection e with _ e2
  exact ⟨h1.symm, h2.symm, h3.symm, h4.symm, e2.symm, rfl⟩
def setN (s : S4) (a : Option Addr) (d : Nat) : NT := .mk 1 s 0 0 (.slice a 0 d) []
theorem setN_pt (s : S4) (a : Option Addr) (d : Nat) : (setN s a d).pt = setT s := by unfold setN setT; rw [NT.pt_mk]; rfl
theorem setN_num {s : S4} (h : s.fit) (a : Option Addr) (d : Nat) : (setN s a d).num := by
  unfold setN
  rw [NT.num_mk]
  exact ⟨by unfold In64; omega, by unfold In64; omega, by unfold In64; omega, h, fun t ht => (by cases ht)⟩
theorem setN_lies (s : S4) (a : Option Addr) (d : Nat) (w : World) : (setN s a d).Lies w := NT.Lies_mk.2 ⟨⟨a, d, rfl, .inl rfl⟩, fun t ht => (by cases ht)⟩
theorem turned_txt {T : List Nat} (h : B8 T) (m : Nat) (hm : (strN T).size = m) : bsN (⟨#[91, 94]⟩ ++ (strN T).extract 1 m) = 91 :: 94 :: T.drop 1 := by
  rw [bsN_app2, ← hm, bsN_from, bsN_strN h]
  rfl
set_option maxHeartbeats 2000000 in
set_option maxRecDepth 100000 in
theorem p_PatternSets (s : S4) (w : World) (hs : s.fit) (hg : Gl w) (hT : Tb w) (hw : 0 + 2 ≤ w.heap.size) : Calls Tryd.prog 6 #[s.val] w fun e w' => e = .returned (.bool true) ∧ Below w.heap.size w w' := by
  have hprint := fun W (hW : Below w.heap.size w W) => p_Print (setN s none 0) W (setN_num hs none 0) (setN_lies s none 0 W) (hT.below hW)
  have hworks := fun W (hW : Below w.heap.size w W) => p_works W (hg.below hW) (hT.below hW) (Nat.le_trans hw hW.size)
  have hsame := fun (a : Option Addr) (d : Nat) W => p_same (setN s a d) (setN s none 0) W (by rw [setN_pt, setN_pt]) (by rw [setN_pt]; unfold setT; rw [nodes, nodesL]; decide) (setN_lies s a d W) (setN_lies s none 0 W)
  have hrun := set_back hs
  have hlen := setTxt_short s
  have hcs := set_cases hs
  rw [setN_pt, (prn_set s).1, (prn_set s).2] at hprint
  have hc1 := xor_all s.a hs.1
  have hc2 := xor_all s.b hs.2.1
  have hc3 := xor_all s.c hs.2.2.1
  have hc4 := xor_all s.d hs.2.2.2
  have hnot := S4.not_eq hs
  obtain ⟨C, hC⟩ : ∃ C, s.cpl = C := ⟨_, rfl⟩
  rw [hC] at hcs hnot
  obtain ⟨T, hTT⟩ : ∃ T, setTxt s = T := ⟨_, rfl⟩
  rw [hTT] at hprint hrun hlen hcs
  have HP : Hid (∀ W, Below w.heap.size w W → Calls Tryd.prog 8 #[nodeVal 1 s 0 0 (.slice none 0 0)] W fun e w' => e = .returned (.tuple #[.string (strN T), .int .i64 0]) ∧ Below W.heap.size W w' ∧ B8 T) := hprint
  have HSM : Hid (∀ (a : Option Addr) (d : Nat) W, Calls Tryd.prog 12 #[nodeVal 1 s 0 0 (.slice a 0 d), nodeVal 1 s 0 0 (.slice none 0 0)] W fun e w' => e = .returned (.bool true) ∧ Below W.heap.size W w') := hsame
  have HWORKS := Lib.hid hworks
  have HRUN := Lib.hid hrun
  have HLEN := Lib.hid hlen
  have HG := Lib.hid hg
  have HMARK : Hid True := trivial
  clear hprint hworks hsame hrun hg hT hTT hC
  have hsz : (strN T).size = T.length := strN_size T
  have HB1 : Hid (Below w.heap.size w ((w.alloc (.cells #[.int .u64 (s.a : Nat), .int .u64 (s.b : Nat), .int .u64 (s.c : Nat), .int .u64 (s.d : Nat)] 24)).alloc (.cells #[.int .i64 1, .int .u64 (s.a : Nat), .int .u64 (s.b : Nat), .int .u64 (s.c : Nat), .int .u64 (s.d : Nat), .int .i64 0, .int .i64 0, .slice none 0 0] 27))) := ((Below.refl _ _).alloc (Nat.le_refl _) _).alloc (by go_size) _
  have HC1 : Hid (CB ((w.alloc (.cells #[.int .u64 (s.a : Nat), .int .u64 (s.b : Nat), .int .u64 (s.c : Nat), .int .u64 (s.d : Nat)] 24)).alloc (.cells #[.int .i64 1, .int .u64 (s.a : Nat), .int .u64 (s.b : Nat), .int .u64 (s.c : Nat), .int .u64 (s.d : Nat), .int .i64 0, .int .i64 0, .slice none 0 0] 27)) 27 (w.heap.size + 1) (nodeCells 1 s 0 0 (.slice none 0 0))) := cb2 _ _ _ _
  have HS1 : Hid (SB ((w.alloc (.cells #[.int .u64 (s.a : Nat), .int .u64 (s.b : Nat), .int .u64 (s.c : Nat), .int .u64 (s.d : Nat)] 24)).alloc (.cells #[.int .i64 1, .int .u64 (s.a : Nat), .int .u64 (s.b : Nat), .int .u64 (s.c : Nat), .int .u64 (s.d : Nat), .int .i64 0, .int .i64 0, .slice none 0 0] 27)) w.heap.size s) := CB.alloc (CB.new w 24 s.cells) _
  rcases hcs with h3 | ⟨h3, ha0, ha1⟩ | ⟨h3, ha0, ha1, hl1000, hturn⟩
  · have h3i : ((T.length : Nat) : Int) < 3 := by omega
    clear hc1 hc2 hc3 hc4 hnot
    go_enter Tryd.func6, Tryd.ntmps6
    go_wp2_with (first | (go_at_call 12; refine (HSM.out ua ud _).mono ?_; rintro e w4 ⟨rfl, hb4⟩; have HB4 : Hid (Below w.heap.size w w4) := HB3.out.trans (hb4.mono HB3.out.size); have HS4 := Lib.hid (CB.below HS3.out hb4); clear hb4) | (go_at_call 11; clear HMARK; refine (p_parse_ok (strN T) (setT s) _ (HG.out.below HB2.out) (Nat.le_trans hw HB2.out.size) (by rw [bsN_strN H8.out]; exact HLEN.out) (by rw [bsN_strN H8.out]; exact HRUN.out)).mono ?_; rintro e w3 ⟨hb3, uk, uS, um, un, ua, uc, ud, us, hN3, hpt3, rfl⟩; obtain ⟨rfl, rfl, rfl, rfl, rfl, rfl⟩ := leaf_of hpt3 (NT.Own.lies _ hN3.own); have HB3 : Hid (Below w.heap.size w (w3.alloc (.cells #[.int .i64 1, .int .u64 (s.a : Nat), .int .u64 (s.b : Nat), .int .u64 (s.c : Nat), .int .u64 (s.d : Nat), .int .i64 0, .int .i64 0, .slice ua 0 ud] 27))) := (HB2.out.trans (hb3.mono HB2.out.size)).alloc (HB2.out.trans (hb3.mono HB2.out.size)).size _; have HC3 := Lib.hid (CB.alloc (CB.below HC2.out hb3) (.cells #[.int .i64 1, .int .u64 (s.a : Nat), .int .u64 (s.b : Nat), .int .u64 (s.c : Nat), .int .u64 (s.d : Nat), .int .i64 0, .int .i64 0, .slice ua 0 ud] 27)); have HS3 := Lib.hid (CB.alloc (CB.below HS2.out hb3) (.cells #[.int .i64 1, .int .u64 (s.a : Nat), .int .u64 (s.b : Nat), .int .u64 (s.c : Nat), .int .u64 (s.d : Nat), .int .i64 0, .int .i64 0, .slice ua 0 ud] 27)); obtain ⟨⟨z0, z1, z2, z3, z4, z5, z6, z7⟩, _⟩ := HC3.out.eight; clear hb3 hN3 hpt3) | (go_at_call 8; refine (HP.out _ HB1.out).mono ?_; rintro e w2 ⟨rfl, hb2, h8⟩; have HB2 : Hid (Below w.heap.size w w2) := HB1.out.trans (hb2.mono HB1.out.size); have HC2 := Lib.hid (CB.below HC1.out hb2); have HS2 := Lib.hid (CB.below HS1.out hb2); have H8 := Lib.hid h8; clear hb2 h8) | (go_at_call 10; refine (HWORKS.out _ HB4.out).mono ?_; rintro e w6 ⟨rfl, hb6⟩; have HB6 : Hid (Below w.heap.size w w6) := HB4.out.trans (hb6.mono HB4.out.size); clear hb6))
    go_ret
    exact ⟨rfl, HB6.out⟩
  · have h3i : ¬ ((T.length : Nat) : Int) < 3 := by omega
    have h3d : decide (((T.length : Nat) : Int) < 3) = false := decide_eq_false h3i
    have HA0 := Lib.hid ha0
    have HA1 := Lib.hid ha1
    clear hc1 hc2 hc3 hc4 hnot ha0 ha1
    go_enter Tryd.func6, Tryd.ntmps6
    go_wp2_with (first | (go_at_call 12; refine (HSM.out ua ud _).mono ?_; rintro e w4 ⟨rfl, hb4⟩; have HB4 : Hid (Below w.heap.size w w4) := HB3.out.trans (hb4.mono HB3.out.size); have HS4 := Lib.hid (CB.below HS3.out hb4); clear hb4) | (go_at_call 11; clear HMARK; refine (p_parse_ok (strN T) (setT s) _ (HG.out.below HB2.out) (Nat.le_trans hw HB2.out.size) (by rw [bsN_strN H8.out]; exact HLEN.out) (by rw [bsN_strN H8.out]; exact HRUN.out)).mono ?_; rintro e w3 ⟨hb3, uk, uS, um, un, ua, uc, ud, us, hN3, hpt3, rfl⟩; obtain ⟨rfl, rfl, rfl, rfl, rfl, rfl⟩ := leaf_of hpt3 (NT.Own.lies _ hN3.own); have HB3 : Hid (Below w.heap.size w (w3.alloc (.cells #[.int .i64 1, .int .u64 (s.a : Nat), .int .u64 (s.b : Nat), .int .u64 (s.c : Nat), .int .u64 (s.d : Nat), .int .i64 0, .int .i64 0, .slice ua 0 ud] 27))) := (HB2.out.trans (hb3.mono HB2.out.size)).alloc (HB2.out.trans (hb3.mono HB2.out.size)).size _; have HC3 := Lib.hid (CB.alloc (CB.below HC2.out hb3) (.cells #[.int .i64 1, .int .u64 (s.a : Nat), .int .u64 (s.b : Nat), .int .u64 (s.c : Nat), .int .u64 (s.d : Nat), .int .i64 0, .int .i64 0, .slice ua 0 ud] 27)); have HS3 := Lib.hid (CB.alloc (CB.below HS2.out hb3) (.cells #[.int .i64 1, .int .u64 (s.a : Nat), .int .u64 (s.b : Nat), .int .u64 (s.c : Nat), .int .u64 (s.d : Nat), .int .i64 0, .int .i64 0, .slice ua 0 ud] 27)); obtain ⟨⟨z0, z1, z2, z3, z4, z5, z6, z7⟩, _⟩ := HC3.out.eight; clear hb3 hN3 hpt3) | (go_at_call 8; refine (HP.out _ HB1.out).mono ?_; rintro e w2 ⟨rfl, hb2, h8⟩; have HB2 : Hid (Below w.heap.size w w2) := HB1.out.trans (hb2.mono HB1.out.size); have HC2 := Lib.hid (CB.below HC1.out hb2); have HS2 := Lib.hid (CB.below HS1.out hb2); have H8 := Lib.hid h8; have x0 : ∀ W, (Instr.index 9 (.string (strN T)) (.int .i64 0)).run Tryd.prog W = .ok (.int .u8 91) W := idx_str 9 Tryd.underlying9 (strN T) 0 91 (by rw [strN_size]; omega) (by rw [bsN_strN h8]; exact HA0.out); have x1 : ∀ W, (Instr.index 9 (.string (strN T)) (.int .i64 1)).run Tryd.prog W = .ok (.int .u8 94) W := idx_str 9 Tryd.underlying9 (strN T) 1 94 (by rw [strN_size]; omega) (by rw [bsN_strN h8]; exact HA1.out); clear hb2 h8) | (go_at_call 10; refine (HWORKS.out _ HB4.out).mono ?_; rintro e w6 ⟨rfl, hb6⟩; have HB6 : Hid (Below w.heap.size w w6) := HB4.out.trans (hb6.mono HB4.out.size); clear hb6))
    go_ret
    exact ⟨rfl, HB6.out⟩
  · have h3i : ¬ ((T.length : Nat) : Int) < 3 := by omega
    have h3d : decide (((T.length : Nat) : Int) < 3) = false := decide_eq_false h3i
    have HA0 := Lib.hid ha0
    have HTURN := Lib.hid hturn
    clear ha0 hturn
    obtain ⟨z, hz⟩ : ∃ z, at0 T 1 = z := ⟨_, rfl⟩
    rw [hz] at ha1
    have HZ := Lib.hid hz
    have hz94 : ¬ ((z : Nat) : Int) = 94 := by omega
    clear hz ha1
    obtain ⟨u1, hx1, hu1⟩ := hc1
    obtain ⟨u2, hx2, hu2⟩ := hc2
    obtain ⟨u3, hx3, hu3⟩ := hc3
    obtain ⟨u4, hx4, hu4⟩ := hc4
    obtain ⟨Ca, Cb, Cc, Cd⟩ := C
    unfold S4.not at hnot
    injection hnot with g1 g2 g3 g4
    rw [g1] at hu1
    rw [g2] at hu2
    rw [g3] at hu3
    rw [g4] at hu4
    subst hu1 hu2 hu3 hu4
    clear g1 g2 g3 g4
    go_enter Tryd.func6, Tryd.ntmps6
    go_wp2_with (first | (go_at_call 11; refine (p_parse_ok _ (setT ⟨u1, u2, u3, u4⟩) _ (HG.out.below HB4.out) (Nat.le_trans hw HB4.out.size) (by rw [turned_txt H8.out _ (strN_size T)]; simp; omega) (by rw [turned_txt H8.out _ (strN_size T)]; exact HTURN.out)).mono ?_; rintro e w5 ⟨hb5, vk, vS, vm, vn, va, vc, vd, vs, hN5, hpt5, rfl⟩; obtain ⟨rfl, rfl, rfl, rfl, rfl, rfl⟩ := leaf_of hpt5 (NT.Own.lies _ hN5.own); have HB5 : Hid (Below w.heap.size w (w5.alloc (.cells #[.int .i64 1, .int .u64 (u1 : Nat), .int .u64 (u2 : Nat), .int .u64 (u3 : Nat), .int .u64 (u4 : Nat), .int .i64 0, .int .i64 0, .slice va 0 vd] 27))) := (HB4.out.trans (hb5.mono HB4.out.size)).alloc (HB4.out.trans (hb5.mono HB4.out.size)).size _; obtain ⟨q0, q1, q2, q3⟩ := CB.four (CB.alloc (CB.below HS4.out hb5) (.cells #[.int .i64 1, .int .u64 (u1 : Nat), .int .u64 (u2 : Nat), .int .u64 (u3 : Nat), .int .u64 (u4 : Nat), .int .i64 0, .int .i64 0, .slice va 0 vd] 27)); obtain ⟨⟨y0, y1, y2, y3, y4, y5, y6, y7⟩, _⟩ := (CB.new w5 27 [.int .i64 1, .int .u64 (u1 : Nat), .int .u64 (u2 : Nat), .int .u64 (u3 : Nat), .int .u64 (u4 : Nat), .int .i64 0, .int .i64 0, .slice va 0 vd]).eight; clear hb5 hN5 hpt5) | (go_at_call 12; refine (HSM.out ua ud _).mono ?_; rintro e w4 ⟨rfl, hb4⟩; have HB4 : Hid (Below w.heap.size w w4) := HB3.out.trans (hb4.mono HB3.out.size); have HS4 := Lib.hid (CB.below HS3.out hb4); clear hb4) | (go_at_call 11; clear HMARK; refine (p_parse_ok (strN T) (setT s) _ (HG.out.below HB2.out) (Nat.le_trans hw HB2.out.size) (by rw [bsN_strN H8.out]; exact HLEN.out) (by rw [bsN_strN H8.out]; exact HRUN.out)).mono ?_; rintro e w3 ⟨hb3, uk, uS, um, un, ua, uc, ud, us, hN3, hpt3, rfl⟩; obtain ⟨rfl, rfl, rfl, rfl, rfl, rfl⟩ := leaf_of hpt3 (NT.Own.lies _ hN3.own); have HB3 : Hid (Below w.heap.size w (w3.alloc (.cells #[.int .i64 1, .int .u64 (s.a : Nat), .int .u64 (s.b : Nat), .int .u64 (s.c : Nat), .int .u64 (s.d : Nat), .int .i64 0, .int .i64 0, .slice ua 0 ud] 27))) := (HB2.out.trans (hb3.mono HB2.out.size)).alloc (HB2.out.trans (hb3.mono HB2.out.size)).size _; have HC3 := Lib.hid (CB.alloc (CB.below HC2.out hb3) (.cells #[.int .i64 1, .int .u64 (s.a : Nat), .int .u64 (s.b : Nat), .int .u64 (s.c : Nat), .int .u64 (s.d : Nat), .int .i64 0, .int .i64 0, .slice ua 0 ud] 27)); have HS3 := Lib.hid (CB.alloc (CB.below HS2.out hb3) (.cells #[.int .i64 1, .int .u64 (s.a : Nat), .int .u64 (s.b : Nat), .int .u64 (s.c : Nat), .int .u64 (s.d : Nat), .int .i64 0, .int .i64 0, .slice ua 0 ud] 27)); obtain ⟨⟨z0, z1, z2, z3, z4, z5, z6, z7⟩, _⟩ := HC3.out.eight; clear hb3 hN3 hpt3) | (go_at_call 8; refine (HP.out _ HB1.out).mono ?_; rintro e w2 ⟨rfl, hb2, h8⟩; have HB2 : Hid (Below w.heap.size w w2) := HB1.out.trans (hb2.mono HB1.out.size); have HC2 := Lib.hid (CB.below HC1.out hb2); have HS2 := Lib.hid (CB.below HS1.out hb2); have H8 := Lib.hid h8; have x0 : ∀ W, (Instr.index 9 (.string (strN T)) (.int .i64 0)).run Tryd.prog W = .ok (.int .u8 91) W := idx_str 9 Tryd.underlying9 (strN T) 0 91 (by rw [strN_size]; omega) (by rw [bsN_strN h8]; exact HA0.out); have x1 : ∀ W, (Instr.index 9 (.string (strN T)) (.int .i64 1)).run Tryd.prog W = .ok (.int .u8 (z : Nat)) W := idx_str 9 Tryd.underlying9 (strN T) 1 z (by rw [strN_size]; omega) (by rw [bsN_strN h8]; exact HZ.out); clear hb2 h8) | (go_at_call 10; refine (HWORKS.out _ HB5.out).mono ?_; rintro e w6 ⟨rfl, hb6⟩; have HB6 : Hid (Below w.heap.size w w6) := HB5.out.trans (hb6.mono HB5.out.size); clear hb6))
    go_ret
    exact ⟨rfl, HB6.out⟩
end Go.Proofs.YtckgbcgmladcfaaDoor
