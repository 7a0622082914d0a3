import Derived.Test.YtckgbcgmladcfaaDoorPuV
import Derived.Test.YtckgbcgmladcfaaDoorPuQ
namespace Go.Proofs.YtckgbcgmladcfaaDoor
open Go.RowKit

/-! The stage's theorem: what is printed is read as the same tree. -/
theorem prn_cases (t : PT) : (prnE t = 0 ∧ prnS t = prt t ∧ may t = true ∧ dep t ≤ 64 ∧ (prt t).length ≤ 1024) ∨ (prnE t = 3 ∧ prnS t = []) ∨ (prnE t = 107 ∧ prnS t = [] ∧ chk t = 107) := by
  unfold prnS prnE
  by_cases hc : chk t = 0
  · have hm := (chk_zero hc).2
    by_cases hl : (prt t).length ≤ 1024 ∧ dep t ≤ 64
    · rw [if_pos hc, if_pos hl, if_pos ⟨hc, hl⟩]
      exact .inl ⟨rfl, rfl, hm, hl.2, hl.1⟩
    · rw [if_pos hc, if_neg hl, if_neg (fun h => hl h.2)]
      exact .inr (.inl ⟨rfl, rfl⟩)
  · rw [if_neg hc, if_neg (fun h => hc h.1)]
    unfold chk at hc ⊢
    split
    · exact .inr (.inl ⟨rfl, rfl⟩)
    · rename_i h1
      rw [if_neg h1] at hc
      split
      · rename_i h2; rw [if_pos h2] at hc; exact absurd rfl hc
      · exact .inr (.inr ⟨rfl, rfl, rfl⟩)
theorem NT.num_sets (t : NT) : t.num → setsOk t.pt := by
  induction t using NT.ind with
  | h k s m n p ps ih =>
    rw [NT.num_mk, NT.pt_mk, setsOk]
    rintro ⟨_, _, _, hs, hps⟩
    refine ⟨hs, ?_⟩
    clear hs
    induction ps with
    | nil => trivial
    | cons x xs ih2 => exact ⟨ih x (by simp) (hps x (by simp)), ih2 (fun t ht => ih t (List.mem_cons_of_mem _ ht)) (fun t ht => hps t (List.mem_cons_of_mem _ ht))⟩
set_option maxHeartbeats 2000000 in
set_option maxRecDepth 100000 in
theorem p_PatternBack (t : NT) (w : World) (hn : t.num) (hl : t.Lies w) (hg : Gl w) (hT : Tb w) (hw : 0 + 2 ≤ w.heap.size) : Calls Tryd.prog 3 #[t.val] w fun e w' => e = .returned (.bool true) ∧ Below w.heap.size w w' := by
  have hmany := fun W (hW : Below w.heap.size w W) => p_many t 2500 W (by omega) (hl.below hW)
  have hprint := fun W (hW : Below w.heap.size w W) => p_Print t W hn (hl.below hW) (hT.below hW)
  have hcheck := fun W (hW : Below w.heap.size w W) => p_Check t W hn (hl.below hW)
  have hworks := fun W (hW : Below w.heap.size w W) => p_works W (hg.below hW) (hT.below hW) (Nat.le_trans hw hW.size)
  have HWORKS := Lib.hid hworks
  have hsets := NT.num_sets t hn
  have hcs := prn_cases t.pt
  have hsame := fun (u : NT) W (hu : u.pt = t.pt) (hb : nodes t.pt ≤ 2500) (hW : Below w.heap.size w W) (hlu : u.Lies W) => p_same u t W hu (by rw [hu]; omega) hlu (hl.below hW)
  have hback : prnE t.pt = 0 → B8 (prnS t.pt) → (bsN (strN (prnS t.pt))).length ≤ 1024 ∧ Run 0 (.pat []) (bsN (strN (prnS t.pt))) (.ok t.pt []) := by
    intro h0 h8
    rw [bsN_strN h8]
    rcases hcs with ⟨_, h2, h3, h4, h5⟩ | ⟨h1, _⟩ | ⟨h1, _⟩
    · rw [h2]; exact ⟨h5, back_any h3 hsets h4⟩
    · rw [h0] at h1; cases h1
    · rw [h0] at h1; cases h1
  have hE : prnE t.pt = 0 ∨ (prnE t.pt = 3 ∧ prnS t.pt = []) ∨ (prnE t.pt = 107 ∧ prnS t.pt = [] ∧ chk t.pt = 107) := by
    rcases hcs with h | h | h
    · exact .inl h.1
    · exact .inr (.inl h)
    · exact .inr (.inr h)
  clear hcs hsets
  obtain ⟨N, hN⟩ : ∃ N, nodes t.pt = N := ⟨_, rfl⟩
  rw [hN] at hmany hsame
  obtain ⟨E, hEE⟩ : ∃ E, prnE t.pt = E := ⟨_, rfl⟩
  obtain ⟨S, hSS⟩ : ∃ S, prnS t.pt = S := ⟨_, rfl⟩
  rw [hEE, hSS] at hprint hback hE
  obtain ⟨C, hCC⟩ : ∃ C, chk t.pt = C := ⟨_, rfl⟩
  rw [hCC] at hcheck hE
  obtain ⟨T, hTT⟩ : ∃ T, t.pt = T := ⟨_, rfl⟩
  rw [hTT] at hback hsame
  obtain ⟨k, s, m, n, p, ps⟩ := t
  obtain ⟨⟨a, c, rfl, _⟩, _⟩ := NT.Lies_mk.1 hl
  have HM : Hid (∀ W, Below w.heap.size w W → Calls Tryd.prog 7 #[nodeVal k s m n (.slice a ps.length c), .int .i64 2500] W fun e w' => e = .returned (.int .i64 ((min N (2500 + 1) : Nat) : Int)) ∧ Below W.heap.size W w') := hmany
  have HP : Hid (∀ W, Below w.heap.size w W → Calls Tryd.prog 8 #[nodeVal k s m n (.slice a ps.length c)] W fun e w' => e = .returned (.tuple #[.string (strN S), .int .i64 E]) ∧ Below W.heap.size W w' ∧ B8 S) := hprint
  have HCK : Hid (∀ W, Below w.heap.size w W → Calls Tryd.prog 9 #[nodeVal k s m n (.slice a ps.length c)] W fun e w' => e = .returned (.int .i64 C) ∧ Below W.heap.size W w') := hcheck
  have HSM : Hid (∀ (u : NT) W, u.pt = T → N ≤ 2500 → Below w.heap.size w W → u.Lies W → Calls Tryd.prog 12 #[u.val, nodeVal k s m n (.slice a ps.length c)] W fun e w' => e = .returned (.bool true) ∧ Below W.heap.size W w') := hsame
  have HBK := Lib.hid hback
  have HG := Lib.hid hg
  show Calls Tryd.prog 3 #[nodeVal k s m n (.slice a ps.length c)] w _
  generalize ps.length = len at HM HP HCK HSM ⊢
  clear hmany hprint hcheck hworks hsame hback hN hEE hSS hCC hTT hn hl hg hT
  have HB1 : Hid (Below w.heap.size w (w.alloc (.cells #[.int .i64 k, .int .u64 (s.a : Nat), .int .u64 (s.b : Nat), .int .u64 (s.c : Nat), .int .u64 (s.d : Nat), .int .i64 m, .int .i64 n, .slice a len c] 27))) := (Below.refl _ _).alloc (Nat.le_refl _) _
  have HC1 : Hid (CB (w.alloc (.cells #[.int .i64 k, .int .u64 (s.a : Nat), .int .u64 (s.b : Nat), .int .u64 (s.c : Nat), .int .u64 (s.d : Nat), .int .i64 m, .int .i64 n, .slice a len c] 27)) 27 w.heap.size (nodeCells k s m n (.slice a len c))) := CB.new w _ _
  by_cases hbig : 2500 < N
  · have e1 : min N (2500 + 1) = 2501 := by omega
    rw [e1] at HM
    go_enter Tryd.func3, Tryd.ntmps3
    go_wp2_with (go_at_call 7; refine (HM.out _ HB1.out).mono ?_; rintro e w2 ⟨rfl, hb2⟩)
    go_ret
    exact ⟨rfl, HB1.out.trans (hb2.mono HB1.out.size)⟩
  · have e1 : min N (2500 + 1) = N := by omega
    rw [e1] at HM
    have hN2 : N ≤ 2500 := by omega
    have hNi : ¬ (2500 : Int) < (N : Int) := by omega
    rcases hE with rfl | ⟨rfl, rfl⟩ | ⟨rfl, rfl, rfl⟩
    · go_enter Tryd.func3, Tryd.ntmps3
      go_wp2_with (first | (go_at_call 7; refine (HM.out _ HB1.out).mono ?_; rintro e w2 ⟨rfl, hb2⟩; have HB2 : Hid (Below w.heap.size w w2) := HB1.out.trans (hb2.mono HB1.out.size); obtain ⟨⟨c0, c1, c2, c3, c4, c5, c6, c7⟩, _⟩ := (CB.below HC1.out hb2).eight; have HC2 := Lib.hid (CB.below HC1.out hb2); clear hb2) | (go_at_call 8; refine (HP.out _ HB2.out).mono ?_; rintro e w3 ⟨rfl, hb3, h8⟩; have HB3 : Hid (Below w.heap.size w w3) := HB2.out.trans (hb3.mono HB2.out.size); obtain ⟨⟨y0, y1, y2, y3, y4, y5, y6, y7⟩, _⟩ := (CB.below HC2.out hb3).eight; have HC3 := Lib.hid (CB.below HC2.out hb3); have H8 := Lib.hid h8; clear hb3 h8) | (go_at_call 11; refine (p_parse_ok (strN S) T _ (HG.out.below HB3.out) (Nat.le_trans hw HB3.out.size) (HBK.out (by trivial) H8.out).1 (HBK.out (by trivial) H8.out).2).mono ?_; rintro e w4 ⟨hb4, uk, uS, um, un, ua, uc, ud, us, hN4, hpt4, rfl⟩; have HB4 : Hid (Below w.heap.size w (w4.alloc (.cells #[.int .i64 uk, .int .u64 (uS.a : Nat), .int .u64 (uS.b : Nat), .int .u64 (uS.c : Nat), .int .u64 (uS.d : Nat), .int .i64 um, .int .i64 un, .slice ua uc ud] 27))) := (HB3.out.trans (hb4.mono HB3.out.size)).alloc (HB3.out.trans (hb4.mono HB3.out.size)).size _; obtain ⟨⟨z0, z1, z2, z3, z4, z5, z6, z7⟩, _⟩ := (CB.alloc (CB.below HC3.out hb4) (.cells #[.int .i64 uk, .int .u64 (uS.a : Nat), .int .u64 (uS.b : Nat), .int .u64 (uS.c : Nat), .int .u64 (uS.d : Nat), .int .i64 um, .int .i64 un, .slice ua uc ud] 27)).eight; have HL4 : Hid ((NT.mk uk uS um un (.slice ua uc ud) us).Lies (w4.alloc (.cells #[.int .i64 uk, .int .u64 (uS.a : Nat), .int .u64 (uS.b : Nat), .int .u64 (uS.c : Nat), .int .u64 (uS.d : Nat), .int .i64 um, .int .i64 un, .slice ua uc ud] 27))) := (NT.Own.lies _ hN4.own).below ((Below.refl _ _).alloc (Nat.le_refl _) _); have HPT4 := Lib.hid hpt4; have hsz : (strN S).size ≤ 1024 := (by rw [← bsN_len]; exact (HBK.out (by trivial) H8.out).1); clear hb4 hN4 hpt4) | (go_at_call 12; refine (HSM.out _ _ HPT4.out hN2 HB4.out HL4.out).mono ?_; rintro e w5 ⟨rfl, hb5⟩; have HB5 : Hid (Below w.heap.size w w5) := HB4.out.trans (hb5.mono HB4.out.size); clear hb5) | (go_at_call 10; refine (HWORKS.out _ HB5.out).mono ?_; rintro e w6 ⟨rfl, hb6⟩; have HB6 : Hid (Below w.heap.size w w6) := HB5.out.trans (hb6.mono HB5.out.size); clear hb6))
      go_ret
      exact ⟨rfl, HB6.out⟩
    · have hs0 : (strN []).toList = [] := by rw [ByteArray.toList_eq]; rfl
      go_enter Tryd.func3, Tryd.ntmps3
      go_wp2_with (first | (go_at_call 7; refine (HM.out _ HB1.out).mono ?_; rintro e w2 ⟨rfl, hb2⟩; have HB2 : Hid (Below w.heap.size w w2) := HB1.out.trans (hb2.mono HB1.out.size); obtain ⟨⟨c0, c1, c2, c3, c4, c5, c6, c7⟩, _⟩ := (CB.below HC1.out hb2).eight; have HC2 := Lib.hid (CB.below HC1.out hb2); clear hb2) | (go_at_call 8; refine (HP.out _ HB2.out).mono ?_; rintro e w3 ⟨rfl, hb3, h8⟩; have HB3 : Hid (Below w.heap.size w w3) := HB2.out.trans (hb3.mono HB2.out.size); obtain ⟨⟨y0, y1, y2, y3, y4, y5, y6, y7⟩, _⟩ := (CB.below HC2.out hb3).eight; have HC3 := Lib.hid (CB.below HC2.out hb3); have H8 := Lib.hid h8; clear hb3 h8) | (go_at_call 10; refine (HWORKS.out _ HB3.out).mono ?_; rintro e w6 ⟨rfl, hb6⟩; have HB6 : Hid (Below w.heap.size w w6) := HB3.out.trans (hb6.mono HB3.out.size); clear hb6))
      go_ret
      exact ⟨rfl, HB6.out⟩
    · have hs0 : (strN []).toList = [] := by rw [ByteArray.toList_eq]; rfl
      go_enter Tryd.func3, Tryd.ntmps3
      go_wp2_with (first | (go_at_call 7; refine (HM.out _ HB1.out).mono ?_; rintro e w2 ⟨rfl, hb2⟩; have HB2 : Hid (Below w.heap.size w w2) := HB1.out.trans (hb2.mono HB1.out.size); obtain ⟨⟨c0, c1, c2, c3, c4, c5, c6, c7⟩, _⟩ := (CB.below HC1.out hb2).eight; have HC2 := Lib.hid (CB.below HC1.out hb2); clear hb2) | (go_at_call 8; refine (HP.out _ HB2.out).mono ?_; rintro e w3 ⟨rfl, hb3, h8⟩; have HB3 : Hid (Below w.heap.size w w3) := HB2.out.trans (hb3.mono HB2.out.size); obtain ⟨⟨y0, y1, y2, y3, y4, y5, y6, y7⟩, _⟩ := (CB.below HC2.out hb3).eight; have HC3 := Lib.hid (CB.below HC2.out hb3); have H8 := Lib.hid h8; clear hb3 h8) | (go_at_call 9; refine (HCK.out _ HB3.out).mono ?_; rintro e w5 ⟨rfl, hb5⟩; have HB5 : Hid (Below w.heap.size w w5) := HB3.out.trans (hb5.mono HB3.out.size); clear hb5) | (go_at_call 10; refine (HWORKS.out _ HB5.out).mono ?_; rintro e w6 ⟨rfl, hb6⟩; have HB6 : Hid (Below w.heap.size w w6) := HB5.out.trans (hb6.mono HB5.out.size); clear hb6))
      go_ret
      exact ⟨rfl, HB6.out⟩
end Go.Proofs.YtckgbcgmladcfaaDoor
