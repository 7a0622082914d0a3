import Derived.Test.YtckgbcgmladcfaaDoorPuV
import Derived.Test.YtckgbcgmladcfaaDoorPuQ
import Derived.Test.YtckgbcgmladcfaaDoorPuZ
namespace Go.Proofs.YtckgbcgmladcfaaDoor
open Go.RowKit

/-! What is read may be, and is printed and read again. -/
theorem p_Print_of (t : NT) (T : PT) (w : World) {X : List Nat} {E : Int} (hpt : t.pt = T) (hn : t.num) (hl : t.Lies w) (hT : Tb w) (hS : prnS T = X) (hE : prnE T = E) : Calls Tryd.prog 8 #[t.val] w fun e w' => e = .returned (.tuple #[.string (strN X), .int .i64 E]) ∧ Below w.heap.size w w' ∧ B8 X := by
  subst hpt hS hE
  exact p_Print t w hn hl hT
theorem p_Check_of (t : NT) (T : PT) (w : World) {E : Int} (hpt : t.pt = T) (hn : t.num) (hl : t.Lies w) (hE : chk T = E) : Calls Tryd.prog 9 #[t.val] w fun e w' => e = .returned (.int .i64 E) ∧ Below w.heap.size w w' := by
  subst hpt hE
  exact p_Check t w hn hl
theorem p_parse_err (s : ByteArray) (w : World) (hg : Gl w) (hw : 0 + 2 ≤ w.heap.size) (hs : s.size ≤ 4096) (h : ¬ ∃ T, ParseR (bsN s) (.ok T)) :
    Calls Tryd.prog 11 #[.string s] w fun e w' => Below w.heap.size w w' ∧ ∃ k : Int, k ≠ 0 ∧ e = .returned (.tuple #[nodeVal 0 .zero 0 0 (.slice none 0 0), .int .i64 k]) := by
  refine (p_parse s s.size rfl (by omega) w hg hw).mono ?_
  rintro e w' ⟨hb, ⟨k, S, m, n, a, c, d, ps, hN, hP, rfl⟩ | ⟨k, hk, hP, rfl⟩⟩
  · exact absurd ⟨_, hP⟩ h
  · exact ⟨hb, k, hk, rfl⟩
theorem ParseR.run {l : List Nat} {T : PT} (h : ParseR l (.ok T)) : l.length ≤ 1024 ∧ Run 0 (.pat []) l (.ok T []) := by
  rcases h with ⟨_, h⟩ | ⟨h, f, hr, he⟩
  · cases h
  · refine ⟨h, ?_⟩
    cases f with
    | no e => cases he
    | ok t r =>
      cases r with
      | nil => injection he with he; rw [he]; exact hr
      | cons c u => cases he
set_option maxHeartbeats 2000000 in
set_option maxRecDepth 100000 in
theorem p_PatternOnce (s : ByteArray) (w : World) (hsz : s.size ≤ 9223372036854775807) (hg : Gl w) (hT : Tb w) (hw : 0 + 2 ≤ w.heap.size) : Calls Tryd.prog 4 #[.string s] w fun e w' => e = .returned (.bool true) ∧ Below w.heap.size w w' := by
  have hworks := fun W (hW : Below w.heap.size w W) => p_works W (hg.below hW) (hT.below hW) (Nat.le_trans hw hW.size)
  have HWORKS := Lib.hid hworks
  have HG := Lib.hid hg
  have HT := Lib.hid hT
  clear hworks hg hT
  by_cases hbig : 4096 < s.size
  · have hbi : (4096 : Int) < (s.size : Int) := by omega
    go_enter Tryd.func4, Tryd.ntmps4
    go_wp2
    go_ret
    exact ⟨rfl, Below.refl _ _⟩
  · have hbi : ¬ (4096 : Int) < (s.size : Int) := by omega
    by_cases hT : ∃ T, ParseR (bsN s) (.ok T)
    · obtain ⟨T, hP⟩ := hT
      obtain ⟨hlen, hrun⟩ := hP.run
      obtain ⟨hmay, hsets, hnod⟩ := hrun.small hlen
      have hchk : chk T = 0 := by unfold chk; rw [if_neg (by omega), hmay]; rfl
      have hE : prnE T = 0 ∨ prnE T = 3 := by unfold prnE; rw [hchk, if_pos rfl]; split <;> simp
      have hX : prnE T = 0 → (prnS T).length ≤ 1024 ∧ Run 0 (.pat []) (prnS T) (.ok T []) := by
        intro h0
        unfold prnE at h0
        unfold prnS
        rw [hchk, if_pos rfl] at h0
        by_cases h1 : (prt T).length ≤ 1024 ∧ dep T ≤ 64
        · rw [if_pos ⟨hchk, h1⟩]
          exact ⟨h1.1, back_any hmay hsets h1.2⟩
        · rw [if_neg h1] at h0
          cases h0
      obtain ⟨X, hXX⟩ : ∃ X, prnS T = X := ⟨_, rfl⟩
      rw [hXX] at hX
      have HLEN := Lib.hid hlen
      have HRUN := Lib.hid hrun
      have HMAY := Lib.hid hmay
      have HSETS := Lib.hid hsets
      have HCHK := Lib.hid hchk
      have HX := Lib.hid hXX
      have HNOD : Hid (nodes T ≤ 1099511627776) := by show nodes T ≤ 1099511627776; omega
      clear hlen hrun hmay hsets hnod hchk hXX hP
      rcases hE with hE | hE
      · have HE := Lib.hid hE
        have HBACK := Lib.hid (hX hE)
        have hself : ((strN X).toList == (strN X).toList) = true := by simp
        clear hE hX
        go_enter Tryd.func4, Tryd.ntmps4
        go_wp2_with (first | (go_at_call 10; refine (HWORKS.out _ HB6.out).mono ?_; rintro e w7 ⟨rfl, hb7⟩; have HB7 : Hid (Below w.heap.size w w7) := HB6.out.trans (hb7.mono HB6.out.size); clear hb7) | (go_at_call 12; refine (p_same (NT.mk k2 S2 m2 n2 (.slice a2 c2 d2) ps2) (NT.mk k S m n (.slice a c d) ps) _ (HPT2.out.trans HPT1.out.symm) (by rw [HPT2.out]; exact HNOD.out) HM5.out HL5.out).mono ?_; rintro e w6 ⟨rfl, hb6⟩; have HB6 : Hid (Below w.heap.size w w6) := HB5.out.trans (hb6.mono HB5.out.size); clear hb6) | (go_at_call 8; refine (p_Print_of (NT.mk k2 S2 m2 n2 (.slice a2 c2 d2) ps2) T _ HPT2.out HNUM2.out HM4.out (HT.out.below HB4.out) HX.out HE.out).mono ?_; rintro e w5 ⟨rfl, hb5, -⟩; have HB5 : Hid (Below w.heap.size w w5) := HB4.out.trans (hb5.mono HB4.out.size); obtain ⟨⟨u0, u1, u2, u3, u4, u5, u6, u7⟩, _⟩ := (CB.below HC4.out hb5).eight; obtain ⟨⟨v0, v1, v2, v3, v4, v5, v6, v7⟩, _⟩ := (CB.below HD4.out hb5).eight; have HL5 : Hid ((NT.mk k S m n (.slice a c d) ps).Lies w5) := HL4.out.below hb5; have HM5 : Hid ((NT.mk k2 S2 m2 n2 (.slice a2 c2 d2) ps2).Lies w5) := HM4.out.below hb5; clear hb5) | (go_at_call 11; refine (p_parse_ok (strN X) T _ (HG.out.below HB3.out) (Nat.le_trans hw HB3.out.size) (by rw [bsN_strN H8.out]; exact HBACK.out.1) (by rw [bsN_strN H8.out]; exact HBACK.out.2)).mono ?_; rintro e w4 ⟨hb4, k2, S2, m2, n2, a2, c2, d2, ps2, hN4, hpt4, rfl⟩; have HB4 : Hid (Below w.heap.size w (w4.alloc (.cells #[.int .i64 k2, .int .u64 (S2.a : Nat), .int .u64 (S2.b : Nat), .int .u64 (S2.c : Nat), .int .u64 (S2.d : Nat), .int .i64 m2, .int .i64 n2, .slice a2 c2 d2] 27))) := (HB3.out.trans (hb4.mono HB3.out.size)).alloc (HB3.out.trans (hb4.mono HB3.out.size)).size _; have HC4 := Lib.hid (CB.alloc (CB.below HC3.out hb4) (.cells #[.int .i64 k2, .int .u64 (S2.a : Nat), .int .u64 (S2.b : Nat), .int .u64 (S2.c : Nat), .int .u64 (S2.d : Nat), .int .i64 m2, .int .i64 n2, .slice a2 c2 d2] 27)); have HD4 : Hid (CB (w4.alloc (.cells #[.int .i64 k2, .int .u64 (S2.a : Nat), .int .u64 (S2.b : Nat), .int .u64 (S2.c : Nat), .int .u64 (S2.d : Nat), .int .i64 m2, .int .i64 n2, .slice a2 c2 d2] 27)) 27 w4.heap.size [.int .i64 k2, .int .u64 (S2.a : Nat), .int .u64 (S2.b : Nat), .int .u64 (S2.c : Nat), .int .u64 (S2.d : Nat), .int .i64 m2, .int .i64 n2, .slice a2 c2 d2]) := CB.new w4 _ _; have HL4 : Hid ((NT.mk k S m n (.slice a c d) ps).Lies (w4.alloc (.cells #[.int .i64 k2, .int .u64 (S2.a : Nat), .int .u64 (S2.b : Nat), .int .u64 (S2.c : Nat), .int .u64 (S2.d : Nat), .int .i64 m2, .int .i64 n2, .slice a2 c2 d2] 27))) := (HL3.out.below hb4).below ((Below.refl _ _).alloc (Nat.le_refl _) _); have HM4 : Hid ((NT.mk k2 S2 m2 n2 (.slice a2 c2 d2) ps2).Lies (w4.alloc (.cells #[.int .i64 k2, .int .u64 (S2.a : Nat), .int .u64 (S2.b : Nat), .int .u64 (S2.c : Nat), .int .u64 (S2.d : Nat), .int .i64 m2, .int .i64 n2, .slice a2 c2 d2] 27))) := (NT.Own.lies _ hN4.own).below ((Below.refl _ _).alloc (Nat.le_refl _) _); have HPT2 := Lib.hid hpt4; have HNUM2 : Hid (NT.num (NT.mk k2 S2 m2 n2 (.slice a2 c2 d2) ps2)) := NT.num_of _ (by rw [hpt4]; exact HMAY.out) (by rw [hpt4]; exact HSETS.out); obtain ⟨⟨x0, x1, x2, x3, x4, x5, x6, x7⟩, _⟩ := HD4.out.eight; clear hb4 hN4 hpt4) | (go_at_call 9; refine (p_Check_of (NT.mk k S m n (.slice a c d) ps) T _ HPT1.out HNUM1.out HL2.out HCHK.out).mono ?_; rintro e w3 ⟨rfl, hb3⟩; have HB3 : Hid (Below w.heap.size w w3) := HB2.out.trans (hb3.mono HB2.out.size); have HC3 := Lib.hid (CB.below HC2.out hb3); have HL3 : Hid ((NT.mk k S m n (.slice a c d) ps).Lies w3) := HL2.out.below hb3; clear hb3) | (go_at_call 8; refine (p_Print_of (NT.mk k S m n (.slice a c d) ps) T _ HPT1.out HNUM1.out HL1.out (HT.out.below HB1.out) HX.out HE.out).mono ?_; rintro e w2 ⟨rfl, hb2, h8⟩; have HB2 : Hid (Below w.heap.size w w2) := HB1.out.trans (hb2.mono HB1.out.size); have HC2 := Lib.hid (CB.below HC1.out hb2); have HL2 : Hid ((NT.mk k S m n (.slice a c d) ps).Lies w2) := HL1.out.below hb2; have H8 := Lib.hid h8; obtain ⟨⟨y0, y1, y2, y3, y4, y5, y6, y7⟩, _⟩ := HC2.out.eight; clear hb2 h8) | (go_at_call 11; refine (p_parse_ok s T _ HG.out hw HLEN.out HRUN.out).mono ?_; rintro e w1 ⟨hb1, k, S, m, n, a, c, d, ps, hN1, hpt1, rfl⟩; have HB1 : Hid (Below w.heap.size w (w1.alloc (.cells #[.int .i64 k, .int .u64 (S.a : Nat), .int .u64 (S.b : Nat), .int .u64 (S.c : Nat), .int .u64 (S.d : Nat), .int .i64 m, .int .i64 n, .slice a c d] 27))) := hb1.alloc hb1.size _; have HC1 : Hid (CB (w1.alloc (.cells #[.int .i64 k, .int .u64 (S.a : Nat), .int .u64 (S.b : Nat), .int .u64 (S.c : Nat), .int .u64 (S.d : Nat), .int .i64 m, .int .i64 n, .slice a c d] 27)) 27 w1.heap.size [.int .i64 k, .int .u64 (S.a : Nat), .int .u64 (S.b : Nat), .int .u64 (S.c : Nat), .int .u64 (S.d : Nat), .int .i64 m, .int .i64 n, .slice a c d]) := CB.new w1 _ _; have HL1 : Hid ((NT.mk k S m n (.slice a c d) ps).Lies (w1.alloc (.cells #[.int .i64 k, .int .u64 (S.a : Nat), .int .u64 (S.b : Nat), .int .u64 (S.c : Nat), .int .u64 (S.d : Nat), .int .i64 m, .int .i64 n, .slice a c d] 27))) := (NT.Own.lies _ hN1.own).below ((Below.refl _ _).alloc (Nat.le_refl _) _); have HPT1 := Lib.hid hpt1; have HNUM1 : Hid (NT.num (NT.mk k S m n (.slice a c d) ps)) := NT.num_of _ (by rw [hpt1]; exact HMAY.out) (by rw [hpt1]; exact HSETS.out); obtain ⟨⟨z0, z1, z2, z3, z4, z5, z6, z7⟩, _⟩ := HC1.out.eight; clear hb1 hN1 hpt1))
        go_ret
        exact ⟨rfl, HB7.out⟩
      · have HE := Lib.hid hE
        clear hE hX
        go_enter Tryd.func4, Tryd.ntmps4
        go_wp2_with (first | (go_at_call 10; refine (HWORKS.out _ HB3.out).mono ?_; rintro e w7 ⟨rfl, hb7⟩; have HB7 : Hid (Below w.heap.size w w7) := HB3.out.trans (hb7.mono HB3.out.size); clear hb7) | (go_at_call 9; refine (p_Check_of (NT.mk k S m n (.slice a c d) ps) T _ HPT1.out HNUM1.out HL2.out HCHK.out).mono ?_; rintro e w3 ⟨rfl, hb3⟩; have HB3 : Hid (Below w.heap.size w w3) := HB2.out.trans (hb3.mono HB2.out.size); have HC3 := Lib.hid (CB.below HC2.out hb3); have HL3 : Hid ((NT.mk k S m n (.slice a c d) ps).Lies w3) := HL2.out.below hb3; clear hb3) | (go_at_call 8; refine (p_Print_of (NT.mk k S m n (.slice a c d) ps) T _ HPT1.out HNUM1.out HL1.out (HT.out.below HB1.out) HX.out HE.out).mono ?_; rintro e w2 ⟨rfl, hb2, h8⟩; have HB2 : Hid (Below w.heap.size w w2) := HB1.out.trans (hb2.mono HB1.out.size); have HC2 := Lib.hid (CB.below HC1.out hb2); have HL2 : Hid ((NT.mk k S m n (.slice a c d) ps).Lies w2) := HL1.out.below hb2; have H8 := Lib.hid h8; obtain ⟨⟨y0, y1, y2, y3, y4, y5, y6, y7⟩, _⟩ := HC2.out.eight; clear hb2 h8) | (go_at_call 11; refine (p_parse_ok s T _ HG.out hw HLEN.out HRUN.out).mono ?_; rintro e w1 ⟨hb1, k, S, m, n, a, c, d, ps, hN1, hpt1, rfl⟩; have HB1 : Hid (Below w.heap.size w (w1.alloc (.cells #[.int .i64 k, .int .u64 (S.a : Nat), .int .u64 (S.b : Nat), .int .u64 (S.c : Nat), .int .u64 (S.d : Nat), .int .i64 m, .int .i64 n, .slice a c d] 27))) := hb1.alloc hb1.size _; have HC1 : Hid (CB (w1.alloc (.cells #[.int .i64 k, .int .u64 (S.a : Nat), .int .u64 (S.b : Nat), .int .u64 (S.c : Nat), .int .u64 (S.d : Nat), .int .i64 m, .int .i64 n, .slice a c d] 27)) 27 w1.heap.size [.int .i64 k, .int .u64 (S.a : Nat), .int .u64 (S.b : Nat), .int .u64 (S.c : Nat), .int .u64 (S.d : Nat), .int .i64 m, .int .i64 n, .slice a c d]) := CB.new w1 _ _; have HL1 : Hid ((NT.mk k S m n (.slice a c d) ps).Lies (w1.alloc (.cells #[.int .i64 k, .int .u64 (S.a : Nat), .int .u64 (S.b : Nat), .int .u64 (S.c : Nat), .int .u64 (S.d : Nat), .int .i64 m, .int .i64 n, .slice a c d] 27))) := (NT.Own.lies _ hN1.own).below ((Below.refl _ _).alloc (Nat.le_refl _) _); have HPT1 := Lib.hid hpt1; have HNUM1 : Hid (NT.num (NT.mk k S m n (.slice a c d) ps)) := NT.num_of _ (by rw [hpt1]; exact HMAY.out) (by rw [hpt1]; exact HSETS.out); obtain ⟨⟨z0, z1, z2, z3, z4, z5, z6, z7⟩, _⟩ := HC1.out.eight; clear hb1 hN1 hpt1))
        go_ret
        exact ⟨rfl, HB7.out⟩
    · have HNO := Lib.hid hT
      clear hT
      have hle : s.size ≤ 4096 := by omega
      go_enter Tryd.func4, Tryd.ntmps4
      go_wp2_with (first | (go_at_call 10; refine (HWORKS.out _ HB2.out).mono ?_; rintro e w7 ⟨rfl, hb7⟩; have HB7 : Hid (Below w.heap.size w w7) := HB2.out.trans (hb7.mono HB2.out.size); clear hb7) | (go_at_call 12; refine (p_same (leafN 0 .zero) (leafN 0 .zero) _ rfl (by rw [leafN_pt, nodes, nodesL]; decide) (NT.Own.lies _ (leafN_own 0 .zero _ 0)) (NT.Own.lies _ (leafN_own 0 .zero _ 0))).mono ?_; rintro e w2 ⟨rfl, hb2⟩; have HB2 : Hid (Below w.heap.size w w2) := HB1.out.trans (hb2.mono HB1.out.size); clear hb2) | (go_at_call 11; refine (p_parse_err s _ HG.out hw hle HNO.out).mono ?_; rintro e w1 ⟨hb1, k, hk, rfl⟩; have HB1 : Hid (Below w.heap.size w (w1.alloc (.cells #[.int .i64 0, .int .u64 (S4.zero.a : Nat), .int .u64 (S4.zero.b : Nat), .int .u64 (S4.zero.c : Nat), .int .u64 (S4.zero.d : Nat), .int .i64 0, .int .i64 0, .slice none 0 0] 27))) := hb1.alloc hb1.size _; obtain ⟨⟨z0, z1, z2, z3, z4, z5, z6, z7⟩, _⟩ := (CB.new w1 27 [.int .i64 0, .int .u64 (S4.zero.a : Nat), .int .u64 (S4.zero.b : Nat), .int .u64 (S4.zero.c : Nat), .int .u64 (S4.zero.d : Nat), .int .i64 0, .int .i64 0, .slice none 0 0]).eight; clear hb1))
      go_ret
      exact ⟨rfl, HB7.out⟩
end Go.Proofs.YtckgbcgmladcfaaDoor
