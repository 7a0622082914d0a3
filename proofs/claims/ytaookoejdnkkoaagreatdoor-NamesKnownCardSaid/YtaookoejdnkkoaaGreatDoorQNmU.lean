import Derived.Test.YtaookoejdnkkoaaGreatDoorQ18
import Derived.Test.YtaookoejdnkkoaaGreatDoorQ22
import Derived.Test.YtaookoejdnkkoaaGreatDoorQ21
namespace Go.Proofs.YtaookoejdnkkoaaGreatDoor
open Go.RowKit

/-! The reference's words: who is meant. -/
def EnS (en : List Nat) (S : ByteArray) : Prop := (en = hexW ∧ S = hexS) ∨ (en = b64W ∧ S = b64S)
theorem r9read_any {en : List Nat} {S : ByteArray} (h : EnS en S) (s : ByteArray) (n : Nat) (w : World) (hn : s.size = n) (hbig : n ≤ 1099511627776) :
    Calls Tryz.prog 41 #[.string S, .string s] w (RdP en (bsN s) w) := by
  rcases h with ⟨rfl, rfl⟩ | ⟨rfl, rfl⟩
  · exact r9read_hex s n w hn hbig
  · exact r9read_64 s n w hn hbig
theorem NamedT.cases {l : List Nat} {e : Ending} (h : NamedT l e) :
    (∃ f a en S d, NamF l f a en d ∧ EnS en S ∧ plainL a ∧ e = .returned (.tuple #[.string (strN a), .string S, .string (strN d), .bool true])) ∨ ((∀ f a en d, NamF l f a en d → ¬ plainL a) ∧ e = .returned (.tuple #[.string ⟨#[]⟩, .string ⟨#[]⟩, .string ⟨#[]⟩, .bool false])) := by
  rcases h with ⟨f, a, d, h1, h2, h3⟩ | ⟨f, a, d, h1, h2, h3⟩ | h
  · exact .inl ⟨f, a, _, _, d, h1, .inl ⟨rfl, rfl⟩, h2, h3⟩
  · exact .inl ⟨f, a, _, _, d, h1, .inr ⟨rfl, rfl⟩, h2, h3⟩
  · exact .inr h
set_option maxHeartbeats 4000000 in
set_option maxRecDepth 100000 in
theorem r9of (s : ByteArray) (n : Nat) (w : World) (hn : s.size = n) (hbig : n ≤ 1099511627776) :
    Calls Tryz.prog 12 #[.string s] w (PriP (OfTells (bsN s)) w) := by
  have hl : (bsN s).length = n := by rw [bsN_len, hn]
  have h8 := bsN_8 s
  obtain ⟨W0, hW0⟩ : ∃ W0, W0 = w.alloc (.cells pri0.toArray 27) := ⟨_, rfl⟩
  have hb0 : Below w.heap.size w W0 := by rw [hW0]; exact (Below.refl _ _).alloc (Nat.le_refl _) _
  have hz0 : CB W0 27 w.heap.size pri0 := by rw [hW0]; exact CB.new w _ _
  have HZ := Lib.hid hz0
  have HW := Lib.hid hb0
  have HWW := Lib.hid hW0
  have HL := Lib.hid hl
  have H8 := Lib.hid h8
  have hzl : w.heap.size < W0.heap.size := hz0.lt
  clear hl h8 hz0 hb0 hW0
  by_cases hlim : 65536 < n
  · have hq : decide ((65536 : Int) < (n : Int)) = true := decide_eq_true (by omega)
    go_enter Tryz.func12, Tryz.ntmps12
    go_wp2
    rw [← HWW.out]
    refine bodyPost_ret (results_cbT rfl rfl rfl HZ.out Tryz.underlying27 infoPri) rfl ?_
    exact PriP.none (s := ⟨#[]⟩) HW.out (by decide) (.inl ⟨by rw [HL.out]; exact hlim, rfl, rfl, rfl, rfl, rfl⟩)
  · have hq : decide ((65536 : Int) < (n : Int)) = false := decide_eq_false (by omega)
    have HLIM : Hid ((bsN s).length ≤ 65536) := by show _ ≤ _; rw [HL.out]; omega
    have hn70 : s.size ≤ 70000 := by omega
    clear hlim
    by_cases hp : bsN s = polW
    · have y1 : (s.toList == [80, 79, 76, 73, 67, 89]) = true := by rw [beq_lit, hp]; decide
      have HP := Lib.hid hp
      have HC0 : Hid (CB (w.alloc (.cells #[.int .i64 3, .string s, .slice none 0 0, .slice none 0 0] 27)) 27 w.heap.size [.int .i64 3, .string s, .slice none 0 0, .slice none 0 0]) := CB.new w _ _
      clear hp
      go_enter Tryz.func12, Tryz.ntmps12
      go_wp2
      refine bodyPost_ret (results_cbT rfl rfl rfl HC0.out Tryz.underlying27 infoPri) rfl ?_
      exact PriP.none (s := s) ((Below.refl _ _).alloc (Nat.le_refl _) _) hn70 (.inr (.inl ⟨HLIM.out, HP.out, rfl, rfl, rfl, rfl, rfl⟩))
    · have y1 : (s.toList == [80, 79, 76, 73, 67, 89]) = false := by rw [beq_lit]; exact decide_eq_false hp
      have HP := Lib.hid hp
      clear hp
      go_enter Tryz.func12, Tryz.ntmps12
      go_wp2_with fail
      rw [← HWW.out]
      clear HWW
      refine (r9named s n _ hn hbig).mono ?_
      rintro e w1 ⟨hnt, hb1⟩
      rcases hnt.cases with ⟨f, a, en, S, d, hnam, hS, hpl, rfl⟩ | ⟨hno, rfl⟩
      · obtain ⟨h8f, h8a, h8e, h8d⟩ := nam_b8 H8.out hnam
        obtain ⟨hlen, hla⟩ := nam_lens hnam
        have hn' := HL.out
        rw [hn'] at hlen hla
        have hDs : (strN d).size = d.length := strN_size d
        have HDB : Hid (bsN (strN d) = d) := bsN_strN h8d
        have HAB : Hid (bsN (strN a) = a) := bsN_strN h8a
        obtain ⟨A, hA⟩ : ∃ A, A = strN a := ⟨_, rfl⟩
        obtain ⟨D, hD⟩ : ∃ D, D = strN d := ⟨_, rfl⟩
        obtain ⟨m, hm⟩ : ∃ m, m = d.length := ⟨_, rfl⟩
        rw [← hA] at HAB
        rw [← hD] at hDs HDB
        rw [← hA, ← hD]
        rw [← hm] at hDs hlen
        have HNAM := Lib.hid hnam
        have HMD := Lib.hid hm
        have HS := Lib.hid hS
        have HPL := Lib.hid hpl
        have HZ := Lib.hid (HZ.out.below hb1)
        have HW := Lib.hid (HW.out.trans (hb1.mono HW.out.size))
        have hzl1 : w.heap.size < w1.heap.size := HZ.out.lt
        clear hnt hb1 h8f h8a h8e h8d hA hD hm hnam hn' hla hS hpl
        by_cases ha : a = rsaW
        · have y2 : (A.toList == [114, 115, 97]) = true := by rw [beq_lit, HAB.out, ha]; decide
          have HA := Lib.hid ha
          clear ha
          go_wp2_with fail
          refine (r9read_any HS.out D m _ hDs (by omega)).mono ?_
          rw [HDB.out]
          rintro e w2 ⟨hb2, a1, c1, k1, b, rfl, -, ht, h4, h5, h6, h7, h8⟩
          have HZ := Lib.hid (HZ.out.below hb2)
          have HW := Lib.hid (HW.out.trans (hb2.mono HW.out.size))
          have HT := Lib.hid ht
          have H6 := Lib.hid h6
          have hbm : b.length ≤ m := by have := HMD.out; omega
          obtain ⟨nb, hnb⟩ : ∃ n, n = b.length := ⟨_, rfl⟩
          have HNB := Lib.hid hnb
          have hzl2 : w.heap.size < w2.heap.size := HZ.out.lt
          rw [← hnb] at h5 hbm ⊢
          clear hb2 ht h4 h6 h7 hnb
          by_cases hk1 : k1 = 0
          · subst hk1
            rw [if_pos rfl] at HT
            go_wp2_with fail
            refine (rdecode_any a1 nb c1 b _ HNB.out.symm (by omega) h5 HT.out.b8 H6.out).mono ?_
            rintro e w3 ⟨hb3, a2, c2, N, a3, c3, E, k2, rfl, hsp, hn1, hn2, hK⟩
            have HZ := Lib.hid (HZ.out.below hb3)
            have HW := Lib.hid (HW.out.trans (hb3.mono HW.out.size))
            have HSP := Lib.hid hsp
            have HK := Lib.hid hK
            have hzl3 : w.heap.size < w3.heap.size := HZ.out.lt
            obtain ⟨⟨z0, z1, z2, z3⟩, f0, f1, f2, f3⟩ := HZ.out.four
            obtain ⟨nN, hnN⟩ : ∃ n, n = N.length := ⟨_, rfl⟩
            obtain ⟨nE, hnE⟩ : ∃ n, n = E.length := ⟨_, rfl⟩
            rw [← hnN] at HSP hn1
            rw [← hnE] at HSP hn2
            rw [← hnN, ← hnE]
            have HNN := Lib.hid hnN
            have HNE := Lib.hid hnE
            clear hb3 hsp hK hnN hnE
            by_cases hk3 : k2 = 3
            · subst hk3
              have HPP : Hid (OfTells (bsN s) 3 0 [] [] []) := .inr (.inr (.inr (.inr ⟨HLIM.out, f, en, d, by rw [← HA.out]; exact HNAM.out, ⟨0, b, HT.out, .inr ⟨rfl, 3, N, E, HK.out, .inl ⟨by decide, by decide, rfl, rfl⟩⟩⟩, .inl ⟨by decide, rfl, rfl⟩⟩)))
              go_wp2
              first
                | refine bodyPost_ret (results_cbT rfl rfl rfl ((HZ.out.set4 _ _ _ _).alloc _) Tryz.underlying27 infoPri) rfl ?_
                  exact PriP.none (s := ⟨#[]⟩) ((below_set4 HW.out (by omega) _ _ _ _).alloc (by simp; omega) _) (by decide) HPP.out
                | refine bodyPost_ret (results_cbT rfl rfl rfl ((HZ.out.alloc _).set4 _ _ _ _) Tryz.underlying27 infoPri) rfl ?_
                  exact PriP.none (s := ⟨#[]⟩) (below_set4 (HW.out.alloc (by omega) _) (by omega) _ _ _ _) (by decide) HPP.out
            · by_cases hk0 : k2 = 0
              · subst hk0
                have hnum := HK.out.2.1 rfl
                have g1 : Raw w3 (.slice a2 nN c2) (val N) := own_raw (show OwnL w3 w2.heap.size (.slice a2 nN c2) N from HSP.out.1 (rw64 (.slice a2 nN c2) N) (by simp)) hnum.1.bd (by rw [← HNN.out]; omega)
                have g2 : Raw w3 (.slice a3 nE c3) (val E) := own_raw (show OwnL w3 w2.heap.size (.slice a3 nE c3) E from HSP.out.1 (rw64 (.slice a3 nE c3) E) (by simp)) hnum.2.bd (by rw [← HNE.out]; omega)
                have HNU := Lib.hid (And.intro (num_self hnum.1) (num_self hnum.2))
                obtain ⟨W3, hW3⟩ : ∃ W3, W3 = w3.alloc (KO (.slice a2 nN c2) (.slice a3 nE c3)) := ⟨_, rfl⟩
                have hb4 : Below w3.heap.size w3 W3 := by rw [hW3]; exact (Below.refl _ _).alloc (Nat.le_refl _) _
                have HKB : Hid (CB W3 25 w3.heap.size [.slice a2 nN c2, .slice a3 nE c3]) := by show CB _ _ _ _; rw [hW3]; exact CB.new _ _ _
                have HZ := Lib.hid (HZ.out.below hb4)
                have HW := Lib.hid (HW.out.trans (hb4.mono HW.out.size))
                have HSP := Lib.hid (HSP.out.belowS hb4)
                have G2 := Lib.hid (And.intro (g1.below hb4) (g2.below hb4))
                have HWW := Lib.hid hW3
                clear hnum g1 g2 hb4 hW3 z0 z1 z2 z3 f0 f1 f2 f3
                go_wp2_with fail
                rw [← HWW.out]
                clear HWW
                refine (r8check G2.out.1 G2.out.2).mono ?_
                rintro e w4 ⟨hb4, ⟨hok, rfl⟩ | ⟨hok, rfl⟩⟩
                · have HZ := Lib.hid (HZ.out.below hb4)
                  have HW := Lib.hid (HW.out.trans (hb4.mono HW.out.size))
                  have HSP := Lib.hid (HSP.out.belowS hb4)
                  have HKB := Lib.hid (HKB.out.below hb4)
                  have HOK := Lib.hid hok
                  have hzl4 : w.heap.size < w4.heap.size := HZ.out.lt
                  have o1 : own64 w4 w2.heap.size (.slice a2 nN c2) N := by have := HSP.out.1 (rw64 (.slice a2 nN c2) N) (by simp); exact this
                  have o2 : own64 w4 w2.heap.size (.slice a3 nE c3) E := by have := HSP.out.1 (rw64 (.slice a3 nE c3) E) (by simp); exact this
                  have R1 := Lib.hid (own64.rd o1).2
                  have R2 := Lib.hid (own64.rd o2).2
                  obtain ⟨⟨y0, y1'⟩, -⟩ := HKB.out.two
                  clear hb4 hok o1 o2
                  go_wp2_with fail
                  refine (rencode_any a2 nN c2 N a3 nE c3 E _ HNN.out.symm (by omega) R1.out HNU.out.1.bd HNE.out.symm (by omega) R2.out HNU.out.2.bd).mono ?_
                  rintro e w5 ⟨hb5, a4, c4, k5, x, rfl, hown, hen⟩
                  rcases hen with ⟨_, _, rfl, hkb⟩ | ⟨hno, _, _⟩
                  · have hbl := (hkb.len HOK.out.lims.1 HOK.out.lims.2).2
                    have hb8 := hkb.b8
                    have hrd := (own8_rd2x hown).1
                    have HZ := Lib.hid (HZ.out.below hb5)
                    have HKB := Lib.hid (HKB.out.below hb5)
                    have HW := Lib.hid (HW.out.trans (hb5.mono HW.out.size))
                    have HSP := Lib.hid (HSP.out.belowS hb5)
                    have HB8 := Lib.hid hb8
                    have HRD : Hid (Rd .u8 w5.drew a4 x) := hrd
                    have HKY := Lib.hid hkb
                    obtain ⟨nx, hnx⟩ : ∃ n, n = x.length := ⟨_, rfl⟩
                    have HNX := Lib.hid hnx
                    rw [← hnx] at hbl ⊢
                    obtain ⟨X, hX⟩ : ∃ X, X = strN (hexL x) := ⟨_, rfl⟩
                    have hXs : X.size = 2 * nx := by rw [hX, strN_size, hexL_len, HNX.out]
                    have HXE := Lib.hid hX
                    have hzl5 : w.heap.size < w5.heap.size := HZ.out.lt
                    obtain ⟨⟨k0, k1⟩, -⟩ := HKB.out.two
                    have hsum : ¬ (9223372036854775807 < 8 + X.size) := by omega
                    have hsum2 : ¬ (9223372036854775807 < 8 + 2 * nx) := by omega
                    clear hb8 hrd hkb hnx hX hown hb5 y0 y1'
                    go_wp2
                    go_region_with (go_at_call 45; refine (rhex_any a4 nx c4 x _ HNX.out.symm (by omega) HRD.out HB8.out).mono ?_; rintro e w6 ⟨rfl, hb6⟩; rw [← HXE.out]; obtain ⟨⟨z0, z1, z2, z3⟩, f0, f1, f2, f3⟩ := (HZ.out.below (below_drw hb6)).four; obtain ⟨⟨y0, y5⟩, -⟩ := (HKB.out.below (below_drw hb6)).two)
                    all_goals
                      go_wp2
                      refine bodyPost_ret (results_cbT rfl rfl rfl ((HZ.out.below (below_drw hb6)).set4 _ _ _ _) Tryz.underlying27 infoPri) rfl ?_
                      refine ⟨below_set4 (HW.out.trans ((below_drw hb6).mono HW.out.size)) (by omega) _ _ _ _, 2, keyW ++ hexL x, a2, c2, N, a3, c3, E, 0, ?_, ?_, by rw [← HNN.out]; exact hn1, by rw [← HNE.out]; exact hn2, b8_app keyW_8 (hexL_8 HB8.out), ?_, .inr (.inr (.inr (.inr ⟨HLIM.out, f, en, d, by rw [← HA.out]; exact HNAM.out, ⟨0, b, HT.out, .inr ⟨rfl, 0, N, E, HK.out, .inr (.inr ⟨rfl, HOK.out, rfl, rfl, rfl⟩)⟩⟩, .inr ⟨rfl, rfl, x, HKY.out, rfl⟩⟩)))⟩
                      · rw [← HNN.out, ← HNE.out, ← strN_app, ← HXE.out]; rfl
                      · rw [← HNN.out, ← HNE.out]
                        exact ((((HSP.out.belowS (below_drw hb6)).setLow hzl2 _).setLow hzl2 _).setLow hzl2 _ |>.setLow hzl2 _).base (by omega)
                      · have := HNX.out
                        simp [keyW, hexL_len]; omega
                  · exact absurd HOK.out.lims hno
                · have HPP : Hid (OfTells (bsN s) 80 0 [] [] []) := .inr (.inr (.inr (.inr ⟨HLIM.out, f, en, d, by rw [← HA.out]; exact HNAM.out, ⟨0, b, HT.out, .inr ⟨rfl, 0, N, E, HK.out, .inr (.inl ⟨rfl, hok, rfl, rfl, rfl⟩)⟩⟩, .inl ⟨by decide, rfl, rfl⟩⟩)))
                  have HZ := Lib.hid (HZ.out.below hb4)
                  have HW := Lib.hid (HW.out.trans (hb4.mono HW.out.size))
                  obtain ⟨⟨z0, z1, z2, z3⟩, f0, f1, f2, f3⟩ := HZ.out.four
                  clear hb4 hok
                  go_wp2
                  refine bodyPost_ret (results_cbT rfl rfl rfl (HZ.out.set4 _ _ _ _) Tryz.underlying27 infoPri) rfl ?_
                  exact PriP.none (s := ⟨#[]⟩) (below_set4 HW.out (by omega) _ _ _ _) (by decide) HPP.out
              · have HPP : Hid (OfTells (bsN s) 92 0 [] [] []) := .inr (.inr (.inr (.inr ⟨HLIM.out, f, en, d, by rw [← HA.out]; exact HNAM.out, ⟨0, b, HT.out, .inr ⟨rfl, k2, N, E, HK.out, .inl ⟨hk0, (if_neg hk3).symm, rfl, rfl⟩⟩⟩, .inl ⟨by decide, rfl, rfl⟩⟩)))
                have hq3 : (k2 == 3) = false := by simp [hk3]
                have hq0 : (k2 != 0) = true := by simp [hk0]
                clear hk3 hk0
                go_wp2
                first
                  | refine bodyPost_ret (results_cbT rfl rfl rfl ((HZ.out.set4 _ _ _ _).alloc _) Tryz.underlying27 infoPri) rfl ?_
                    exact PriP.none (s := ⟨#[]⟩) ((below_set4 HW.out (by omega) _ _ _ _).alloc (by simp; omega) _) (by decide) HPP.out
                  | refine bodyPost_ret (results_cbT rfl rfl rfl ((HZ.out.alloc _).set4 _ _ _ _) Tryz.underlying27 infoPri) rfl ?_
                    exact PriP.none (s := ⟨#[]⟩) (below_set4 (HW.out.alloc (by omega) _) (by omega) _ _ _ _) (by decide) HPP.out
          · rw [if_neg hk1] at HT
            have hkk : (k1 != 0) = true := by simp [hk1]
            obtain ⟨⟨z0, z1, z2, z3⟩, f0, f1, f2, f3⟩ := HZ.out.four
            clear hk1
            go_wp2
            refine bodyPost_ret (results_cbT rfl rfl rfl (HZ.out.set4 _ _ _ _) Tryz.underlying27 infoPri) rfl ?_
            exact PriP.none (s := ⟨#[]⟩) (below_set4 HW.out (by omega) _ _ _ _) (by decide) (.inr (.inr (.inr (.inr ⟨HLIM.out, f, en, d, by rw [← HA.out]; exact HNAM.out, ⟨91, b, HT.out, .inl ⟨by decide, rfl, rfl, rfl⟩⟩, .inl ⟨by decide, rfl, rfl⟩⟩))))
        · have y2 : (A.toList == [114, 115, 97]) = false := by rw [beq_lit, HAB.out]; exact decide_eq_false ha
          have HA := Lib.hid ha
          obtain ⟨⟨z0, z1, z2, z3⟩, f0, f1, f2, f3⟩ := HZ.out.four
          clear ha
          go_wp2
          refine bodyPost_ret (results_cbT rfl rfl rfl (HZ.out.set4 _ _ _ _) Tryz.underlying27 infoPri) rfl ?_
          exact PriP.none (s := ⟨#[]⟩) (below_set4 HW.out (by omega) _ _ _ _) (by decide) (.inr (.inr (.inr (.inl ⟨HLIM.out, f, a, en, d, HNAM.out, HPL.out, HA.out, rfl, rfl, rfl, rfl, rfl⟩))))
      · have HN := Lib.hid hno
        have HZ := Lib.hid (HZ.out.below hb1)
        have HW := Lib.hid (HW.out.trans (hb1.mono HW.out.size))
        obtain ⟨⟨z0, z1, z2, z3⟩, f0, f1, f2, f3⟩ := HZ.out.four
        clear hno hb1 hnt
        go_wp2
        refine bodyPost_ret (results_cbT rfl rfl rfl (HZ.out.set4 _ _ _ _) Tryz.underlying27 infoPri) rfl ?_
        exact PriP.none (s := s) (below_set4 HW.out (by omega) _ _ _ _) hn70 (.inr (.inr (.inl ⟨HLIM.out, HP.out, HN.out, rfl, rfl, rfl, rfl, rfl⟩)))
end Go.Proofs.YtaookoejdnkkoaaGreatDoor
