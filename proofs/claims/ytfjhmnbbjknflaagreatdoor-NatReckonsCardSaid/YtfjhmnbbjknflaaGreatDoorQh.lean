import Derived.Test.YtfjhmnbbjknflaaGreatDoorQg
namespace Go.Proofs.YtfjhmnbbjknflaaGreatDoor
open Go.RowKit

theorem D32.shape {B : Nat} {w : World} {v : Value} {V : Nat} (h : D32 B w v V) : ∃ a l c, v = .slice a l c ∧ (l = 0 ↔ V = 0) := h.len
theorem d_compare {B : Nat} {w : World} {v u : Value} {V U : Nat} (h1 : D32 B w v V) (h2 : D32 B w u U) :
    Calls Tryz.prog 101 #[v, u] w (CmpPost (cmpI V U) w) := by
  obtain ⟨hB, a, c, hs, rfl, ho, hN, hl⟩ := h1
  obtain ⟨_, b, d, gs, rfl, ho2, hN2, hl2⟩ := h2
  exact rcompare_any a b _ _ c d V U hs gs w rfl rfl (Nat.le_trans hl (by decide)) (Nat.le_trans hl2 (by decide)) (own64.rd ho).2 (own64.rd ho2).2 hN hN2
set_option exponentiation.threshold 100000 in
theorem d_two {w : World} {t : Nat} (ht : t ≤ 25600) :
    Calls Tryz.prog 134 #[.int .i64 (t : Nat)] w fun e w' => ∃ v, e = .returned v ∧ Raw w' v (2 ^ t) ∧ Below w.heap.size w w' := by
  refine (two_any t w (by omega)).mono ?_
  rintro e w' ⟨v, zs, rfl, ho, hb, hv, hl, hbl⟩
  obtain ⟨a, c, rfl, _⟩ := own64.form ho
  exact ⟨_, rfl, ⟨a, c, zs, rfl, (own64.room ho).1, (own64.room ho).2, (own64.rd ho).2, hb, hv, by omega⟩, hbl⟩
set_option exponentiation.threshold 100000 in
theorem pow_small {t X A : Nat} (hA : A < 18446744073709551616 ^ 400) (hX : 0 < X) (h : A = 2 ^ t * X) : t ≤ 25599 := by
  have h1 : 2 ^ t ≤ A := by rw [h]; exact Nat.le_mul_of_pos_right _ hX
  have h2 : 2 ^ t < 2 ^ 25600 := by
    refine Nat.lt_of_le_of_lt h1 (Nat.lt_of_lt_of_eq hA ?_)
    rw [show (18446744073709551616 : Nat) = 2 ^ 64 by decide, ← Nat.pow_mul]
  have := (Nat.pow_lt_pow_iff_right (by decide : 1 < 2)).1 h2
  omega
theorem gcd_sub_r {X Y : Nat} (h : X ≤ Y) : Nat.gcd X (Y - X) = Nat.gcd X Y := by
  conv => rhs; rw [show Y = (Y - X) + X by omega, Nat.gcd_add_self_right]
theorem gcd_half_r {X Y : Nat} (hx : X % 2 = 1) (hy : Y % 2 = 0) : Nat.gcd X (Y / 2) = Nat.gcd X Y := by
  rw [Nat.gcd_comm, gcd_half hy hx, Nat.gcd_comm]
theorem pow_step {t X A : Nat} (h : A = 2 ^ t * X) (hx : X % 2 = 0) : A = 2 ^ (t + 1) * (X / 2) := by
  rw [Nat.pow_succ, Nat.mul_assoc, show 2 * (X / 2) = X by omega]
  exact h
theorem if_neg_or {X Y : Nat} (h : X ≤ Y) : decide ((0 : Int) < if X < Y then -1 else if X = Y then 0 else 1) = false := by
  rcases Nat.lt_or_ge X Y with h1 | h1
  · rw [if_pos h1]; rfl
  · rw [if_neg (by omega), if_pos (by omega)]; rfl
theorem Div0.fin {w w' : World} {v u : Value} {A C G t : Nat} (hE : QEnv w.heap.size w' [(v, G * 2 ^ t), (u, G)]) (hb : Below w.heap.size w w') (h : Nat.gcd A C = 2 ^ t * G) : QPost w.heap.size [] (Nat.gcd A C) w (.returned v) w' := by
  refine ⟨v, rfl, ?_, hb⟩
  rw [h, Nat.mul_comm]
  exact hE.sub (fun p hp => by
    rcases List.mem_cons.1 hp with rfl | hp
    · exact List.mem_cons_self
    · cases hp)
set_option maxHeartbeats 800000 in
set_option maxRecDepth 100000 in
set_option exponentiation.threshold 100000 in
theorem divisor_any {w : World} {va vb : Value} {A C : Nat} (h1 : Raw w va A) (h2 : Raw w vb C) (hA : A < 18446744073709551616 ^ 400) (hC : C < 18446744073709551616 ^ 400) :
    Calls Tryz.prog 99 #[va, vb] w (QPost w.heap.size [] (Nat.gcd A C) w) := by
  have HA := Lib.hid hA
  have HC := Lib.hid hC
  have H1 := Lib.hid h1
  have H2 := Lib.hid h2
  clear hA hC h1 h2
  go_enter Tryz.func99, Tryz.ntmps99
  go_wp2_with fail
  refine (d_halves (B := w.heap.size) (Nat.le_refl _) H1.out HA.out).mono ?_
  rintro e w1 ⟨v5, rfl, hd5, hb1⟩
  have HB1 := Lib.hid hb1
  have HD5 := Lib.hid hd5
  clear hb1 hd5
  go_wp2_with fail
  refine (d_halves (B := w.heap.size) HB1.out.size (Raw.below H2.out HB1.out) HC.out).mono ?_
  rintro e w2 ⟨v6, rfl, hd6, hb2⟩
  have HD : Hid (D32 w.heap.size w2 v5 A ∧ D32 w.heap.size w2 v6 C ∧ Below w.heap.size w w2) := ⟨HD5.out.below hb2, hd6, HB1.out.trans (hb2.mono HB1.out.size)⟩
  clear hd6 hb2 HD5 HB1
  obtain ⟨a5, l5, c5, rfl, h5⟩ := HD.out.1.shape
  obtain ⟨a6, l6, c6, rfl, h6⟩ := HD.out.2.1.shape
  by_cases hl5 : l5 = 0
  · subst hl5
    have hA0 := h5.1 rfl
    have HA0 := Lib.hid hA0
    clear h5 h6 hA0
    go_wp2_with fail
    refine (d_limbs HD.out.2.1 (lims_z HC.out HC.out).1).mono ?_
    rintro e w3 ⟨vz, rfl, hQ, hb⟩
    have HQ := Lib.hid hQ
    have HB := Lib.hid (HD.out.2.2.trans (hb.mono HD.out.2.2.size))
    clear hQ hb
    go_wp2
    go_ret
    exact ⟨vz, rfl, by rw [HA0.out, Nat.gcd_zero_left]; exact HQ.out, HB.out⟩
  by_cases hl6 : l6 = 0
  · subst hl6
    have hC0 := h6.1 rfl
    have HC0 := Lib.hid hC0
    have hq : ((l5 : Int) == 0) = false := by simp; omega
    have hp5 : 0 < l5 := Nat.pos_of_ne_zero hl5
    clear h5 h6 hC0
    go_wp2_with fail
    refine (d_limbs HD.out.1 (lims_z HA.out HA.out).1).mono ?_
    rintro e w3 ⟨vz, rfl, hQ, hb⟩
    have HQ := Lib.hid hQ
    have HB := Lib.hid (HD.out.2.2.trans (hb.mono HD.out.2.2.size))
    clear hQ hb
    go_wp2
    go_ret
    exact ⟨vz, rfl, by rw [HC0.out, Nat.gcd_zero_right]; exact HQ.out, HB.out⟩
  have hAP : 0 < A := Nat.pos_of_ne_zero fun h => hl5 (h5.2 h)
  have hCP : 0 < C := Nat.pos_of_ne_zero fun h => hl6 (h6.2 h)
  have hp5 : 0 < l5 := Nat.pos_of_ne_zero hl5
  have hp6 : 0 < l6 := Nat.pos_of_ne_zero hl6
  have HAP := Lib.hid hAP
  have HCP := Lib.hid hCP
  have hqa : ((l5 : Int) == 0) = false := by simp; omega
  have hqb : ((l6 : Int) == 0) = false := by simp; omega
  clear h5 h6 hl5 hl6 hAP hCP hp5 hp6
  go_wp2
  go_loopg [5, 6, 7] A (fun gk v5 v6 v7 wr => ∃ X Y t : Nat, X ≤ gk ∧ v7 = .int .i64 (t : Nat) ∧ Hid (D32 w.heap.size wr v5 X ∧ D32 w.heap.size wr v6 Y ∧ Below w.heap.size w wr) ∧ Hid (0 < X ∧ 0 < Y ∧ A = 2 ^ t * X ∧ Nat.gcd A C = 2 ^ t * Nat.gcd X Y))
  case atStart => exact ⟨A, C, 0, Nat.le_refl _, rfl, HD.out, HAP.out, HCP.out, by rw [Nat.pow_zero, Nat.one_mul], by rw [Nat.pow_zero, Nat.one_mul]⟩
  case round =>
    clear HD HCP
    obtain ⟨X1, Y2, t, hgk, rfl, HD, HF1⟩ := hrel
    have HGK := Lib.hid hgk
    clear hgk
    obtain ⟨g5, l5, c5, x, rfl, hl5, hc5, hx64, hxp, -⟩ := HD.out.1.pos HF1.out.1
    obtain ⟨g6, l6, c6, y, rfl, hl6, hc6, hy64, hyp, -⟩ := HD.out.2.1.pos HF1.out.2.1
    rcases Nat.mod_two_eq_zero_or_one X1 with hX | hX
    · rw [hX] at hxp
      have t1x : ((x : Nat) : Int) % 2 = 0 := by omega
      have t2x : ((x : Nat) : Int).tmod 2 = 0 := by rw [Int.tmod_eq_emod_of_nonneg (by omega)]; omega
      rcases Nat.mod_two_eq_zero_or_one Y2 with hY | hY
      · rw [hY] at hyp
        have t1y : ((y : Nat) : Int) % 2 = 0 := by omega
        have t2y : ((y : Nat) : Int).tmod 2 = 0 := by rw [Int.tmod_eq_emod_of_nonneg (by omega)]; omega
        have HXP := Lib.hid (And.intro hX hY)
        have htb := pow_small HA.out HF1.out.1 HF1.out.2.2.1
        clear hxp hX hyp hY
        go_wp2_with fail
        refine (d_down HD.out.1).mono ?_
        rintro e wd ⟨vd, rfl, hd, hb⟩
        have HD := Lib.hid (And.intro hd (And.intro (HD.out.2.1.below hb) (HD.out.2.2.trans (hb.mono HD.out.2.2.size))))
        clear hd hb
        go_wp2_with fail
        refine (d_down HD.out.2.1).mono ?_
        rintro e we ⟨ve, rfl, hd, hb⟩
        have HD := Lib.hid (And.intro (HD.out.1.below hb) (And.intro hd (HD.out.2.2.trans (hb.mono HD.out.2.2.size))))
        clear hd hb
        go_wp2
        go_roundg (X1 / 2)
        case rel =>
          obtain ⟨h1, h2⟩ := HXP.out
          obtain ⟨f1, f2, f3, f4⟩ := HF1.out
          exact ⟨X1 / 2, Y2 / 2, t + 1, Nat.le_refl _, by go_num, HD.out, by omega, by omega, pow_step f3 h1, by rw [f4, gcd_two h1 h2, Nat.pow_succ, Nat.mul_assoc]⟩
        case measure =>
          have h2 := HF1.out.1
          have h3 := HGK.out
          omega
      · rw [hY] at hyp
        have t1y : ((y : Nat) : Int) % 2 = 1 := by omega
        have t2y : ((y : Nat) : Int).tmod 2 = 1 := by rw [Int.tmod_eq_emod_of_nonneg (by omega)]; omega
        have HODD : Hid (X1 % 2 = 0 → Y2 % 2 = 1) := fun _ => hY
        clear hxp hX hyp hY
        obtain ⟨v6, hv6⟩ : ∃ v6, v6 = Value.slice (some ⟨g6, 0, none⟩) l6 c6 := ⟨_, rfl⟩
        rw [← hv6] at HD
        go_wp2
        rw [← hv6]
        clear hv6
        obtain ⟨G, hG⟩ : ∃ G, Nat.gcd X1 Y2 = G := ⟨_, rfl⟩
        have HGT : Hid (Nat.gcd A C = 2 ^ t * G ∧ G ≤ A ∧ 0 < A) := by
          have h1 := HF1.out.2.2.2
          rw [hG] at h1
          have h4 : 0 < A := HAP.out
          refine ⟨h1, ?_, h4⟩
          have h2 := Nat.gcd_le_left C h4
          rw [h1] at h2
          exact Nat.le_trans (Nat.le_mul_of_pos_left _ (Nat.two_pow_pos t)) h2
        have HG2 := Lib.hid hG
        clear hG
        have HT : Hid (t ≤ 25600) := Nat.le_succ_of_le (pow_small HA.out HF1.out.1 HF1.out.2.2.1)
        go_loopg [5] X1 (fun gk v5 wr => ∃ X : Nat, X ≤ gk ∧ Hid (D32 w.heap.size wr v5 X ∧ D32 w.heap.size wr v6 Y2 ∧ Below w.heap.size w wr) ∧ Hid (0 < X ∧ (X % 2 = 0 → Y2 % 2 = 1) ∧ Nat.gcd X Y2 = G))
        case atStart => exact ⟨X1, Nat.le_refl _, HD.out, HF1.out.1, HODD.out, HG2.out⟩
        case round =>
          clear HD
          obtain ⟨X2, hgk, HD, HH⟩ := hrel
          have HGK := Lib.hid hgk
          obtain ⟨g5, l5, c5, x, rfl, hl5, hc5, hx64, hxp, -⟩ := HD.out.1.pos HH.out.1
          clear hgk
          rcases Nat.mod_two_eq_zero_or_one X2 with hX | hX
          · rw [hX] at hxp
            have t1x : ((x : Nat) : Int) % 2 = 0 := by omega
            have t2x : ((x : Nat) : Int).tmod 2 = 0 := by rw [Int.tmod_eq_emod_of_nonneg (by omega)]; omega
            have HXP := Lib.hid hX
            clear hxp hX
            go_wp2_with fail
            refine (d_down HD.out.1).mono ?_
            rintro e wd ⟨vd, rfl, hd, hb⟩
            have HD := Lib.hid (And.intro hd (And.intro (HD.out.2.1.below hb) (HD.out.2.2.trans (hb.mono HD.out.2.2.size))))
            clear hd hb
            go_wp2
            go_roundg (X2 / 2)
            case rel =>
              have h1 := HXP.out
              have h2 := HH.out.1
              have h3 := HH.out.2.1 h1
              exact ⟨X2 / 2, Nat.le_refl _, HD.out, by omega, fun _ => h3, by rw [gcd_half h1 h3]; exact HH.out.2.2⟩
            case measure =>
              have h2 := HH.out.1
              have h3 := HGK.out
              omega
          · rw [hX] at hxp
            have t1x : ((x : Nat) : Int) % 2 = 1 := by omega
            have t2x : ((x : Nat) : Int).tmod 2 = 1 := by rw [Int.tmod_eq_emod_of_nonneg (by omega)]; omega
            have HF : Hid (0 < X2 ∧ X2 % 2 = 1 ∧ Nat.gcd X2 Y2 = G) := ⟨HH.out.1, hX, HH.out.2.2⟩
            clear hxp hX HH
            go_wp2
            go_loopg [5, 6] (X2 + Y2) (fun gk v5 v6 wr => ∃ X Y : Nat, X + Y ≤ gk ∧ Hid (D32 w.heap.size wr v5 X ∧ D32 w.heap.size wr v6 Y ∧ Below w.heap.size w wr) ∧ Hid (0 < X ∧ X % 2 = 1 ∧ Nat.gcd X Y = G))
            case atStart => exact ⟨X2, Y2, Nat.le_refl _, HD.out, HF.out⟩
            case round =>
              clear HD HF
              obtain ⟨X3, Y3, hk3, HD, HF⟩ := hrel
              obtain ⟨a6, l6, c6, rfl, h6⟩ := HD.out.2.1.shape
              have HK3 := Lib.hid hk3
              clear hk3
              by_cases hl : l6 = 0
              · subst hl
                have hY0 := h6.1 rfl
                have HG : Hid (Nat.gcd A C = 2 ^ t * X3 ∧ X3 ≤ A ∧ 0 < A) := by
                  have h1 := HF.out.2.2
                  rw [hY0, Nat.gcd_zero_right] at h1
                  rw [h1]
                  exact HGT.out
                clear h6 hY0
                go_wp2_with fail
                refine (d_limbs HD.out.1 (Nat.lt_of_le_of_lt HG.out.2.1 (lims_z HA.out HA.out).1)).mono ?_
                rintro e wl ⟨vl, rfl, hQ, hb⟩
                have HQ := Lib.hid hQ
                have HB := Lib.hid (HD.out.2.2.trans (hb.mono HD.out.2.2.size))
                clear hQ hb
                go_wp2_with fail
                refine (d_two HT.out).mono ?_
                rintro e wt ⟨vt, rfl, hR, hb⟩
                have HQ := Lib.hid (HQ.out.below hb)
                have HB := Lib.hid (HB.out.trans (hb.mono HB.out.size))
                have HR := Lib.hid hR
                clear hR hb
                go_wp2_with fail
                refine (q_times HQ.out (HQ.out.raw (v := vl) (by repeat first | exact List.mem_cons_self | apply List.mem_cons_of_mem)) HR.out (by rw [Nat.mul_comm, ← HG.out.1]; exact (lims_z (Nat.lt_of_le_of_lt (Nat.gcd_le_left _ HG.out.2.2) HA.out) HA.out).1)).mono ?_
                rintro e wz ⟨vz, rfl, hQ, hb⟩
                have HQ := Lib.hid hQ
                have HB := Lib.hid (HB.out.trans (hb.mono HB.out.size))
                clear hQ hb
                go_wp2
                go_ret
                exact Div0.fin HQ.out HB.out HG.out.1
              · have hY3 : 0 < Y3 := Nat.pos_of_ne_zero fun h => hl (h6.2 h)
                have hp6 : 0 < l6 := Nat.pos_of_ne_zero hl
                have hq6 : decide (0 < l6) = true := decide_eq_true hp6
                have HY3 := Lib.hid hY3
                clear hY3 h6 hl
                obtain ⟨g5, l5, c5, x, rfl, hl5, hc5, hx64, -, hbig⟩ := HD.out.1.pos HF.out.1
                rcases Nat.lt_or_ge 1 l5 with hl1 | hl1
                · have hq5 : decide (1 < l5) = true := decide_eq_true hl1
                  clear hbig
                  obtain ⟨v5, hv5⟩ : ∃ v5, v5 = Value.slice (some ⟨g5, 0, none⟩) l5 c5 := ⟨_, rfl⟩
                  rw [← hv5] at HD
                  go_wp2
                  rw [← hv5]
                  clear hv5
                  go_loopg [6] Y3 (fun gk v6 wr => ∃ Y : Nat, Y ≤ gk ∧ Hid (D32 w.heap.size wr v5 X3 ∧ D32 w.heap.size wr v6 Y ∧ Below w.heap.size w wr) ∧ Hid (0 < Y ∧ Y ≤ Y3 ∧ Nat.gcd X3 Y = G))
                  case atStart => exact ⟨Y3, Nat.le_refl _, HD.out, HY3.out, Nat.le_refl _, HF.out.2.2⟩
                  case round =>
                    clear HD
                    obtain ⟨Y, hgk, HD, HH⟩ := hrel
                    obtain ⟨g6, l6, c6, y, rfl, hl6, hc6, hy64, hyp, -⟩ := HD.out.2.1.pos HH.out.1
                    have HGK := Lib.hid hgk
                    clear hgk
                    rcases Nat.mod_two_eq_zero_or_one Y with hY | hY
                    · rw [hY] at hyp
                      have t1y : ((y : Nat) : Int) % 2 = 0 := by omega
                      have t2y : ((y : Nat) : Int).tmod 2 = 0 := by rw [Int.tmod_eq_emod_of_nonneg (by omega)]; omega
                      have HYP := Lib.hid hY
                      clear hyp hY
                      go_wp2_with fail
                      refine (d_down HD.out.2.1).mono ?_
                      rintro e wd ⟨vd, rfl, hd, hb⟩
                      have HD := Lib.hid (And.intro (HD.out.1.below hb) (And.intro hd (HD.out.2.2.trans (hb.mono HD.out.2.2.size))))
                      clear hd hb
                      go_wp2
                      go_roundg (Y / 2)
                      case rel =>
                        have h1 := HYP.out
                        have h2 := HH.out.1
                        have h3 := HH.out.2.1
                        exact ⟨Y / 2, Nat.le_refl _, HD.out, by omega, by omega, by rw [gcd_half_r HF.out.2.1 h1]; exact HH.out.2.2⟩
                      case measure =>
                        have h2 := HH.out.1
                        have h3 := HGK.out
                        omega
                    · rw [hY] at hyp
                      have t1y : ((y : Nat) : Int) % 2 = 1 := by omega
                      have t2y : ((y : Nat) : Int).tmod 2 = 1 := by rw [Int.tmod_eq_emod_of_nonneg (by omega)]; omega
                      have HYP := Lib.hid hY
                      clear hyp hY
                      rcases Nat.lt_or_ge Y X3 with hlt | hge
                      · obtain ⟨rc, hrc⟩ : ∃ rc, rc = cmpI X3 Y := ⟨_, rfl⟩
                        have hrc1 : rc = 1 := by rw [hrc]; unfold cmpI; rw [if_neg (by omega), if_neg (by omega)]
                        have HC := Lib.hid hrc
                        clear hrc
                        subst hrc1
                        have HLT := Lib.hid hlt
                        clear hlt
                        go_wp2_with fail
                        refine (d_compare HD.out.1 HD.out.2.1).mono ?_
                        rintro e wc ⟨rfl, hn⟩
                        rw [← HC.out]
                        obtain ⟨nd, rfl⟩ := hn
                        have HD := Lib.hid (And.intro (HD.out.1.below (Below.drewM (Below.refl _ _) nd)) (And.intro (HD.out.2.1.below (Below.drewM (Below.refl _ _) nd)) (Below.drewM HD.out.2.2 nd)))
                        obtain ⟨wr2, hwr2⟩ : ∃ wr2, wr2 = wr.drewN nd := ⟨_, rfl⟩
                        rw [← hwr2] at HD
                        rw [← hwr2]
                        clear hwr2
                        go_wp2_with fail
                        refine (d_minus HD.out.1 HD.out.2.1 (Nat.le_of_lt HLT.out)).mono ?_
                        rintro e wm ⟨vm, rfl, hd, hb⟩
                        have HD := Lib.hid (And.intro (HD.out.2.1.below hb) (And.intro hd (HD.out.2.2.trans (hb.mono HD.out.2.2.size))))
                        clear hd hb
                        go_wp2
                        go_roundg X3
                        case rel =>
                          have h1 := HLT.out
                          exact ⟨Y, X3 - Y, by omega, HD.out, HH.out.1, HYP.out, by rw [gcd_sub_r (by omega), Nat.gcd_comm]; exact HH.out.2.2⟩
                        case measure =>
                          have h1 := HY3.out
                          have h2 := HK3.out
                          omega
                      · obtain ⟨rc, hrc⟩ : ∃ rc, rc = cmpI X3 Y := ⟨_, rfl⟩
                        have hrc1 : decide (0 < rc) = false := by
                          rw [hrc]; unfold cmpI; rw [if_neg_or (by omega)]
                        have HGE := Lib.hid hge
                        have HC := Lib.hid hrc
                        clear hge hrc
                        go_wp2_with fail
                        refine (d_compare HD.out.1 HD.out.2.1).mono ?_
                        rintro e wc ⟨rfl, hn⟩
                        rw [← HC.out]
                        obtain ⟨nd, rfl⟩ := hn
                        have HD := Lib.hid (And.intro (HD.out.1.below (Below.drewM (Below.refl _ _) nd)) (And.intro (HD.out.2.1.below (Below.drewM (Below.refl _ _) nd)) (Below.drewM HD.out.2.2 nd)))
                        obtain ⟨wr2, hwr2⟩ : ∃ wr2, wr2 = wr.drewN nd := ⟨_, rfl⟩
                        rw [← hwr2] at HD
                        rw [← hwr2]
                        clear hwr2
                        go_wp2_with fail
                        refine (d_minus HD.out.2.1 HD.out.1 HGE.out).mono ?_
                        rintro e wm ⟨vm, rfl, hd, hb⟩
                        have HD := Lib.hid (And.intro (HD.out.1.below hb) (And.intro hd (HD.out.2.2.trans (hb.mono HD.out.2.2.size))))
                        clear hd hb
                        go_wp2
                        go_roundg Y
                        case rel =>
                          have h1 := HGE.out
                          exact ⟨X3, Y - X3, by omega, HD.out, HF.out.1, HF.out.2.1, by rw [gcd_sub_r h1]; exact HH.out.2.2⟩
                        case measure =>
                          have h1 := HF.out.1
                          have h2 := HK3.out
                          have h3 := HH.out.2.1
                          omega
                · have hq5 : decide (1 < l5) = false := decide_eq_false (by omega)
                  rcases Nat.lt_or_ge 1 x with hx1 | hx1
                  · have hqx : decide (1 < x) = true := decide_eq_true hx1
                    clear hbig
                    obtain ⟨v5, hv5⟩ : ∃ v5, v5 = Value.slice (some ⟨g5, 0, none⟩) l5 c5 := ⟨_, rfl⟩
                    rw [← hv5] at HD
                    go_wp2
                    rw [← hv5]
                    clear hv5
                    go_loopg [6] Y3 (fun gk v6 wr => ∃ Y : Nat, Y ≤ gk ∧ Hid (D32 w.heap.size wr v5 X3 ∧ D32 w.heap.size wr v6 Y ∧ Below w.heap.size w wr) ∧ Hid (0 < Y ∧ Y ≤ Y3 ∧ Nat.gcd X3 Y = G))
                    case atStart => exact ⟨Y3, Nat.le_refl _, HD.out, HY3.out, Nat.le_refl _, HF.out.2.2⟩
                    case round =>
                      clear HD
                      obtain ⟨Y, hgk, HD, HH⟩ := hrel
                      obtain ⟨g6, l6, c6, y, rfl, hl6, hc6, hy64, hyp, -⟩ := HD.out.2.1.pos HH.out.1
                      have HGK := Lib.hid hgk
                      clear hgk
                      rcases Nat.mod_two_eq_zero_or_one Y with hY | hY
                      · rw [hY] at hyp
                        have t1y : ((y : Nat) : Int) % 2 = 0 := by omega
                        have t2y : ((y : Nat) : Int).tmod 2 = 0 := by rw [Int.tmod_eq_emod_of_nonneg (by omega)]; omega
                        have HYP := Lib.hid hY
                        clear hyp hY
                        go_wp2_with fail
                        refine (d_down HD.out.2.1).mono ?_
                        rintro e wd ⟨vd, rfl, hd, hb⟩
                        have HD := Lib.hid (And.intro (HD.out.1.below hb) (And.intro hd (HD.out.2.2.trans (hb.mono HD.out.2.2.size))))
                        clear hd hb
                        go_wp2
                        go_roundg (Y / 2)
                        case rel =>
                          have h1 := HYP.out
                          have h2 := HH.out.1
                          have h3 := HH.out.2.1
                          exact ⟨Y / 2, Nat.le_refl _, HD.out, by omega, by omega, by rw [gcd_half_r HF.out.2.1 h1]; exact HH.out.2.2⟩
                        case measure =>
                          have h2 := HH.out.1
                          have h3 := HGK.out
                          omega
                      · rw [hY] at hyp
                        have t1y : ((y : Nat) : Int) % 2 = 1 := by omega
                        have t2y : ((y : Nat) : Int).tmod 2 = 1 := by rw [Int.tmod_eq_emod_of_nonneg (by omega)]; omega
                        have HYP := Lib.hid hY
                        clear hyp hY
                        rcases Nat.lt_or_ge Y X3 with hlt | hge
                        · obtain ⟨rc, hrc⟩ : ∃ rc, rc = cmpI X3 Y := ⟨_, rfl⟩
                          have hrc1 : rc = 1 := by rw [hrc]; unfold cmpI; rw [if_neg (by omega), if_neg (by omega)]
                          have HC := Lib.hid hrc
                          clear hrc
                          subst hrc1
                          have HLT := Lib.hid hlt
                          clear hlt
                          go_wp2_with fail
                          refine (d_compare HD.out.1 HD.out.2.1).mono ?_
                          rintro e wc ⟨rfl, hn⟩
                          rw [← HC.out]
                          obtain ⟨nd, rfl⟩ := hn
                          have HD := Lib.hid (And.intro (HD.out.1.below (Below.drewM (Below.refl _ _) nd)) (And.intro (HD.out.2.1.below (Below.drewM (Below.refl _ _) nd)) (Below.drewM HD.out.2.2 nd)))
                          obtain ⟨wr2, hwr2⟩ : ∃ wr2, wr2 = wr.drewN nd := ⟨_, rfl⟩
                          rw [← hwr2] at HD
                          rw [← hwr2]
                          clear hwr2
                          go_wp2_with fail
                          refine (d_minus HD.out.1 HD.out.2.1 (Nat.le_of_lt HLT.out)).mono ?_
                          rintro e wm ⟨vm, rfl, hd, hb⟩
                          have HD := Lib.hid (And.intro (HD.out.2.1.below hb) (And.intro hd (HD.out.2.2.trans (hb.mono HD.out.2.2.size))))
                          clear hd hb
                          go_wp2
                          go_roundg X3
                          case rel =>
                            have h1 := HLT.out
                            exact ⟨Y, X3 - Y, by omega, HD.out, HH.out.1, HYP.out, by rw [gcd_sub_r (by omega), Nat.gcd_comm]; exact HH.out.2.2⟩
                          case measure =>
                            have h1 := HY3.out
                            have h2 := HK3.out
                            omega
                        · obtain ⟨rc, hrc⟩ : ∃ rc, rc = cmpI X3 Y := ⟨_, rfl⟩
                          have hrc1 : decide (0 < rc) = false := by
                            rw [hrc]; unfold cmpI; rw [if_neg_or (by omega)]
                          have HGE := Lib.hid hge
                          have HC := Lib.hid hrc
                          clear hge hrc
                          go_wp2_with fail
                          refine (d_compare HD.out.1 HD.out.2.1).mono ?_
                          rintro e wc ⟨rfl, hn⟩
                          rw [← HC.out]
                          obtain ⟨nd, rfl⟩ := hn
                          have HD := Lib.hid (And.intro (HD.out.1.below (Below.drewM (Below.refl _ _) nd)) (And.intro (HD.out.2.1.below (Below.drewM (Below.refl _ _) nd)) (Below.drewM HD.out.2.2 nd)))
                          obtain ⟨wr2, hwr2⟩ : ∃ wr2, wr2 = wr.drewN nd := ⟨_, rfl⟩
                          rw [← hwr2] at HD
                          rw [← hwr2]
                          clear hwr2
                          go_wp2_with fail
                          refine (d_minus HD.out.2.1 HD.out.1 HGE.out).mono ?_
                          rintro e wm ⟨vm, rfl, hd, hb⟩
                          have HD := Lib.hid (And.intro (HD.out.1.below hb) (And.intro hd (HD.out.2.2.trans (hb.mono HD.out.2.2.size))))
                          clear hd hb
                          go_wp2
                          go_roundg Y
                          case rel =>
                            have h1 := HGE.out
                            exact ⟨X3, Y - X3, by omega, HD.out, HF.out.1, HF.out.2.1, by rw [gcd_sub_r h1]; exact HH.out.2.2⟩
                          case measure =>
                            have h1 := HF.out.1
                            have h2 := HK3.out
                            have h3 := HH.out.2.1
                            omega
                  · have hqx : decide (1 < x) = false := decide_eq_false (by omega)
                    have HG : Hid (Nat.gcd A C = 2 ^ t * X3 ∧ X3 ≤ A ∧ 0 < A) := by
                      have h1 := HF.out.2.2
                      have h2 := HF.out.1
                      have h3 : X3 = 1 := by
                        have := fun h => hbig.2 h
                        omega
                      rw [h3, Nat.gcd_one_left] at h1
                      rw [h3, h1]
                      exact HGT.out
                    clear hbig
                    go_wp2_with fail
                    refine (d_limbs HD.out.1 (Nat.lt_of_le_of_lt HG.out.2.1 (lims_z HA.out HA.out).1)).mono ?_
                    rintro e wl ⟨vl, rfl, hQ, hb⟩
                    have HQ := Lib.hid hQ
                    have HB := Lib.hid (HD.out.2.2.trans (hb.mono HD.out.2.2.size))
                    clear hQ hb
                    go_wp2_with fail
                    refine (d_two HT.out).mono ?_
                    rintro e wt ⟨vt, rfl, hR, hb⟩
                    have HQ := Lib.hid (HQ.out.below hb)
                    have HB := Lib.hid (HB.out.trans (hb.mono HB.out.size))
                    have HR := Lib.hid hR
                    clear hR hb
                    go_wp2_with fail
                    refine (q_times HQ.out (HQ.out.raw (v := vl) (by repeat first | exact List.mem_cons_self | apply List.mem_cons_of_mem)) HR.out (by rw [Nat.mul_comm, ← HG.out.1]; exact (lims_z (Nat.lt_of_le_of_lt (Nat.gcd_le_left _ HG.out.2.2) HA.out) HA.out).1)).mono ?_
                    rintro e wz ⟨vz, rfl, hQ, hb⟩
                    have HQ := Lib.hid hQ
                    have HB := Lib.hid (HB.out.trans (hb.mono HB.out.size))
                    clear hQ hb
                    go_wp2
                    go_ret
                    exact Div0.fin HQ.out HB.out HG.out.1
    · rw [hX] at hxp
      have t1x : ((x : Nat) : Int) % 2 = 1 := by omega
      have t2x : ((x : Nat) : Int).tmod 2 = 1 := by rw [Int.tmod_eq_emod_of_nonneg (by omega)]; omega
      have HODD : Hid (X1 % 2 = 0 → Y2 % 2 = 1) := fun h => by omega
      clear hxp hX hyp
      obtain ⟨v6, hv6⟩ : ∃ v6, v6 = Value.slice (some ⟨g6, 0, none⟩) l6 c6 := ⟨_, rfl⟩
      rw [← hv6] at HD
      go_wp2
      rw [← hv6]
      clear hv6
      obtain ⟨G, hG⟩ : ∃ G, Nat.gcd X1 Y2 = G := ⟨_, rfl⟩
      have HGT : Hid (Nat.gcd A C = 2 ^ t * G ∧ G ≤ A ∧ 0 < A) := by
        have h1 := HF1.out.2.2.2
        rw [hG] at h1
        have h4 : 0 < A := HAP.out
        refine ⟨h1, ?_, h4⟩
        have h2 := Nat.gcd_le_left C h4
        rw [h1] at h2
        exact Nat.le_trans (Nat.le_mul_of_pos_left _ (Nat.two_pow_pos t)) h2
      have HG2 := Lib.hid hG
      clear hG
      have HT : Hid (t ≤ 25600) := Nat.le_succ_of_le (pow_small HA.out HF1.out.1 HF1.out.2.2.1)
      go_loopg [5] X1 (fun gk v5 wr => ∃ X : Nat, X ≤ gk ∧ Hid (D32 w.heap.size wr v5 X ∧ D32 w.heap.size wr v6 Y2 ∧ Below w.heap.size w wr) ∧ Hid (0 < X ∧ (X % 2 = 0 → Y2 % 2 = 1) ∧ Nat.gcd X Y2 = G))
      case atStart => exact ⟨X1, Nat.le_refl _, HD.out, HF1.out.1, HODD.out, HG2.out⟩
      case round =>
        clear HD
        obtain ⟨X2, hgk, HD, HH⟩ := hrel
        have HGK := Lib.hid hgk
        obtain ⟨g5, l5, c5, x, rfl, hl5, hc5, hx64, hxp, -⟩ := HD.out.1.pos HH.out.1
        clear hgk
        rcases Nat.mod_two_eq_zero_or_one X2 with hX | hX
        · rw [hX] at hxp
          have t1x : ((x : Nat) : Int) % 2 = 0 := by omega
          have t2x : ((x : Nat) : Int).tmod 2 = 0 := by rw [Int.tmod_eq_emod_of_nonneg (by omega)]; omega
          have HXP := Lib.hid hX
          clear hxp hX
          go_wp2_with fail
          refine (d_down HD.out.1).mono ?_
          rintro e wd ⟨vd, rfl, hd, hb⟩
          have HD := Lib.hid (And.intro hd (And.intro (HD.out.2.1.below hb) (HD.out.2.2.trans (hb.mono HD.out.2.2.size))))
          clear hd hb
          go_wp2
          go_roundg (X2 / 2)
          case rel =>
            have h1 := HXP.out
            have h2 := HH.out.1
            have h3 := HH.out.2.1 h1
            exact ⟨X2 / 2, Nat.le_refl _, HD.out, by omega, fun _ => h3, by rw [gcd_half h1 h3]; exact HH.out.2.2⟩
          case measure =>
            have h2 := HH.out.1
            have h3 := HGK.out
            omega
        · rw [hX] at hxp
          have t1x : ((x : Nat) : Int) % 2 = 1 := by omega
          have t2x : ((x : Nat) : Int).tmod 2 = 1 := by rw [Int.tmod_eq_emod_of_nonneg (by omega)]; omega
          have HF : Hid (0 < X2 ∧ X2 % 2 = 1 ∧ Nat.gcd X2 Y2 = G) := ⟨HH.out.1, hX, HH.out.2.2⟩
          clear hxp hX HH
          go_wp2
          go_loopg [5, 6] (X2 + Y2) (fun gk v5 v6 wr => ∃ X Y : Nat, X + Y ≤ gk ∧ Hid (D32 w.heap.size wr v5 X ∧ D32 w.heap.size wr v6 Y ∧ Below w.heap.size w wr) ∧ Hid (0 < X ∧ X % 2 = 1 ∧ Nat.gcd X Y = G))
          case atStart => exact ⟨X2, Y2, Nat.le_refl _, HD.out, HF.out⟩
          case round =>
            clear HD HF
            obtain ⟨X3, Y3, hk3, HD, HF⟩ := hrel
            obtain ⟨a6, l6, c6, rfl, h6⟩ := HD.out.2.1.shape
            have HK3 := Lib.hid hk3
            clear hk3
            by_cases hl : l6 = 0
            · subst hl
              have hY0 := h6.1 rfl
              have HG : Hid (Nat.gcd A C = 2 ^ t * X3 ∧ X3 ≤ A ∧ 0 < A) := by
                have h1 := HF.out.2.2
                rw [hY0, Nat.gcd_zero_right] at h1
                rw [h1]
                exact HGT.out
              clear h6 hY0
              go_wp2_with fail
              refine (d_limbs HD.out.1 (Nat.lt_of_le_of_lt HG.out.2.1 (lims_z HA.out HA.out).1)).mono ?_
              rintro e wl ⟨vl, rfl, hQ, hb⟩
              have HQ := Lib.hid hQ
              have HB := Lib.hid (HD.out.2.2.trans (hb.mono HD.out.2.2.size))
              clear hQ hb
              go_wp2_with fail
              refine (d_two HT.out).mono ?_
              rintro e wt ⟨vt, rfl, hR, hb⟩
              have HQ := Lib.hid (HQ.out.below hb)
              have HB := Lib.hid (HB.out.trans (hb.mono HB.out.size))
              have HR := Lib.hid hR
              clear hR hb
              go_wp2_with fail
              refine (q_times HQ.out (HQ.out.raw (v := vl) (by repeat first | exact List.mem_cons_self | apply List.mem_cons_of_mem)) HR.out (by rw [Nat.mul_comm, ← HG.out.1]; exact (lims_z (Nat.lt_of_le_of_lt (Nat.gcd_le_left _ HG.out.2.2) HA.out) HA.out).1)).mono ?_
              rintro e wz ⟨vz, rfl, hQ, hb⟩
              have HQ := Lib.hid hQ
              have HB := Lib.hid (HB.out.trans (hb.mono HB.out.size))
              clear hQ hb
              go_wp2
              go_ret
              exact Div0.fin HQ.out HB.out HG.out.1
            · have hY3 : 0 < Y3 := Nat.pos_of_ne_zero fun h => hl (h6.2 h)
              have hp6 : 0 < l6 := Nat.pos_of_ne_zero hl
              have hq6 : decide (0 < l6) = true := decide_eq_true hp6
              have HY3 := Lib.hid hY3
              clear hY3 h6 hl
              obtain ⟨g5, l5, c5, x, rfl, hl5, hc5, hx64, -, hbig⟩ := HD.out.1.pos HF.out.1
              rcases Nat.lt_or_ge 1 l5 with hl1 | hl1
              · have hq5 : decide (1 < l5) = true := decide_eq_true hl1
                clear hbig
                obtain ⟨v5, hv5⟩ : ∃ v5, v5 = Value.slice (some ⟨g5, 0, none⟩) l5 c5 := ⟨_, rfl⟩
                rw [← hv5] at HD
                go_wp2
                rw [← hv5]
                clear hv5
                go_loopg [6] Y3 (fun gk v6 wr => ∃ Y : Nat, Y ≤ gk ∧ Hid (D32 w.heap.size wr v5 X3 ∧ D32 w.heap.size wr v6 Y ∧ Below w.heap.size w wr) ∧ Hid (0 < Y ∧ Y ≤ Y3 ∧ Nat.gcd X3 Y = G))
                case atStart => exact ⟨Y3, Nat.le_refl _, HD.out, HY3.out, Nat.le_refl _, HF.out.2.2⟩
                case round =>
                  clear HD
                  obtain ⟨Y, hgk, HD, HH⟩ := hrel
                  obtain ⟨g6, l6, c6, y, rfl, hl6, hc6, hy64, hyp, -⟩ := HD.out.2.1.pos HH.out.1
                  have HGK := Lib.hid hgk
                  clear hgk
                  rcases Nat.mod_two_eq_zero_or_one Y with hY | hY
                  · rw [hY] at hyp
                    have t1y : ((y : Nat) : Int) % 2 = 0 := by omega
                    have t2y : ((y : Nat) : Int).tmod 2 = 0 := by rw [Int.tmod_eq_emod_of_nonneg (by omega)]; omega
                    have HYP := Lib.hid hY
                    clear hyp hY
                    go_wp2_with fail
                    refine (d_down HD.out.2.1).mono ?_
                    rintro e wd ⟨vd, rfl, hd, hb⟩
                    have HD := Lib.hid (And.intro (HD.out.1.below hb) (And.intro hd (HD.out.2.2.trans (hb.mono HD.out.2.2.size))))
                    clear hd hb
                    go_wp2
                    go_roundg (Y / 2)
                    case rel =>
                      have h1 := HYP.out
                      have h2 := HH.out.1
                      have h3 := HH.out.2.1
                      exact ⟨Y / 2, Nat.le_refl _, HD.out, by omega, by omega, by rw [gcd_half_r HF.out.2.1 h1]; exact HH.out.2.2⟩
                    case measure =>
                      have h2 := HH.out.1
                      have h3 := HGK.out
                      omega
                  · rw [hY] at hyp
                    have t1y : ((y : Nat) : Int) % 2 = 1 := by omega
                    have t2y : ((y : Nat) : Int).tmod 2 = 1 := by rw [Int.tmod_eq_emod_of_nonneg (by omega)]; omega
                    have HYP := Lib.hid hY
                    clear hyp hY
                    rcases Nat.lt_or_ge Y X3 with hlt | hge
                    · obtain ⟨rc, hrc⟩ : ∃ rc, rc = cmpI X3 Y := ⟨_, rfl⟩
                      have hrc1 : rc = 1 := by rw [hrc]; unfold cmpI; rw [if_neg (by omega), if_neg (by omega)]
                      have HC := Lib.hid hrc
                      clear hrc
                      subst hrc1
                      have HLT := Lib.hid hlt
                      clear hlt
                      go_wp2_with fail
                      refine (d_compare HD.out.1 HD.out.2.1).mono ?_
                      rintro e wc ⟨rfl, hn⟩
                      rw [← HC.out]
                      obtain ⟨nd, rfl⟩ := hn
                      have HD := Lib.hid (And.intro (HD.out.1.below (Below.drewM (Below.refl _ _) nd)) (And.intro (HD.out.2.1.below (Below.drewM (Below.refl _ _) nd)) (Below.drewM HD.out.2.2 nd)))
                      obtain ⟨wr2, hwr2⟩ : ∃ wr2, wr2 = wr.drewN nd := ⟨_, rfl⟩
                      rw [← hwr2] at HD
                      rw [← hwr2]
                      clear hwr2
                      go_wp2_with fail
                      refine (d_minus HD.out.1 HD.out.2.1 (Nat.le_of_lt HLT.out)).mono ?_
                      rintro e wm ⟨vm, rfl, hd, hb⟩
                      have HD := Lib.hid (And.intro (HD.out.2.1.below hb) (And.intro hd (HD.out.2.2.trans (hb.mono HD.out.2.2.size))))
                      clear hd hb
                      go_wp2
                      go_roundg X3
                      case rel =>
                        have h1 := HLT.out
                        exact ⟨Y, X3 - Y, by omega, HD.out, HH.out.1, HYP.out, by rw [gcd_sub_r (by omega), Nat.gcd_comm]; exact HH.out.2.2⟩
                      case measure =>
                        have h1 := HY3.out
                        have h2 := HK3.out
                        omega
                    · obtain ⟨rc, hrc⟩ : ∃ rc, rc = cmpI X3 Y := ⟨_, rfl⟩
                      have hrc1 : decide (0 < rc) = false := by
                        rw [hrc]; unfold cmpI; rw [if_neg_or (by omega)]
                      have HGE := Lib.hid hge
                      have HC := Lib.hid hrc
                      clear hge hrc
                      go_wp2_with fail
                      refine (d_compare HD.out.1 HD.out.2.1).mono ?_
                      rintro e wc ⟨rfl, hn⟩
                      rw [← HC.out]
                      obtain ⟨nd, rfl⟩ := hn
                      have HD := Lib.hid (And.intro (HD.out.1.below (Below.drewM (Below.refl _ _) nd)) (And.intro (HD.out.2.1.below (Below.drewM (Below.refl _ _) nd)) (Below.drewM HD.out.2.2 nd)))
                      obtain ⟨wr2, hwr2⟩ : ∃ wr2, wr2 = wr.drewN nd := ⟨_, rfl⟩
                      rw [← hwr2] at HD
                      rw [← hwr2]
                      clear hwr2
                      go_wp2_with fail
                      refine (d_minus HD.out.2.1 HD.out.1 HGE.out).mono ?_
                      rintro e wm ⟨vm, rfl, hd, hb⟩
                      have HD := Lib.hid (And.intro (HD.out.1.below hb) (And.intro hd (HD.out.2.2.trans (hb.mono HD.out.2.2.size))))
                      clear hd hb
                      go_wp2
                      go_roundg Y
                      case rel =>
                        have h1 := HGE.out
                        exact ⟨X3, Y - X3, by omega, HD.out, HF.out.1, HF.out.2.1, by rw [gcd_sub_r h1]; exact HH.out.2.2⟩
                      case measure =>
                        have h1 := HF.out.1
                        have h2 := HK3.out
                        have h3 := HH.out.2.1
                        omega
              · have hq5 : decide (1 < l5) = false := decide_eq_false (by omega)
                rcases Nat.lt_or_ge 1 x with hx1 | hx1
                · have hqx : decide (1 < x) = true := decide_eq_true hx1
                  clear hbig
                  obtain ⟨v5, hv5⟩ : ∃ v5, v5 = Value.slice (some ⟨g5, 0, none⟩) l5 c5 := ⟨_, rfl⟩
                  rw [← hv5] at HD
                  go_wp2
                  rw [← hv5]
                  clear hv5
                  go_loopg [6] Y3 (fun gk v6 wr => ∃ Y : Nat, Y ≤ gk ∧ Hid (D32 w.heap.size wr v5 X3 ∧ D32 w.heap.size wr v6 Y ∧ Below w.heap.size w wr) ∧ Hid (0 < Y ∧ Y ≤ Y3 ∧ Nat.gcd X3 Y = G))
                  case atStart => exact ⟨Y3, Nat.le_refl _, HD.out, HY3.out, Nat.le_refl _, HF.out.2.2⟩
                  case round =>
                    clear HD
                    obtain ⟨Y, hgk, HD, HH⟩ := hrel
                    obtain ⟨g6, l6, c6, y, rfl, hl6, hc6, hy64, hyp, -⟩ := HD.out.2.1.pos HH.out.1
                    have HGK := Lib.hid hgk
                    clear hgk
                    rcases Nat.mod_two_eq_zero_or_one Y with hY | hY
                    · rw [hY] at hyp
                      have t1y : ((y : Nat) : Int) % 2 = 0 := by omega
                      have t2y : ((y : Nat) : Int).tmod 2 = 0 := by rw [Int.tmod_eq_emod_of_nonneg (by omega)]; omega
                      have HYP := Lib.hid hY
                      clear hyp hY
                      go_wp2_with fail
                      refine (d_down HD.out.2.1).mono ?_
                      rintro e wd ⟨vd, rfl, hd, hb⟩
                      have HD := Lib.hid (And.intro (HD.out.1.below hb) (And.intro hd (HD.out.2.2.trans (hb.mono HD.out.2.2.size))))
                      clear hd hb
                      go_wp2
                      go_roundg (Y / 2)
                      case rel =>
                        have h1 := HYP.out
                        have h2 := HH.out.1
                        have h3 := HH.out.2.1
                        exact ⟨Y / 2, Nat.le_refl _, HD.out, by omega, by omega, by rw [gcd_half_r HF.out.2.1 h1]; exact HH.out.2.2⟩
                      case measure =>
                        have h2 := HH.out.1
                        have h3 := HGK.out
                        omega
                    · rw [hY] at hyp
                      have t1y : ((y : Nat) : Int) % 2 = 1 := by omega
                      have t2y : ((y : Nat) : Int).tmod 2 = 1 := by rw [Int.tmod_eq_emod_of_nonneg (by omega)]; omega
                      have HYP := Lib.hid hY
                      clear hyp hY
                      rcases Nat.lt_or_ge Y X3 with hlt | hge
                      · obtain ⟨rc, hrc⟩ : ∃ rc, rc = cmpI X3 Y := ⟨_, rfl⟩
                        have hrc1 : rc = 1 := by rw [hrc]; unfold cmpI; rw [if_neg (by omega), if_neg (by omega)]
                        have HC := Lib.hid hrc
                        clear hrc
                        subst hrc1
                        have HLT := Lib.hid hlt
                        clear hlt
                        go_wp2_with fail
                        refine (d_compare HD.out.1 HD.out.2.1).mono ?_
                        rintro e wc ⟨rfl, hn⟩
                        rw [← HC.out]
                        obtain ⟨nd, rfl⟩ := hn
                        have HD := Lib.hid (And.intro (HD.out.1.below (Below.drewM (Below.refl _ _) nd)) (And.intro (HD.out.2.1.below (Below.drewM (Below.refl _ _) nd)) (Below.drewM HD.out.2.2 nd)))
                        obtain ⟨wr2, hwr2⟩ : ∃ wr2, wr2 = wr.drewN nd := ⟨_, rfl⟩
                        rw [← hwr2] at HD
                        rw [← hwr2]
                        clear hwr2
                        go_wp2_with fail
                        refine (d_minus HD.out.1 HD.out.2.1 (Nat.le_of_lt HLT.out)).mono ?_
                        rintro e wm ⟨vm, rfl, hd, hb⟩
                        have HD := Lib.hid (And.intro (HD.out.2.1.below hb) (And.intro hd (HD.out.2.2.trans (hb.mono HD.out.2.2.size))))
                        clear hd hb
                        go_wp2
                        go_roundg X3
                        case rel =>
                          have h1 := HLT.out
                          exact ⟨Y, X3 - Y, by omega, HD.out, HH.out.1, HYP.out, by rw [gcd_sub_r (by omega), Nat.gcd_comm]; exact HH.out.2.2⟩
                        case measure =>
                          have h1 := HY3.out
                          have h2 := HK3.out
                          omega
                      · obtain ⟨rc, hrc⟩ : ∃ rc, rc = cmpI X3 Y := ⟨_, rfl⟩
                        have hrc1 : decide (0 < rc) = false := by
                          rw [hrc]; unfold cmpI; rw [if_neg_or (by omega)]
                        have HGE := Lib.hid hge
                        have HC := Lib.hid hrc
                        clear hge hrc
                        go_wp2_with fail
                        refine (d_compare HD.out.1 HD.out.2.1).mono ?_
                        rintro e wc ⟨rfl, hn⟩
                        rw [← HC.out]
                        obtain ⟨nd, rfl⟩ := hn
                        have HD := Lib.hid (And.intro (HD.out.1.below (Below.drewM (Below.refl _ _) nd)) (And.intro (HD.out.2.1.below (Below.drewM (Below.refl _ _) nd)) (Below.drewM HD.out.2.2 nd)))
                        obtain ⟨wr2, hwr2⟩ : ∃ wr2, wr2 = wr.drewN nd := ⟨_, rfl⟩
                        rw [← hwr2] at HD
                        rw [← hwr2]
                        clear hwr2
                        go_wp2_with fail
                        refine (d_minus HD.out.2.1 HD.out.1 HGE.out).mono ?_
                        rintro e wm ⟨vm, rfl, hd, hb⟩
                        have HD := Lib.hid (And.intro (HD.out.1.below hb) (And.intro hd (HD.out.2.2.trans (hb.mono HD.out.2.2.size))))
                        clear hd hb
                        go_wp2
                        go_roundg Y
                        case rel =>
                          have h1 := HGE.out
                          exact ⟨X3, Y - X3, by omega, HD.out, HF.out.1, HF.out.2.1, by rw [gcd_sub_r h1]; exact HH.out.2.2⟩
                        case measure =>
                          have h1 := HF.out.1
                          have h2 := HK3.out
                          have h3 := HH.out.2.1
                          omega
                · have hqx : decide (1 < x) = false := decide_eq_false (by omega)
                  have HG : Hid (Nat.gcd A C = 2 ^ t * X3 ∧ X3 ≤ A ∧ 0 < A) := by
                    have h1 := HF.out.2.2
                    have h2 := HF.out.1
                    have h3 : X3 = 1 := by
                      have := fun h => hbig.2 h
                      omega
                    rw [h3, Nat.gcd_one_left] at h1
                    rw [h3, h1]
                    exact HGT.out
                  clear hbig
                  go_wp2_with fail
                  refine (d_limbs HD.out.1 (Nat.lt_of_le_of_lt HG.out.2.1 (lims_z HA.out HA.out).1)).mono ?_
                  rintro e wl ⟨vl, rfl, hQ, hb⟩
                  have HQ := Lib.hid hQ
                  have HB := Lib.hid (HD.out.2.2.trans (hb.mono HD.out.2.2.size))
                  clear hQ hb
                  go_wp2_with fail
                  refine (d_two HT.out).mono ?_
                  rintro e wt ⟨vt, rfl, hR, hb⟩
                  have HQ := Lib.hid (HQ.out.below hb)
                  have HB := Lib.hid (HB.out.trans (hb.mono HB.out.size))
                  have HR := Lib.hid hR
                  clear hR hb
                  go_wp2_with fail
                  refine (q_times HQ.out (HQ.out.raw (v := vl) (by repeat first | exact List.mem_cons_self | apply List.mem_cons_of_mem)) HR.out (by rw [Nat.mul_comm, ← HG.out.1]; exact (lims_z (Nat.lt_of_le_of_lt (Nat.gcd_le_left _ HG.out.2.2) HA.out) HA.out).1)).mono ?_
                  rintro e wz ⟨vz, rfl, hQ, hb⟩
                  have HQ := Lib.hid hQ
                  have HB := Lib.hid (HB.out.trans (hb.mono HB.out.size))
                  clear hQ hb
                  go_wp2
                  go_ret
                  exact Div0.fin HQ.out HB.out HG.out.1
end Go.Proofs.YtfjhmnbbjknflaaGreatDoor
