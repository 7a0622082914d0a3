import Derived.Test.YtaookoejdnkkoaaGreatDoorQNmOneA
import Derived.Deep.RegionHeld3
namespace Go.Proofs.YtaookoejdnkkoaaGreatDoor
open Go.RowKit

/-! NamesOne. -/
theorem hex_of {w : World} {a : Option Addr} {n c : Nat} {b : List Nat} (h : Rd .u8 w a b) (hn : n = b.length) (h8 : B8 b) (hb : n ≤ 1046) {X : ByteArray} (hX : strN (hexL b) = X) :
    Calls Tryz.prog 88 #[.slice a n c] w fun e w' => e = .returned (.string X) ∧ Below w.heap.size w w' := by
  rw [← hX]; exact hex_any a n c b w hn.symm (by omega) h h8
set_option maxHeartbeats 8000000 in
set_option maxRecDepth 100000 in
theorem namesOne_any (z1 z2 : Int) (x y : Nat) (w : World) (hz1 : -9223372036854775808 ≤ z1 ∧ z1 ≤ 9223372036854775807) (hz2 : -9223372036854775808 ≤ z2 ∧ z2 ≤ 9223372036854775807) (hH : HT w) (hB : BT w) :
    Calls Tryz.prog 53 #[.int .i64 z1, .int .i64 z2, .int .u64 (x : Nat), .int .u64 (y : Nat)] w fun e w' => e = .returned (.bool true) ∧ Below w.heap.size w w' := by
  have NS := Lib.hid (NE.start hH hB)
  clear hH hB
  go_enter Tryz.func53, Tryz.ntmps53
  go_wp2_with fail
  refine (pickn_any z1 4 _ hz1.1 hz1.2 (by decide) (by decide)).mono ?_
  rintro e w1 ⟨i, rfl, hi, rfl⟩
  go_wp2_with fail
  refine (pickn_any z2 4 _ hz2.1 hz2.2 (by decide) (by decide)).mono ?_
  rintro e w1 ⟨k, rfl, hk, rfl⟩
  clear hz1 hz2
  have HI := Lib.hid hi
  have HK := Lib.hid hk
  obtain ⟨nN, hnN⟩ : ∃ n, n = (knL i).length := ⟨_, rfl⟩
  obtain ⟨nE, hnE⟩ : ∃ n, n = (keL i).length := ⟨_, rfl⟩
  have HNN := Lib.hid hnN
  have HNE := Lib.hid hnE
  clear hi hk hnN hnE
  -- the first key
  go_wp2_with fail
  refine (r8keys _).mono ?_
  rintro e w1 ⟨hb, a, b, c, d, p, q, u, v, rfl, hks⟩
  obtain ⟨vN, vE, oN, oE, hix⟩ := pick4K hks i HI.out
  obtain ⟨aN, cN, rfl, rN⟩ := own64.form oN
  obtain ⟨aE, cE, rfl, rE⟩ := own64.form oE
  have NS := Lib.hid (NS.out.below hb)
  have HRN := Lib.hid rN
  have HRE := Lib.hid rE
  have HCN := Lib.hid (own64.room oN).1
  have HCE := Lib.hid (own64.room oE).1
  rw [← HNN.out, ← HNE.out] at hix
  rw [← HNN.out] at HCN
  rw [← HNE.out] at HCE
  clear hb hks oN oE rN rE
  go_wp2_with fail
  have hkb := kn_bd i HI.out
  refine (encode_any aN nN cN (knL i) aE nE cE (keL i) _ HNN.out.symm (by rw [HNN.out]; have := hkb.1.2; omega) HCN.out HRN.out hkb.1.1 HNE.out.symm (by rw [HNE.out]; have := hkb.2.2; omega) HCE.out HRE.out hkb.2.1).mono ?_
  rintro e w2 ⟨hb, aB, cB, kB, b, rfl, hob, hQ⟩
  obtain ⟨rfl, hKW⟩ := KeyW.of HI.out hQ
  have KW := Lib.hid hKW
  obtain ⟨lB, hlB⟩ : ∃ l, l = b.length := ⟨_, rfl⟩
  obtain ⟨_, _, heB, hcB, hrB, hnB, hmB⟩ := own8_open hob
  simp only [Value.slice.injEq] at heB
  obtain ⟨rfl, -, rfl⟩ := heB
  have HB8 := Lib.hid hrB
  have HGB := Lib.hid (And.intro hcB (And.intro hnB hmB))
  clear hcB hrB hnB hmB
  have NS := Lib.hid (NS.out.below hb)
  have hlb := hKW.len
  rw [← hlB] at HGB hlb ⊢
  have HLB := Lib.hid hlB
  clear hb hob hQ hKW hkb hix HRN HRE HCN HCE hlB
  -- the second key
  obtain ⟨mN, hmN⟩ : ∃ n, n = (knL k).length := ⟨_, rfl⟩
  obtain ⟨mE, hmE⟩ : ∃ n, n = (keL k).length := ⟨_, rfl⟩
  have HMN := Lib.hid hmN
  have HME := Lib.hid hmE
  clear hmN hmE
  go_wp2_with fail
  refine (r8keys _).mono ?_
  rintro e w3 ⟨hb, a, b0, c, d, p, q, u, v, rfl, hks⟩
  obtain ⟨vN, vE, oN, oE, hix⟩ := pick4K hks k HK.out
  obtain ⟨aN, cN, rfl, rN⟩ := own64.form oN
  obtain ⟨aE, cE, rfl, rE⟩ := own64.form oE
  have NS := Lib.hid (NS.out.below hb)
  have HB8 := Lib.hid (HB8.out.below hb)
  have HRN := Lib.hid rN
  have HRE := Lib.hid rE
  have HCN := Lib.hid (own64.room oN).1
  have HCE := Lib.hid (own64.room oE).1
  rw [← HMN.out, ← HME.out] at hix
  rw [← HMN.out] at HCN
  rw [← HME.out] at HCE
  clear hb hks oN oE rN rE
  go_wp2_with fail
  have hkb := kn_bd k HK.out
  refine (encode_any aN mN cN (knL k) aE mE cE (keL k) _ HMN.out.symm (by rw [HMN.out]; have := hkb.1.2; omega) HCN.out HRN.out hkb.1.1 HME.out.symm (by rw [HME.out]; have := hkb.2.2; omega) HCE.out HRE.out hkb.2.1).mono ?_
  rintro e w4 ⟨hb, aC, cC, kC, bC, rfl, hob, hQ⟩
  obtain ⟨rfl, hKW⟩ := KeyW.of HK.out hQ
  have KX := Lib.hid hKW
  obtain ⟨lC, hlC⟩ : ∃ l, l = bC.length := ⟨_, rfl⟩
  obtain ⟨_, _, heC, hcC, hrC, hnC, hmC⟩ := own8_open hob
  simp only [Value.slice.injEq] at heC
  obtain ⟨rfl, -, rfl⟩ := heC
  have HC8 := Lib.hid hrC
  have HGC := Lib.hid (And.intro hcC (And.intro hnC hmC))
  clear hcC hrC hnC hmC
  have NS := Lib.hid (NS.out.below hb)
  have HB8 := Lib.hid (HB8.out.below hb)
  have hlc := hKW.len
  rw [← hlC] at HGC hlc ⊢
  have HLC := Lib.hid hlC
  clear hb hob hQ hKW hkb hix HRN HRE HCN HCE hlC HMN HME
  -- hex, any letters great
  obtain ⟨X, hX⟩ : ∃ X, X = strN (hexL b) := ⟨_, rfl⟩
  have hXs : X.size = 2 * lB := by rw [hX, strN_size, hexL_len, HLB.out]
  obtain ⟨TS, hTS⟩ : ∃ S, S = kyS ++ X := ⟨_, rfl⟩
  have hTs : TS.size = 8 + 2 * lB := by rw [hTS, ByteArray.size_append, hXs]; rfl
  have HX := Lib.hid hX
  have HTS := Lib.hid hTS
  have HT1 : (⟨#[114, 115, 97, 45, 104, 101, 120, 58]⟩ : ByteArray) ++ X = TS := hTS.symm
  clear hX hTS
  go_wp2_with fail
  refine (hex_of (b := b) HB8.out HLB.out KW.out.b8 hlb.2 HX.out.symm).mono ?_
  rintro e w5 ⟨rfl, hb⟩
  have NS := Lib.hid (NS.out.below hb)
  have HB8 := Lib.hid (HB8.out.below hb)
  have HC8 := Lib.hid (HC8.out.below hb)
  clear hb
  go_wp2_with fail
  refine (cased_any TS (8 + 2 * lB) x _ hTs (by omega)).mono ?_
  rintro e w6 ⟨⟨r1, hc1, rfl⟩, hb⟩
  have NS := Lib.hid (NS.out.below hb)
  have HB8 := Lib.hid (HB8.out.below hb)
  have HC8 := Lib.hid (HC8.out.below hb)
  rw [HTS.out, HX.out] at hc1
  obtain ⟨F1, hF1⟩ : ∃ F, F = strN r1 := ⟨_, rfl⟩
  obtain ⟨o1, p1, l1, b1⟩ := KW.out.hex HI.out hc1
  have hs1 : F1.size = 8 + 2 * lB := by rw [hF1, strN_size, l1, HLB.out]
  have hB1 : bsN F1 = r1 := by rw [hF1, bsN_strN b1]
  rw [← hB1] at o1
  have HO1 := Lib.hid o1
  have HS1 := Lib.hid hs1
  rw [← hF1]
  clear hb hc1 hF1 o1 p1 l1 b1 hB1 hs1
  -- base64, any letters of the front great
  obtain ⟨Y, hY⟩ : ∃ Y, Y = strN (b64L b) := ⟨_, rfl⟩
  obtain ⟨q6, hq6⟩ : ∃ q, q = (lB + 2) / 3 * 4 := ⟨_, rfl⟩
  have hqb : q6 ≤ 1400 := by omega
  have hYs : Y.size = q6 := by rw [hY, strN_size, b64L_len, ← HLB.out, hq6]
  have hYB : bsN Y = b64L b := by rw [hY]; exact bsN_strN (b64L_8 KW.out.b8)
  have HY := Lib.hid hY
  have HYB := Lib.hid hYB
  have HYS := Lib.hid hYs
  clear hY hYB hq6
  go_wp2_with fail
  refine (cased_any k6S 11 y _ rfl (by decide)).mono ?_
  rintro e w7 ⟨⟨r2, hc2, rfl⟩, hb⟩
  have NS := Lib.hid (NS.out.below hb)
  have HB8 := Lib.hid (HB8.out.below hb)
  have HC8 := Lib.hid (HC8.out.below hb)
  obtain ⟨F2, hF2⟩ : ∃ F, F = strN r2 := ⟨_, rfl⟩
  obtain ⟨o2, l2⟩ := KW.out.b64 HI.out hc2
  obtain ⟨S2, hS2⟩ : ∃ S, S = F2 ++ Y := ⟨_, rfl⟩
  have hs2 : S2.size = 11 + q6 := by rw [hS2, ByteArray.size_append, hF2, strN_size, l2, HYS.out]
  have hf2 : F2.size = 11 := by rw [hF2, strN_size, l2]
  have hB2 : bsN S2 = r2 ++ b64L b := by rw [hS2, bsN_app2, HYB.out, hF2, bsN_strN (hc2.b8 (bsN_8 _))]
  rw [← hB2] at o2
  have HO2 := Lib.hid o2
  have HS2 := Lib.hid hs2
  have HT2 : F2 ++ Y = S2 := hS2.symm
  rw [← hF2]
  clear hb hc2 hF2 o2 l2 hB2 hs2 hS2
  go_wp2_with fail
  refine (base64_any aB lB cB b _ HLB.out.symm (by omega) HGB.out.1 HGB.out.2.2 HGB.out.2.1 HB8.out KW.out.b8).mono ?_
  rintro e w8 ⟨rfl, hb⟩
  rw [← HY.out]
  have NS := Lib.hid (NS.out.below hb)
  have HB8 := Lib.hid (HB8.out.below hb)
  have HC8 := Lib.hid (HC8.out.below hb)
  clear hb
  -- the other key in hex
  go_wp2_with fail
  refine (cased_any kyS 8 y _ rfl (by decide)).mono ?_
  rintro e w9 ⟨⟨r3, hc3, rfl⟩, hb⟩
  have NS := Lib.hid (NS.out.below hb)
  have HB8 := Lib.hid (HB8.out.below hb)
  have HC8 := Lib.hid (HC8.out.below hb)
  obtain ⟨Z, hZ⟩ : ∃ Z, Z = strN (hexL bC) := ⟨_, rfl⟩
  have hZs : Z.size = 2 * lC := by rw [hZ, strN_size, hexL_len, HLC.out]
  have hZB : bsN Z = hexL bC := by rw [hZ]; exact bsN_strN (hexL_8 KX.out.b8)
  have HZ := Lib.hid hZ
  obtain ⟨F3, hF3⟩ : ∃ F, F = strN r3 := ⟨_, rfl⟩
  obtain ⟨o3, l3⟩ := KX.out.hexo HK.out hc3
  obtain ⟨S3, hS3⟩ : ∃ S, S = F3 ++ Z := ⟨_, rfl⟩
  have hs3 : S3.size = 8 + 2 * lC := by rw [hS3, ByteArray.size_append, hF3, strN_size, l3, hZs]
  have hf3 : F3.size = 8 := by rw [hF3, strN_size, l3]
  have hB3 : bsN S3 = r3 ++ hexL bC := by rw [hS3, bsN_app2, hZB, hF3, bsN_strN (hc3.b8 (bsN_8 _))]
  rw [← hB3] at o3
  have HO3 := Lib.hid o3
  have HS3 := Lib.hid hs3
  have HT3 : F3 ++ Z = S3 := hS3.symm
  rw [← hF3]
  clear hb hc3 hF3 o3 l3 hB3 hs3 hS3 hZ hZB
  go_wp2_with fail
  refine (hex_of (b := bC) HC8.out HLC.out KX.out.b8 hlc.2 HZ.out.symm).mono ?_
  rintro e w10 ⟨rfl, hb⟩
  have NS := Lib.hid (NS.out.below hb)
  have HB8 := Lib.hid (HB8.out.below hb)
  clear hb HC8 HGC
  -- who is meant
  go_wp2_with fail
  refine (p_of_is F1 (8 + 2 * lB) _ HS1.out (by omega) NS.out.hh NS.out.bb HO1.out).mono ?_
  have HTW : Hid (strN (keyW ++ hexL b) = TS) := by show _ = _; rw [← strN_app, HTS.out, HX.out]; rfl
  rw [HTW.out, ← HNN.out, ← HNE.out]
  rintro e w11 ⟨hb, a1, c1, a2, c2, rfl, hsp⟩
  have NS := Lib.hid (NS.out.rows hb hsp)
  have NS := Lib.hid (NS.out.box [.int .i64 2, .string TS, .slice a1 nN c1, .slice a2 nE c2])
  have HB8 := Lib.hid ((HB8.out.below hb).below ((Below.refl _ _).alloc (Nat.le_refl _) (.cells #[.int .i64 2, .string TS, .slice a1 nN c1, .slice a2 nE c2] 27)))
  clear hb hsp
  go_wp2_with fail
  refine (p_of_is S2 (11 + q6) _ HS2.out (by omega) NS.out.hh NS.out.bb HO2.out).mono ?_
  rw [HTW.out, ← HNN.out, ← HNE.out]
  rintro e w12 ⟨hb, a3, c3, a4, c4, rfl, hsp⟩
  have NS := Lib.hid (NS.out.rows hb hsp)
  have NS := Lib.hid (NS.out.box [.int .i64 2, .string TS, .slice a3 nN c3, .slice a4 nE c4])
  have HB8 := Lib.hid ((HB8.out.below hb).below ((Below.refl _ _).alloc (Nat.le_refl _) (.cells #[.int .i64 2, .string TS, .slice a3 nN c3, .slice a4 nE c4] 27)))
  clear hb hsp
  obtain ⟨g, hg⟩ : ∃ g, g = w11.heap.size := ⟨_, rfl⟩
  obtain ⟨h, hh⟩ : ∃ h, h = w12.heap.size := ⟨_, rfl⟩
  go_upto_region 9 with fail
  rw [← hg, ← hh]
  rw [← hg, ← hh] at NS
  generalize w12.alloc (.cells #[.int .i64 2, .string TS, .slice a3 nN c3, .slice a4 nE c4] 27) = W0 at *
  clear hg hh
  have NS := Lib.hid (NS.out.below (Below.refl _ _).drew)
  have HB8 := Lib.hid (HB8.out.below (Below.refl _ _).drew)
  have hnb : nN ≤ 1048576 ∧ nE ≤ 1048576 := by rw [HNN.out, HNE.out]; have := kn_bd i HI.out; omega
  have e1 : (TS.toList == TS.toList) = true := by simp
  have e2 : (TS.toList != TS.toList) = false := by simp
  have hcc : ¬ 9223372036854775807 < 8 + 2 * lB := by omega
  have hcx : ¬ 9223372036854775807 < 8 + X.size := by omega
  clear hf2 hf3 hYs hZs hTs
  go_region_held3 (fun W => W.cell? ⟨g, 0, none⟩ = some (.int .i64 2) ∧ W.cell? ⟨g, 1, none⟩ = some (.string TS) ∧ W.cell? ⟨g, 2, none⟩ = some (.slice a1 nN c1) ∧ W.cell? ⟨g, 3, none⟩ = some (.slice a2 nE c2) ∧ W.cell? ⟨h, 0, none⟩ = some (.int .i64 2) ∧ W.cell? ⟨h, 1, none⟩ = some (.string TS) ∧ W.cell? ⟨h, 2, none⟩ = some (.slice a3 nN c3) ∧ W.cell? ⟨h, 3, none⟩ = some (.slice a4 nE c4))
    (first | exact ⟨(NS.out.get (g := g) (a := .int .i64 2) (b := .string TS) (c := .slice a1 nN c1) (d := .slice a2 nE c2) (by simp)).1, (NS.out.get (g := g) (a := .int .i64 2) (b := .string TS) (c := .slice a1 nN c1) (d := .slice a2 nE c2) (by simp)).2.1, (NS.out.get (g := g) (a := .int .i64 2) (b := .string TS) (c := .slice a1 nN c1) (d := .slice a2 nE c2) (by simp)).2.2.1, (NS.out.get (g := g) (a := .int .i64 2) (b := .string TS) (c := .slice a1 nN c1) (d := .slice a2 nE c2) (by simp)).2.2.2, (NS.out.get (g := h) (a := .int .i64 2) (b := .string TS) (c := .slice a3 nN c3) (d := .slice a4 nE c4) (by simp)).1, (NS.out.get (g := h) (a := .int .i64 2) (b := .string TS) (c := .slice a3 nN c3) (d := .slice a4 nE c4) (by simp)).2.1, (NS.out.get (g := h) (a := .int .i64 2) (b := .string TS) (c := .slice a3 nN c3) (d := .slice a4 nE c4) (by simp)).2.2.1, (NS.out.get (g := h) (a := .int .i64 2) (b := .string TS) (c := .slice a3 nN c3) (d := .slice a4 nE c4) (by simp)).2.2.2⟩)
    (first
      | (go_at_call 88; (with_reducible refine (hex_of (b := b) HB8.out HLB.out KW.out.b8 hlb.2 HX.out.symm).mono ?_)
         rintro e w13 ⟨rfl, hb⟩
         have NS := Lib.hid (NS.out.below hb)
         have HB8 := Lib.hid (HB8.out.below hb)
         clear hb)
      | (go_at_call 14; (with_reducible refine (samepri_any 2 TS a1 nN c1 a2 nE c2 a3 c3 a4 c4 (knL i) (keL i) _ HNN.out.symm hnb.1 HNE.out.symm hnb.2 (NS.out.rd (n := nN) (c := c1) (by simp)) (NS.out.rd (n := nE) (c := c2) (by simp)) (NS.out.rd (n := nN) (c := c3) (by simp)) (NS.out.rd (n := nE) (c := c4) (by simp))).mono ?_)
         rintro e w14 ⟨rfl, hb⟩
         have NS := Lib.hid (NS.out.below hb)
         have HB8 := Lib.hid (HB8.out.below hb)
         clear hb)
      | (go_at_call 30; (with_reducible refine (r8keys _).mono ?_)
         rintro e w15 ⟨hb, a5, b5, c5, d5, p5, q5, u5, v5, rfl, hks⟩
         obtain ⟨vN, vE, oN, oE, hix⟩ := pick4K hks i HI.out
         obtain ⟨aN, cN, rfl, rN⟩ := own64.form oN
         obtain ⟨aE, cE, rfl, rE⟩ := own64.form oE
         rw [← HNN.out, ← HNE.out] at hix
         have NS := Lib.hid (NS.out.below hb)
         have HB8 := Lib.hid (HB8.out.below hb)
         have HRN := Lib.hid rN
         have HRE := Lib.hid rE
         clear hb hks oN oE rN rE)
      | (go_at_call 46; (with_reducible refine (samekey_any a1 nN c1 a2 nE c2 aN cN aE cE (knL i) (keL i) _ HNN.out.symm hnb.1 HNE.out.symm hnb.2 (NS.out.rd (n := nN) (c := c1) (by simp)) (NS.out.rd (n := nE) (c := c2) (by simp)) HRN.out HRE.out).mono ?_)
         rintro e w16 ⟨rfl, hb⟩
         have NS := Lib.hid (NS.out.below hb)
         have HB8 := Lib.hid (HB8.out.below hb)
         clear hb))
  obtain ⟨vb, hvb⟩ : ∃ v, v = decide (i = k) := ⟨_, rfl⟩
  have HVB := Lib.hid hvb
  have e5 : ((i : Int) == (k : Int)) = vb := by
    rw [hvb]
    by_cases hik : i = k
    · subst hik; simp
    · rw [decide_eq_false hik]; simp; omega
  have e6 : (vb == vb) = true := by simp
  clear hvb
  go_wp2_with fail
  refine (p_same_is (v := true) F1 S2 (8 + 2 * lB) (11 + q6) _ HS1.out (by omega) HS2.out (by omega) NS.out.hh NS.out.bb (by have := KW.out.same_t KW.out HI.out HI.out HO1.out HO2.out; rwa [decide_eq_true rfl] at this)).mono ?_
  rintro e w17 ⟨rfl, hb⟩
  have NS := Lib.hid (NS.out.below hb)
  clear hb
  go_wp2_with fail
  refine (p_same_is (v := vb) S2 S3 (11 + q6) (8 + 2 * lC) _ HS2.out (by omega) HS3.out (by omega) NS.out.hh NS.out.bb (by rw [HVB.out]; exact KW.out.same_t KX.out HI.out HK.out HO2.out HO3.out)).mono ?_
  rintro e w18 ⟨rfl, hb⟩
  have NS := Lib.hid (NS.out.below hb)
  clear hb
  go_wp2_with fail
  refine (p_same_is (v := false) F1 polS (8 + 2 * lB) 6 _ HS1.out (by omega) rfl (by decide) NS.out.hh NS.out.bb (KW.out.same_p HO1.out)).mono ?_
  rintro e w19 ⟨rfl, hb⟩
  have NS := Lib.hid (NS.out.below hb)
  clear hb
  go_wp2_with fail
  refine (works9 _ NS.out.hh NS.out.bb).mono ?_
  rintro e w20 ⟨rfl, hb⟩
  have NS := Lib.hid (NS.out.below hb)
  clear hb
  go_wp2
  go_ret
  exact ⟨rfl, NS.out.bl⟩
end Go.Proofs.YtaookoejdnkkoaaGreatDoor
