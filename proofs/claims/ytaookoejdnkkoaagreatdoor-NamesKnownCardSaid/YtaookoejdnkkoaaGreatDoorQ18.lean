import Derived.Test.YtaookoejdnkkoaaGreatDoorQ17
import Derived.Test.YtaookoejdnkkoaaGreatDoorQ03
namespace Go.Proofs.YtaookoejdnkkoaaGreatDoor
open Go.RowKit

/-! The program's words: whose key it is. -/
theorem sep00 (w : World) (B : Nat) : Sep w B [rw64 (.slice none 0 0) [], rw64 (.slice none 0 0) []] := by
  refine ⟨fun r hr => ?_, List.pairwise_cons.2 ⟨(fun r hr k hk => by cases hk), List.pairwise_cons.2 ⟨(fun r hr => by cases hr), List.Pairwise.nil⟩⟩⟩
  simp only [List.mem_cons, List.mem_nil_iff, or_false] at hr
  rcases hr with rfl | rfl <;> exact World.ownsRow_nil _ _ _ _
/-- A key is told, or why there is none. -/
def KeyP (Q : Int → List Nat → List Nat → Prop) (w : World) (e : Ending) (w' : World) : Prop :=
  Below w.heap.size w w' ∧ ∃ a1 c1 N a2 c2 E k, e = .returned (.tuple #[.agg #[.slice a1 (List.length N) c1, .slice a2 (List.length E) c2], .int .i64 k]) ∧ Sep w' w.heap.size [rw64 (.slice a1 (List.length N) c1) N, rw64 (.slice a2 (List.length E) c2) E] ∧ N.length ≤ 128 ∧ E.length ≤ 128 ∧ Q k N E
theorem KeyP.none {Q : Int → List Nat → List Nat → Prop} {w w' : World} {k : Int} (hb : Below w.heap.size w w') (h : Q k [] []) : KeyP Q w (.returned (.tuple #[.agg #[.slice none 0 0, .slice none 0 0], .int .i64 k])) w' :=
  ⟨hb, Option.none, 0, [], Option.none, 0, [], k, rfl, sep00 _ _, by decide, by decide, h⟩
def KofQ (a en d : List Nat) (k : Int) (N E : List Nat) : Prop := (a ≠ rsaW ∧ k = 90 ∧ N = [] ∧ E = []) ∨ (a = rsaW ∧ GotTells en d k N E)
set_option maxHeartbeats 2000000 in
set_option maxRecDepth 100000 in
theorem p_keyOf (f a en d : ByteArray) (F : Value) (m : Nat) (w : World) (hm : d.size = m) (hbig : m ≤ 1099511627776) (hF : IsRd (bsN en) F) (hH : HT w) (hB : BT w) :
    Calls Tryz.prog 86 #[.agg #[.string f, .string a, .string en, F, .string d]] w (KeyP (KofQ (bsN a) (bsN en) (bsN d)) w) := by
  obtain ⟨W0, hW0⟩ : ∃ W0, W0 = (w.alloc (CodO f a en d F)).alloc (KO (.slice none 0 0) (.slice none 0 0)) := ⟨_, rfl⟩
  have hb0 : Below w.heap.size w W0 := by rw [hW0]; exact ((Below.refl _ _).alloc (Nat.le_refl _) _).alloc (by simp) _
  have hz0 : CB W0 25 (w.heap.size + 1) [.slice none 0 0, .slice none 0 0] := by
    rw [hW0]
    have := CB.new (w.alloc (CodO f a en d F)) 25 [.slice none 0 0, .slice none 0 0]
    rwa [show (w.alloc (CodO f a en d F)).heap.size = w.heap.size + 1 by simp] at this
  have hc0 : CB W0 62 w.heap.size [.string f, .string a, .string en, F, .string d] := by
    rw [hW0]; exact (CB.new w 62 [.string f, .string a, .string en, F, .string d]).alloc _
  have HH := Lib.hid (hH.below hb0)
  have HB := Lib.hid (hB.below hb0)
  have HW := Lib.hid hb0
  have HZ := Lib.hid hz0
  have HC := Lib.hid hc0
  have HS0 : Hid (w.heap.size < W0.heap.size ∧ w.heap.size + 1 < W0.heap.size) := ⟨hc0.lt, hz0.lt⟩
  have HR := Lib.hid hF
  have HWW := Lib.hid hW0
  clear hH hB hb0 hz0 hc0 hF
  by_cases ha : bsN a = rsaW
  · have y1 : (a.toList == [114, 115, 97]) = true := by rw [beq_lit, ha]; decide
    have HA := Lib.hid ha
    clear ha
    rcases HR.out with ⟨_, rfl⟩ | ⟨_, rfl⟩
    all_goals
      go_enter Tryz.func86, Tryz.ntmps86
      go_wp2_with fail
      rw [← HWW.out]
      clear HWW
      refine (p_bytes f a en d _ m _ hm hbig HR.out HH.out HB.out).mono ?_
      rintro e w1 ⟨hb1, a1, c1, k1, b, rfl, ho, ht, h4, h5, h6, h7, h8⟩
      have HZ := Lib.hid (HZ.out.below hb1)
      have HW := Lib.hid (HW.out.trans (hb1.mono HW.out.size))
      have HT := Lib.hid ht
      have H6 := Lib.hid h6
      have H7 := Lib.hid h7
      have h8b : b.length ≤ m := by rw [← hm, ← bsN_len]; exact h4
      have hzl : w.heap.size + 1 < w1.heap.size := HZ.out.lt
      obtain ⟨n, hn⟩ : ∃ n, n = b.length := ⟨_, rfl⟩
      have HN := Lib.hid hn
      rw [← hn] at h5 h8b ⊢
      clear hb1 ho ht h4 h6 h7 hn
      rcases HT.out.kinds with rfl | ⟨rfl, rfl⟩
      · go_wp2_with fail
        refine (decode_any a1 n c1 b _ HN.out.symm (by omega) h5 h8 H7.out HT.out.b8 H6.out).mono ?_
        rintro e w2 ⟨hb2, a2, c2, N, a3, c3, E, k2, rfl, hsp, hn1, hn2, hK⟩
        have HZ := Lib.hid (HZ.out.below hb2)
        have HW := Lib.hid (HW.out.trans (hb2.mono HW.out.size))
        have HSP := Lib.hid hsp
        have HK := Lib.hid hK
        have hzl2 : w.heap.size + 1 < w2.heap.size := HZ.out.lt
        obtain ⟨⟨z0, z1⟩, f0, f1⟩ := HZ.out.two
        obtain ⟨nN, hnN⟩ : ∃ n, n = N.length := ⟨_, rfl⟩
        obtain ⟨nE, hnE⟩ : ∃ n, n = E.length := ⟨_, rfl⟩
        rw [← hnN] at HSP hn1
        rw [← hnE] at HSP hn2
        rw [← hnN, ← hnE]
        have HNN := Lib.hid hnN
        have HNE := Lib.hid hnE
        clear hb2 hsp hK hnN hnE
        by_cases hk3 : k2 = 3
        · subst hk3
          have HP : Hid (KofQ (bsN a) (bsN en) (bsN d) 3 [] []) := .inr ⟨HA.out, 0, b, HT.out, .inr ⟨rfl, 3, N, E, HK.out, .inl ⟨by decide, by decide, rfl, rfl⟩⟩⟩
          go_wp2
          first
            | refine bodyPost_ret (results_cbT rfl rfl rfl ((HZ.out.set2 _ _).alloc _) Tryz.underlying25 infoKy) rfl ?_
              exact KeyP.none ((below_set2 HW.out (by omega) _ _).alloc (by simp; omega) _) HP.out
            | refine bodyPost_ret (results_cbT rfl rfl rfl ((HZ.out.alloc _).set2 _ _) Tryz.underlying25 infoKy) rfl ?_
              exact KeyP.none (below_set2 (HW.out.alloc (by omega) _) (by omega) _ _) HP.out
        · by_cases hk0 : k2 = 0
          · subst hk0
            have hnum := HK.out.2.1 rfl
            have g1 : Raw w2 (.slice a2 nN c2) (val N) := own_raw (show OwnL w2 w1.heap.size (.slice a2 nN c2) N from HSP.out.1 (rw64 (.slice a2 nN c2) N) (by simp)) hnum.1.bd (by rw [← HNN.out]; omega)
            have g2 : Raw w2 (.slice a3 nE c3) (val E) := own_raw (show OwnL w2 w1.heap.size (.slice a3 nE c3) E from HSP.out.1 (rw64 (.slice a3 nE c3) E) (by simp)) hnum.2.bd (by rw [← HNE.out]; omega)
            have G1 := Lib.hid (And.intro g1 g2)
            obtain ⟨W2, hW2⟩ : ∃ W2, W2 = w2.alloc (KO (.slice a2 nN c2) (.slice a3 nE c3)) := ⟨_, rfl⟩
            have hb2 : Below w2.heap.size w2 W2 := by rw [hW2]; exact (Below.refl _ _).alloc (Nat.le_refl _) _
            have HKB : Hid (CB W2 25 w2.heap.size [.slice a2 nN c2, .slice a3 nE c3]) := by show CB _ _ _ _; rw [hW2]; exact CB.new _ _ _
            have HZ := Lib.hid (HZ.out.below hb2)
            have HW := Lib.hid (HW.out.trans (hb2.mono HW.out.size))
            have HSP := Lib.hid (HSP.out.belowS hb2)
            have G2 := Lib.hid (And.intro (G1.out.1.below hb2) (G1.out.2.below hb2))
            have HWW := Lib.hid hW2
            clear hnum g1 g2 G1 hb2 hW2
            go_wp2_with fail
            rw [← HWW.out]
            refine (p_check G2.out.1 G2.out.2).mono ?_
            rintro e w3 ⟨hb3, ⟨hok, rfl⟩ | ⟨hok, rfl⟩⟩
            · have HZ := Lib.hid (HZ.out.below hb3)
              have HW := Lib.hid (HW.out.trans (hb3.mono HW.out.size))
              have HSP := Lib.hid (HSP.out.belowS hb3)
              have HOK := Lib.hid hok
              obtain ⟨⟨z0, z1⟩, f0, f1⟩ := HZ.out.two
              obtain ⟨⟨y0, y1⟩, -⟩ := (HKB.out.below hb3).two
              clear hb3 hok HWW
              go_wp2
              refine bodyPost_ret (results_cbT rfl rfl rfl (HZ.out.set2 _ _) Tryz.underlying25 infoKy) rfl ?_
              refine ⟨below_set2 HW.out (by omega) _ _, a2, c2, N, a3, c3, E, 0, ?_, ?_, by rw [← HNN.out]; exact hn1, by rw [← HNE.out]; exact hn2, .inr ⟨HA.out, 0, b, HT.out, .inr ⟨rfl, 0, N, E, HK.out, .inr (.inr ⟨rfl, HOK.out, rfl, rfl, rfl⟩)⟩⟩⟩
              · rw [← HNN.out, ← HNE.out]; rfl
              · rw [← HNN.out, ← HNE.out]
                exact ((HSP.out.setLow hzl _).setLow hzl _).base (by omega)
            · have HP : Hid (KofQ (bsN a) (bsN en) (bsN d) 80 [] []) := .inr ⟨HA.out, 0, b, HT.out, .inr ⟨rfl, 0, N, E, HK.out, .inr (.inl ⟨rfl, hok, rfl, rfl, rfl⟩)⟩⟩
              have HZ := Lib.hid (HZ.out.below hb3)
              have HW := Lib.hid (HW.out.trans (hb3.mono HW.out.size))
              obtain ⟨⟨z0, z1⟩, f0, f1⟩ := HZ.out.two
              clear hb3 hok HWW
              go_wp2
              refine bodyPost_ret (results_cbT rfl rfl rfl (HZ.out.set2 _ _) Tryz.underlying25 infoKy) rfl ?_
              exact KeyP.none (below_set2 HW.out (by omega) _ _) HP.out
          · have HP : Hid (KofQ (bsN a) (bsN en) (bsN d) 92 [] []) := .inr ⟨HA.out, 0, b, HT.out, .inr ⟨rfl, k2, N, E, HK.out, .inl ⟨hk0, (if_neg hk3).symm, rfl, rfl⟩⟩⟩
            have hq3 : (k2 == 3) = false := by simp [hk3]
            have hq0 : (k2 != 0) = true := by simp [hk0]
            clear hk3 hk0
            go_wp2
            first
              | refine bodyPost_ret (results_cbT rfl rfl rfl ((HZ.out.set2 _ _).alloc _) Tryz.underlying25 infoKy) rfl ?_
                exact KeyP.none ((below_set2 HW.out (by omega) _ _).alloc (by simp; omega) _) HP.out
              | refine bodyPost_ret (results_cbT rfl rfl rfl ((HZ.out.alloc _).set2 _ _) Tryz.underlying25 infoKy) rfl ?_
                exact KeyP.none (below_set2 (HW.out.alloc (by omega) _) (by omega) _ _) HP.out
      · obtain ⟨⟨z0, z1⟩, f0, f1⟩ := HZ.out.two
        go_wp2
        refine bodyPost_ret (results_cbT rfl rfl rfl (HZ.out.set2 _ _) Tryz.underlying25 infoKy) rfl ?_
        exact KeyP.none (below_set2 HW.out (by omega) _ _) (.inr ⟨HA.out, 91, [], HT.out, .inl ⟨by decide, rfl, rfl, rfl⟩⟩)
  · have y1 : (a.toList == [114, 115, 97]) = false := by rw [beq_lit]; exact decide_eq_false ha
    have HP : Hid (KofQ (bsN a) (bsN en) (bsN d) 90 [] []) := .inl ⟨ha, rfl, rfl, rfl⟩
    clear ha
    rcases HR.out with ⟨_, rfl⟩ | ⟨_, rfl⟩
    all_goals
      go_enter Tryz.func86, Tryz.ntmps86
      go_wp2
      rw [← HWW.out]
      refine bodyPost_ret (results_cbT rfl rfl rfl HZ.out Tryz.underlying25 infoKy) rfl ?_
      exact KeyP.none HW.out HP.out

/-! The program's words: who holds a key. -/
theorem keyW_8 : B8 keyW := fun x hx => by simp [keyW] at hx; omega
theorem GotTells.err {e d N E : List Nat} {k : Int} (h : GotTells e d k N E) (hk : k ≠ 0) : N = [] ∧ E = [] := by
  obtain ⟨k1, b, h1, ⟨_, _, h2⟩ | ⟨_, k2, M, F, _, ⟨_, _, h2⟩ | ⟨_, _, _, h2⟩ | ⟨_, _, h2, _⟩⟩⟩ := h
  · exact h2
  · exact h2
  · exact h2
  · exact absurd h2 hk
/-- Who is meant, and the error. -/
def PriP (Q : Int → Int → List Nat → List Nat → List Nat → Prop) (w : World) (e : Ending) (w' : World) : Prop :=
  Below w.heap.size w w' ∧ ∃ kind T a1 c1 N a2 c2 E k, e = .returned (.tuple #[.agg #[.int .i64 kind, .string (strN T), .slice a1 (List.length N) c1, .slice a2 (List.length E) c2], .int .i64 k]) ∧
    Sep w' w.heap.size [rw64 (.slice a1 (List.length N) c1) N, rw64 (.slice a2 (List.length E) c2) E] ∧ N.length ≤ 128 ∧ E.length ≤ 128 ∧ B8 T ∧ T.length ≤ 70000 ∧ Q k kind T N E
theorem PriP.none {Q : Int → Int → List Nat → List Nat → List Nat → Prop} {w w' : World} {k kind : Int} {s : ByteArray} (hb : Below w.heap.size w w') (hs : s.size ≤ 70000) (h : Q k kind (bsN s) [] []) : PriP Q w (.returned (.tuple #[.agg #[.int .i64 kind, .string s, .slice none 0 0, .slice none 0 0], .int .i64 k])) w' :=
  ⟨hb, kind, bsN s, Option.none, 0, [], Option.none, 0, [], k, by rw [strN_bsN]; rfl, sep00 _ _, by decide, by decide, bsN_8 s, by rw [bsN_len]; exact hs, h⟩
def KeydQ (a en d : List Nat) (k kind : Int) (T N E : List Nat) : Prop :=
  (a ≠ rsaW ∧ k = 90 ∧ kind = 0 ∧ T = [] ∧ N = [] ∧ E = []) ∨ (a = rsaW ∧ GotTells en d k N E ∧ ((k ≠ 0 ∧ kind = 0 ∧ T = []) ∨ (k = 0 ∧ kind = 2 ∧ ∃ c, KeyB (val N) (val E) c ∧ T = keyW ++ hexL c)))
set_option maxHeartbeats 2000000 in
set_option maxRecDepth 100000 in
theorem p_keyed (f a en d : ByteArray) (F : Value) (m : Nat) (w : World) (hm : d.size = m) (hbig : m ≤ 1099511627776) (hF : IsRd (bsN en) F) (hH : HT w) (hB : BT w) :
    Calls Tryz.prog 39 #[.agg #[.string f, .string a, .string en, F, .string d]] w (PriP (KeydQ (bsN a) (bsN en) (bsN d)) w) := by
  obtain ⟨W0, hW0⟩ : ∃ W0, W0 = (w.alloc (CodO f a en d F)).alloc (.cells pri0.toArray 27) := ⟨_, rfl⟩
  have hb0 : Below w.heap.size w W0 := by rw [hW0]; exact ((Below.refl _ _).alloc (Nat.le_refl _) _).alloc (by simp) _
  have hz0 : CB W0 27 (w.heap.size + 1) pri0 := by
    rw [hW0]
    have := CB.new (w.alloc (CodO f a en d F)) 27 pri0
    rwa [show (w.alloc (CodO f a en d F)).heap.size = w.heap.size + 1 by simp] at this
  have hzl : w.heap.size + 1 < W0.heap.size := hz0.lt
  have HH := Lib.hid (hH.below hb0)
  have HB := Lib.hid (hB.below hb0)
  have HW := Lib.hid hb0
  have HZ := Lib.hid hz0
  have HR := Lib.hid hF
  have HWW := Lib.hid hW0
  clear hH hB hb0 hz0 hF
  rcases HR.out with ⟨_, rfl⟩ | ⟨_, rfl⟩
  all_goals
    go_enter Tryz.func39, Tryz.ntmps39
    go_wp2_with fail
    rw [← HWW.out]
    clear HWW hW0
    refine (p_keyOf f a en d _ m _ hm hbig HR.out HH.out HB.out).mono ?_
    rintro e w1 ⟨hb1, a1, c1, N, a2, c2, E, k, rfl, hsp, hn1, hn2, hQ⟩
    have HZ := Lib.hid (HZ.out.below hb1)
    have HW := Lib.hid (HW.out.trans (hb1.mono HW.out.size))
    have HSP := Lib.hid hsp
    have HQ := Lib.hid hQ
    have hzl2 : w.heap.size + 1 < w1.heap.size := HZ.out.lt
    obtain ⟨⟨z0, z1, z2, z3⟩, f0, f1, f2, f3⟩ := HZ.out.four
    obtain ⟨nN, hnN⟩ : ∃ n, n = N.length := ⟨_, rfl⟩
    obtain ⟨nE, hnE⟩ : ∃ n, n = E.length := ⟨_, rfl⟩
    rw [← hnN] at HSP hn1
    rw [← hnE] at HSP hn2
    rw [← hnN, ← hnE]
    have HNN := Lib.hid hnN
    have HNE := Lib.hid hnE
    clear hb1 hsp hQ hnN hnE
    by_cases hk : k = 0
    · subst hk
      rcases HQ.out with ⟨_, h, _⟩ | ⟨ha, hgot⟩
      · omega
      · obtain ⟨hok, hN, hE⟩ := hgot.key
        have HA := Lib.hid ha
        have HG := Lib.hid hgot
        have HOK := Lib.hid hok
        have HNU := Lib.hid (And.intro hN hE)
        obtain ⟨W1, hW1⟩ : ∃ W1, W1 = w1.alloc (KO (.slice a1 nN c1) (.slice a2 nE c2)) := ⟨_, rfl⟩
        have hb2 : Below w1.heap.size w1 W1 := by rw [hW1]; exact (Below.refl _ _).alloc (Nat.le_refl _) _
        have HKB : Hid (CB W1 25 w1.heap.size [.slice a1 nN c1, .slice a2 nE c2]) := by show CB _ _ _ _; rw [hW1]; exact CB.new _ _ _
        have HZ := Lib.hid (HZ.out.below hb2)
        have HW := Lib.hid (HW.out.trans (hb2.mono HW.out.size))
        have HSP := Lib.hid (HSP.out.belowS hb2)
        have HWW := Lib.hid hW1
        have o1 : own64 W1 W0.heap.size (.slice a1 nN c1) N := by have := HSP.out.1 (rw64 (.slice a1 nN c1) N) (by simp); exact this
        have o2 : own64 W1 W0.heap.size (.slice a2 nE c2) E := by have := HSP.out.1 (rw64 (.slice a2 nE c2) E) (by simp); exact this
        have R1 := Lib.hid (own64.rd o1).2
        have R2 := Lib.hid (own64.rd o2).2
        have r1 : nN ≤ c1 := by have h := o1; rw [HNN.out] at h ⊢; exact (own64.room h).1
        have r2 : nE ≤ c2 := by have h := o2; rw [HNE.out] at h ⊢; exact (own64.room h).1
        clear ha hgot hok hN hE hb2 hW1 o1 o2 z0 z1 z2 z3 f0 f1 f2 f3
        go_wp2_with fail
        rw [← HWW.out]
        clear HWW
        refine (encode_any a1 nN c1 N a2 nE c2 E _ HNN.out.symm (by omega) r1 R1.out HNU.out.1.bd HNE.out.symm (by omega) r2 R2.out HNU.out.2.bd).mono ?_
        rintro e w2 ⟨hb2, a3, c3, k3, b, rfl, hown, hen⟩
        rcases hen with ⟨_, _, rfl, hkb⟩ | ⟨hno, _, _⟩
        · have hbl := (hkb.len HOK.out.lims.1 HOK.out.lims.2).2
          have hb8 := hkb.b8
          have hrd := (own8_rd2x hown).1
          have HZ := Lib.hid (HZ.out.below hb2)
          have HKB := Lib.hid (HKB.out.below hb2)
          have HW := Lib.hid (HW.out.trans (hb2.mono HW.out.size))
          have HSP := Lib.hid (HSP.out.belowS hb2)
          have HB8 := Lib.hid hb8
          have HRD : Hid (Rd .u8 w2.drew a3 b) := hrd
          have HKY := Lib.hid hkb
          obtain ⟨nb, hnb⟩ : ∃ n, n = b.length := ⟨_, rfl⟩
          have HNB := Lib.hid hnb
          rw [← hnb] at hbl ⊢
          obtain ⟨X, hX⟩ : ∃ X, X = strN (hexL b) := ⟨_, rfl⟩
          have hXs : X.size = 2 * nb := by rw [hX, strN_size, hexL_len, HNB.out]
          have HXE := Lib.hid hX
          have hzl3 : w.heap.size + 1 < w2.heap.size := HZ.out.lt
          obtain ⟨⟨k0, k1⟩, -⟩ := HKB.out.two
          have hsum : ¬ (9223372036854775807 < 8 + X.size) := by omega
          have hsum2 : ¬ (9223372036854775807 < 8 + 2 * nb) := by omega
          clear hb8 hrd hkb hnb hX hown hb2
          go_wp2
          go_region_with (go_at_call 88; refine (hex_any a3 nb c3 b _ HNB.out.symm (by omega) HRD.out HB8.out).mono ?_; rintro e w4 ⟨rfl, hb4⟩; rw [← HXE.out]; obtain ⟨⟨z0, z1, z2, z3⟩, f0, f1, f2, f3⟩ := (HZ.out.below (below_drw hb4)).four; obtain ⟨⟨y0, y1⟩, -⟩ := (HKB.out.below (below_drw hb4)).two)
          all_goals
            go_wp2
            refine bodyPost_ret (results_cbT rfl rfl rfl ((HZ.out.below (below_drw hb4)).set4 _ _ _ _) Tryz.underlying27 infoPri) rfl ?_
            refine ⟨below_set4 (HW.out.trans ((below_drw hb4).mono HW.out.size)) (by omega) _ _ _ _, 2, keyW ++ hexL b, a1, c1, N, a2, c2, E, 0, ?_, ?_, by rw [← HNN.out]; exact hn1, by rw [← HNE.out]; exact hn2, b8_app keyW_8 (hexL_8 HB8.out), ?_, .inr ⟨HA.out, HG.out, .inr ⟨rfl, rfl, b, HKY.out, rfl⟩⟩⟩
            · rw [← HNN.out, ← HNE.out, ← strN_app, ← HXE.out]; rfl
            · rw [← HNN.out, ← HNE.out]
              exact ((((HSP.out.belowS (below_drw hb4)).setLow hzl _).setLow hzl _).setLow hzl _ |>.setLow hzl _).base (by omega)
            · have := HNB.out
              simp [keyW, hexL_len]; omega
        · exact absurd HOK.out.lims hno
    · have hkk : (k != 0) = true := by simp [hk]
      have HP : Hid (KeydQ (bsN a) (bsN en) (bsN d) k 0 [] [] []) := by
        rcases HQ.out with ⟨ha, h, rfl, rfl⟩ | ⟨ha, hgot⟩
        · exact .inl ⟨ha, h, rfl, rfl, rfl, rfl⟩
        · obtain ⟨rfl, rfl⟩ := hgot.err hk
          exact .inr ⟨ha, hgot, .inl ⟨hk, rfl, rfl⟩⟩
      clear hk
      go_wp2
      refine bodyPost_ret (results_cbT rfl rfl rfl ((HZ.out.set4 _ _ _ _).alloc _) Tryz.underlying27 infoPri) rfl ?_
      exact PriP.none (s := ⟨#[]⟩) ((below_set4 HW.out (by omega) _ _ _ _).alloc (by simp; omega) _) (by decide) HP.out

/-! The program's words: who is meant. -/
set_option maxHeartbeats 4000000 in
set_option maxRecDepth 100000 in
theorem p_of (s : ByteArray) (n : Nat) (w : World) (hn : s.size = n) (hbig : n ≤ 1099511627776) (hH : HT w) (hB : BT w) :
    Calls Tryz.prog 10 #[.string s] w (PriP (OfTells (bsN s)) w) := by
  have hl : (bsN s).length = n := by rw [bsN_len, hn]
  have h8 := bsN_8 s
  obtain ⟨W0, hW0⟩ : ∃ W0, W0 = w.alloc (.cells pri0.toArray 27) := ⟨_, rfl⟩
  have hb0 : Below w.heap.size w W0 := by rw [hW0]; exact (Below.refl _ _).alloc (Nat.le_refl _) _
  have hz0 : CB W0 27 w.heap.size pri0 := by rw [hW0]; exact CB.new w _ _
  have HZ := Lib.hid hz0
  have HW := Lib.hid hb0
  have HWW := Lib.hid hW0
  have HL := Lib.hid hl
  have H8 := Lib.hid h8
  have HH := Lib.hid (hH.below hb0)
  have HB := Lib.hid (hB.below hb0)
  have hzl : w.heap.size < W0.heap.size := hz0.lt
  clear hl h8 hH hB hz0 hb0 hW0
  by_cases hlim : 65536 < n
  · have hq : decide ((65536 : Int) < (n : Int)) = true := decide_eq_true (by omega)
    go_enter Tryz.func10, Tryz.ntmps10
    go_wp2
    rw [← HWW.out]
    refine bodyPost_ret (results_cbT rfl rfl rfl HZ.out Tryz.underlying27 infoPri) rfl ?_
    exact PriP.none (s := ⟨#[]⟩) HW.out (by decide) (.inl ⟨by rw [HL.out]; exact hlim, rfl, rfl, rfl, rfl, rfl⟩)
  · have hq : decide ((65536 : Int) < (n : Int)) = false := decide_eq_false (by omega)
    have HLIM : Hid ((bsN s).length ≤ 65536) := by show _ ≤ _; rw [HL.out]; omega
    have hn70 : s.size ≤ 70000 := by omega
    clear hlim
    by_cases hp : bsN s = polW
    · have y1 : (s.toList == [80, 79, 76, 73, 67, 89]) = true := by rw [beq_lit, hp]; decide
      have HP := Lib.hid hp
      clear hp
      go_enter Tryz.func10, Tryz.ntmps10
      go_wp2_with fail
      rw [← HWW.out]
      clear HWW
      refine (p_keyless 3 s n _ hn hbig).mono ?_
      rintro e w1 ⟨rfl, hb⟩
      have HZ := Lib.hid (HZ.out.below hb)
      have HW := Lib.hid (HW.out.trans (hb.mono HW.out.size))
      obtain ⟨⟨z0, z1, z2, z3⟩, f0, f1, f2, f3⟩ := HZ.out.four
      clear hb
      go_wp2
      refine bodyPost_ret (results_cbT rfl rfl rfl (HZ.out.set4 _ _ _ _) Tryz.underlying27 infoPri) rfl ?_
      exact PriP.none (s := s) (below_set4 HW.out (by omega) _ _ _ _) hn70 (.inr (.inl ⟨HLIM.out, HP.out, rfl, rfl, rfl, rfl, rfl⟩))
    · have y1 : (s.toList == [80, 79, 76, 73, 67, 89]) = false := by rw [beq_lit]; exact decide_eq_false hp
      have HP := Lib.hid hp
      clear hp
      go_enter Tryz.func10, Tryz.ntmps10
      go_wp2_with fail
      rw [← HWW.out]
      clear HWW
      refine (p_apart s n _ hn hbig).mono ?_
      rintro e w1 ⟨⟨f, a, en, d, F, hnam, hF, rfl⟩ | ⟨hno, x1, x2, x3, x5, rfl⟩, hb1⟩
      · obtain ⟨h8f, h8a, h8e, h8d⟩ := nam_b8 H8.out hnam
        obtain ⟨hlen, hla⟩ := nam_lens hnam
        have hn' := HL.out
        rw [hn'] at hlen hla
        have hDs : (strN d).size = d.length := strN_size d
        have hAs : (strN a).size = a.length := strN_size a
        have HDB : Hid (bsN (strN d) = d) := bsN_strN h8d
        have HEB : Hid (bsN (strN en) = en) := bsN_strN h8e
        have HAB : Hid (bsN (strN a) = a) := bsN_strN h8a
        obtain ⟨FS, hFS⟩ : ∃ FS, FS = strN f := ⟨_, rfl⟩
        obtain ⟨A, hA⟩ : ∃ A, A = strN a := ⟨_, rfl⟩
        obtain ⟨EN, hEN⟩ : ∃ EN, EN = strN en := ⟨_, rfl⟩
        obtain ⟨D, hD⟩ : ∃ D, D = strN d := ⟨_, rfl⟩
        obtain ⟨m, hm⟩ : ∃ m, m = d.length := ⟨_, rfl⟩
        obtain ⟨q, hqa⟩ : ∃ q, q = a.length := ⟨_, rfl⟩
        rw [← hA] at HAB hAs
        rw [← hEN] at HEB
        rw [← hD] at hDs HDB
        rw [← hFS, ← hA, ← hEN, ← hD]
        rw [← hm] at hDs hlen
        rw [← hqa] at hAs hla
        have HNAM := Lib.hid hnam
        have HFR : Hid (IsRd (bsN EN) F) := by show IsRd _ _; rw [HEB.out]; exact hF
        have HZ := Lib.hid (HZ.out.below hb1)
        have HW := Lib.hid (HW.out.trans (hb1.mono HW.out.size))
        have HHB := Lib.hid (And.intro (HH.out.below hb1) (HB.out.below hb1))
        have hzl1 : w.heap.size < w1.heap.size := HZ.out.lt
        clear hb1 h8f h8a h8e h8d hFS hA hEN hD hm hqa hnam hF hn'
        obtain ⟨W1, hW1⟩ : ∃ W1, W1 = w1.alloc (CodO FS A EN D F) := ⟨_, rfl⟩
        have hb2 : Below w1.heap.size w1 W1 := by rw [hW1]; exact (Below.refl _ _).alloc (Nat.le_refl _) _
        have HC : Hid (CB W1 62 w1.heap.size [.string FS, .string A, .string EN, F, .string D]) := by show CB _ _ _ _; rw [hW1]; exact CB.new w1 _ _
        have HZ := Lib.hid (HZ.out.below hb2)
        have HW := Lib.hid (HW.out.trans (hb2.mono HW.out.size))
        have HHB := Lib.hid (And.intro (HHB.out.1.below hb2) (HHB.out.2.below hb2))
        have HWW := Lib.hid hW1
        clear hb2 hW1
        rcases HFR.out with ⟨_, rfl⟩ | ⟨_, rfl⟩
        all_goals
          go_wp2_with fail
          rw [← HWW.out]
          clear HWW
          refine (p_isalg A q _ hAs (by omega)).mono ?_
          rw [HAB.out]
          rintro e w2 ⟨⟨hpl, rfl⟩ | ⟨hpl, rfl⟩, hb2⟩
          · have HZ := Lib.hid (HZ.out.below hb2)
            have HW := Lib.hid (HW.out.trans (hb2.mono HW.out.size))
            have HHB := Lib.hid (And.intro (HHB.out.1.below hb2) (HHB.out.2.below hb2))
            obtain ⟨⟨k0, k1, k2, k3, k4⟩, -⟩ := (HC.out.below hb2).five
            have hzl2 : w.heap.size < w2.heap.size := HZ.out.lt
            have HPL := Lib.hid hpl
            clear hb2 hpl
            go_wp2_with fail
            refine (p_keyed FS A EN D _ m _ hDs (by omega) HFR.out HHB.out.1 HHB.out.2).mono ?_
            rw [HAB.out, HEB.out, HDB.out]
            rintro e w3 ⟨hb, kind, T, a1, c1, N, a2, c2, E, k, rfl, hsp, hn1, hn2, hT8, hTl, hQ⟩
            have HZ := Lib.hid (HZ.out.below hb)
            have HW := Lib.hid (HW.out.trans (hb.mono HW.out.size))
            have HSP := Lib.hid hsp
            have HQ : Hid (OfTells (bsN s) k kind T N E) := by
              rcases hQ with ⟨ha, rfl, rfl, rfl, rfl, rfl⟩ | ⟨rfl, hgot, hor⟩
              · exact .inr (.inr (.inr (.inl ⟨HLIM.out, f, a, en, d, HNAM.out, HPL.out, ha, rfl, rfl, rfl, rfl, rfl⟩)))
              · exact .inr (.inr (.inr (.inr ⟨HLIM.out, f, en, d, HNAM.out, hgot, hor⟩)))
            obtain ⟨⟨z0, z1, z2, z3⟩, f0, f1, f2, f3⟩ := HZ.out.four
            obtain ⟨nN, hnN⟩ : ∃ n, n = N.length := ⟨_, rfl⟩
            obtain ⟨nE, hnE⟩ : ∃ n, n = E.length := ⟨_, rfl⟩
            obtain ⟨TS, hTS⟩ : ∃ TS, TS = strN T := ⟨_, rfl⟩
            rw [← hnN] at HSP hn1
            rw [← hnE] at HSP hn2
            rw [← hnN, ← hnE, ← hTS]
            have HNN := Lib.hid hnN
            have HNE := Lib.hid hnE
            have HTS := Lib.hid hTS
            have HT8 := Lib.hid hT8
            clear hb hsp hQ hnN hnE hTS hT8
            go_wp2
            refine bodyPost_ret (results_cbT rfl rfl rfl (HZ.out.set4 _ _ _ _) Tryz.underlying27 infoPri) rfl ?_
            refine ⟨below_set4 HW.out (by omega) _ _ _ _, kind, T, a1, c1, N, a2, c2, E, k, ?_, ?_, by rw [← HNN.out]; exact hn1, by rw [← HNE.out]; exact hn2, HT8.out, hTl, HQ.out⟩
            · rw [← HNN.out, ← HNE.out, ← HTS.out]; rfl
            · rw [← HNN.out, ← HNE.out]
              exact ((((HSP.out.setLow hzl2 _).setLow hzl2 _).setLow hzl2 _).setLow hzl2 _).base (by omega)
          · have HZ := Lib.hid (HZ.out.below hb2)
            have HW := Lib.hid (HW.out.trans (hb2.mono HW.out.size))
            have HN : Hid (∀ f a e d, NamF (bsN s) f a e d → ¬ plainL a) := fun f' a' e' d' h => by
              obtain ⟨-, rfl, -, -⟩ := HNAM.out.one h
              exact hpl
            clear hb2 hpl
            go_wp2_with fail
            refine (p_keyless 1 s n _ hn hbig).mono ?_
            rintro e w3 ⟨rfl, hb⟩
            have HZ := Lib.hid (HZ.out.below hb)
            have HW := Lib.hid (HW.out.trans (hb.mono HW.out.size))
            obtain ⟨⟨z0, z1, z2, z3⟩, f0, f1, f2, f3⟩ := HZ.out.four
            clear hb
            go_wp2
            refine bodyPost_ret (results_cbT rfl rfl rfl (HZ.out.set4 _ _ _ _) Tryz.underlying27 infoPri) rfl ?_
            exact PriP.none (s := s) (below_set4 HW.out (by omega) _ _ _ _) hn70 (.inr (.inr (.inl ⟨HLIM.out, HP.out, HN.out, rfl, rfl, rfl, rfl, rfl⟩)))
      · have HN : Hid (∀ f a e d, NamF (bsN s) f a e d → ¬ plainL a) := fun f' a' e' d' h => absurd h (hno _ _ _ _)
        obtain ⟨W1, hW1⟩ : ∃ W1, W1 = w1.alloc (CodO x1 x2 x3 x5 .nilFunc) := ⟨_, rfl⟩
        have hb2 : Below w1.heap.size w1 W1 := by rw [hW1]; exact (Below.refl _ _).alloc (Nat.le_refl _) _
        have HZ := Lib.hid ((HZ.out.below hb1).below hb2)
        have HW := Lib.hid ((HW.out.trans (hb1.mono HW.out.size)).trans (hb2.mono (Nat.le_trans HW.out.size hb1.size)))
        have HWW := Lib.hid hW1
        clear hno hb1 hb2 hW1
        go_wp2_with fail
        rw [← HWW.out]
        clear HWW
        refine (p_keyless 1 s n _ hn hbig).mono ?_
        rintro e w3 ⟨rfl, hb⟩
        have HZ := Lib.hid (HZ.out.below hb)
        have HW := Lib.hid (HW.out.trans (hb.mono HW.out.size))
        obtain ⟨⟨z0, z1, z2, z3⟩, f0, f1, f2, f3⟩ := HZ.out.four
        clear hb
        go_wp2
        refine bodyPost_ret (results_cbT rfl rfl rfl (HZ.out.set4 _ _ _ _) Tryz.underlying27 infoPri) rfl ?_
        exact PriP.none (s := s) (below_set4 HW.out (by omega) _ _ _ _) hn70 (.inr (.inr (.inl ⟨HLIM.out, HP.out, HN.out, rfl, rfl, rfl, rfl, rfl⟩)))

/-! The program's words: Normal, Same. -/
def NormP (l : List Nat) (w : World) (e : Ending) (w' : World) : Prop :=
  Below w.heap.size w w' ∧ ∃ T k kind N E, e = .returned (.tuple #[.string (strN T), .int .i64 k]) ∧ B8 T ∧ T.length ≤ 70000 ∧ OfTells l k kind T N E
set_option maxHeartbeats 1000000 in
set_option maxRecDepth 100000 in
theorem p_normal (s : ByteArray) (n : Nat) (w : World) (hn : s.size = n) (hbig : n ≤ 1099511627776) (hH : HT w) (hB : BT w) :
    Calls Tryz.prog 11 #[.string s] w (NormP (bsN s) w) := by
  have HH := Lib.hid hH
  have HB := Lib.hid hB
  clear hH hB
  go_enter Tryz.func11, Tryz.ntmps11
  go_wp2_with fail
  refine (p_of s n _ hn hbig HH.out HB.out).mono ?_
  rintro e w1 ⟨hb, kind, T, a1, c1, N, a2, c2, E, k, rfl, hsp, hn1, hn2, hT8, hTl, hQ⟩
  obtain ⟨nN, hnN⟩ : ∃ n, n = N.length := ⟨_, rfl⟩
  obtain ⟨nE, hnE⟩ : ∃ n, n = E.length := ⟨_, rfl⟩
  obtain ⟨TS, hTS⟩ : ∃ TS, TS = strN T := ⟨_, rfl⟩
  rw [← hnN, ← hnE, ← hTS]
  have HW := Lib.hid hb
  have HT8 := Lib.hid hT8
  have HQ := Lib.hid hQ
  have HTS := Lib.hid hTS
  clear hb hsp hn1 hn2 hT8 hQ hnN hnE hTS
  go_wp2
  rw [HTS.out]
  go_ret2
  exact ⟨HW.out.alloc HW.out.size _, T, k, kind, N, E, rfl, HT8.out, hTl, HQ.out⟩
/-- Are two texts the same somebody's? -/
def SameT (l l' : List Nat) (v : Bool) : Prop :=
  (∃ k kind T N E, OfTells l k kind T N E ∧ k ≠ 0 ∧ v = false) ∨ (∃ kind T N E k' kind' T' N' E', OfTells l 0 kind T N E ∧ OfTells l' k' kind' T' N' E' ∧ v = (decide (k' = 0) && decide (T = T')))
theorem SameT.one {l l' : List Nat} {v v' : Bool} (h : SameT l l' v) (g : SameT l l' v') : v = v' := by
  rcases h with ⟨k, kd, T, N, E, h1, h2, rfl⟩ | ⟨kd, T, N, E, k', kd', T', N', E', h1, h2, rfl⟩ <;> rcases g with ⟨k2, kd2, T2, N2, E2, g1, g2, rfl⟩ | ⟨kd2, T2, N2, E2, k2', kd2', T2', N2', E2', g1, g2, rfl⟩
  · rfl
  · exact absurd (h1.one g1).1 h2
  · exact absurd (h1.one g1).1.symm g2
  · obtain ⟨_, _, rfl, _⟩ := h1.one g1
    obtain ⟨rfl, _, rfl, _⟩ := h2.one g2
    rfl
theorem str_beq {a b : List Nat} (ha : B8 a) (hb : B8 b) : ((strN a).toList == (strN b).toList) = decide (a = b) := by rw [beq_str, bsN_strN ha, bsN_strN hb]
set_option maxHeartbeats 1000000 in
set_option maxRecDepth 100000 in
theorem p_same (s t : ByteArray) (n m : Nat) (w : World) (hn : s.size = n) (hbig : n ≤ 1099511627776) (hm : t.size = m) (hbm : m ≤ 1099511627776) (hH : HT w) (hB : BT w) :
    Calls Tryz.prog 15 #[.string s, .string t] w fun e w' => (∃ v, e = .returned (.bool v) ∧ SameT (bsN s) (bsN t) v) ∧ Below w.heap.size w w' := by
  have HH := Lib.hid hH
  have HB := Lib.hid hB
  clear hH hB
  go_enter Tryz.func15, Tryz.ntmps15
  go_wp2_with fail
  refine (p_normal s n _ hn hbig HH.out HB.out).mono ?_
  rintro e w1 ⟨hb, T, k, kind, N, E, rfl, hT8, hTl, hQ⟩
  have HW := Lib.hid hb
  have HT8 := Lib.hid hT8
  have HQ := Lib.hid hQ
  have HH := Lib.hid (HH.out.below hb)
  have HB := Lib.hid (HB.out.below hb)
  clear hb hT8 hQ
  by_cases hk : k = 0
  · subst hk
    go_wp2_with fail
    refine (p_normal t m _ hm hbm HH.out HB.out).mono ?_
    rintro e w2 ⟨hb, T', k', kind', N', E', rfl, hT8', hTl', hQ'⟩
    have HW := Lib.hid (HW.out.trans (hb.mono HW.out.size))
    have hbeq := str_beq HT8.out hT8'
    have HQ' := Lib.hid hQ'
    obtain ⟨TS, hTS⟩ : ∃ TS, TS = strN T := ⟨_, rfl⟩
    obtain ⟨TS', hTS'⟩ : ∃ TS', TS' = strN T' := ⟨_, rfl⟩
    rw [← hTS, ← hTS'] at hbeq
    rw [← hTS, ← hTS']
    clear hb hT8' hQ' hTS hTS'
    by_cases hk' : k' = 0
    · subst hk'
      by_cases hTT : T = T'
      · rw [decide_eq_true hTT] at hbeq
        have HE := Lib.hid hTT
        clear hTT
        go_wp2
        go_ret
        exact ⟨⟨true, rfl, .inr ⟨kind, T, N, E, 0, kind', T', N', E', HQ.out, HQ'.out, by simp [HE.out]⟩⟩, HW.out⟩
      · rw [decide_eq_false hTT] at hbeq
        have HE := Lib.hid hTT
        clear hTT
        go_wp2
        go_ret
        exact ⟨⟨false, rfl, .inr ⟨kind, T, N, E, 0, kind', T', N', E', HQ.out, HQ'.out, by simp [HE.out]⟩⟩, HW.out⟩
    · have hq : (k' == 0) = false := by simp [hk']
      have HE := Lib.hid hk'
      clear hk'
      go_wp2
      go_ret
      exact ⟨⟨false, rfl, .inr ⟨kind, T, N, E, k', kind', T', N', E', HQ.out, HQ'.out, by simp [HE.out]⟩⟩, HW.out⟩
  · have hq : (k != 0) = true := by simp [hk]
    have HE := Lib.hid hk
    clear hk
    go_wp2
    go_ret
    exact ⟨⟨false, rfl, .inl ⟨k, kind, T, N, E, HQ.out, HE.out, rfl⟩⟩, HW.out⟩
end Go.Proofs.YtaookoejdnkkoaaGreatDoor
