import Derived.Test.YtaookoejdnkkoaaGreatDoorQ10
import Derived.Test.YtaookoejdnkkoaaGreatDoorQDeJ
import Derived.Test.YtaookoejdnkkoaaGreatDoorQ20
import Derived.Test.YtaookoejdnkkoaaGreatDoorQ09
namespace Go.Proofs.YtaookoejdnkkoaaGreatDoor
open Go.RowKit

/-! The reference: the integer, the key. -/
set_option maxHeartbeats 1600000 in
set_option maxRecDepth 100000 in
theorem rinteger_any (a : Option Addr) (len cap : Nat) (b : List Nat) (w : World) (hl : b.length = len) (hbig : len ≤ 1099511627776) (h8 : B8 b) (hr : Rd .u8 w a b) :
    Calls Tryz.prog 148 #[.slice a len cap] w (Told (NumTells b) w) := by
  have HL := Lib.hid hl
  have HR := Lib.hid hr
  have H8 := Lib.hid h8
  have hsp := intOK_split b
  rw [hl] at hsp
  have no : ∀ (_ : intOK b = false), Hid (NumTells b 73 []) := fun h => by
    have h1 := intE_no h
    have h2 := NumTells.no (b := b) (by rw [h1]; decide)
    rw [h1] at h2
    exact h2
  unfold Told
  rcases hsp with ⟨h0, hk⟩ | hsp
  · have HP := no hk
    clear hr no
    subst h0
    go_enter Tryz.func148, Tryz.ntmps148
    go_wp2
    go_ret2
    exact ⟨Below.refl _ _, none, 0, _, [], rfl, World.ownsRow_nil _ _ _ _, by decide, HP.out⟩
  · have h1 : 0 < len := by omega
    obtain ⟨bb, off, rfl, hc⟩ := hr.get (by omega)
    have c0 := hc 0 (by omega)
    rw [show b.getD 0 0 = at0 b 0 from rfl, Nat.add_zero] at c0
    have HC := Lib.hid hc
    obtain ⟨x, hx⟩ : ∃ x, x = at0 b 0 := ⟨_, rfl⟩
    rw [← hx] at hsp c0
    have hq0 : ((len : Int) == 0) = false := by simp; omega
    clear hc hr hl hx h8
    rcases hsp with ⟨-, h2, hk⟩ | hsp
    · have hq1 : decide ((128 : Int) ≤ (x : Int)) = true := decide_eq_true (by omega)
      have HP := no hk
      clear no hk h2
      go_enter Tryz.func148, Tryz.ntmps148
      go_wp2
      go_ret2
      exact ⟨Below.refl _ _, none, 0, _, [], rfl, World.ownsRow_nil _ _ _ _, by decide, HP.out⟩
    · have hx128 : x < 128 := by omega
      have hq1 : decide ((128 : Int) ≤ (x : Int)) = false := decide_eq_false (by omega)
      have hcase : (intOK b = false ∧ 1 < len ∧ x = 0 ∧ at0 b 1 < 128) ∨ (intOK b = true ∧ (len = 1 ∨ (1 < len ∧ 0 < x) ∨ (1 < len ∧ x = 0 ∧ 128 ≤ at0 b 1))) := by
        rcases hsp with ⟨h2, h3, h4⟩ | ⟨h2, h3, h4, h5⟩ | ⟨h2, h3, h4, h5⟩ | ⟨h2, h3, h4, h5⟩
        · exact .inr ⟨h4, .inl h2⟩
        · exact .inr ⟨h5, .inr (.inl ⟨h2, h3⟩)⟩
        · exact .inr ⟨h5, .inr (.inr ⟨h2, h3, h4⟩)⟩
        · exact .inl ⟨h5, h2, h3, h4⟩
      clear hsp
      rcases hcase with ⟨hk, h2, rfl, h3⟩ | ⟨hk, hcase⟩
      · have HP := no hk
        have c1 := HC.out 1 (by rw [HL.out]; omega)
        rw [show b.getD 1 0 = at0 b 1 from rfl] at c1
        obtain ⟨y, hy⟩ : ∃ y, y = at0 b 1 := ⟨_, rfl⟩
        rw [← hy] at c1 h3
        have hq2 : decide ((1 : Int) < (len : Int)) = true := decide_eq_true (by omega)
        have hq4 : decide ((y : Int) < 128) = true := decide_eq_true (by omega)
        clear no hk hy
        go_enter Tryz.func148, Tryz.ntmps148
        go_wp2
        go_ret2
        exact ⟨Below.refl _ _, none, 0, _, [], rfl, World.ownsRow_nil _ _ _ _, by decide, HP.out⟩
      · have HK := Lib.hid hk
        clear no hk
        have hfacts : (decide ((1 : Int) < (len : Int)) = false) ∨ (decide ((1 : Int) < (len : Int)) = true ∧ ((x : Int) == 0) = false) ∨ (decide ((1 : Int) < (len : Int)) = true ∧ ((x : Int) == 0) = true ∧ 1 < len ∧ 128 ≤ at0 b 1) := by
          rcases hcase with h | ⟨h, h2⟩ | ⟨h, h2, h3⟩
          · exact .inl (decide_eq_false (by omega))
          · exact .inr (.inl ⟨decide_eq_true (by omega), by simp; omega⟩)
          · exact .inr (.inr ⟨decide_eq_true (by omega), by simp; omega, h, h3⟩)
        obtain ⟨y, hy⟩ : ∃ y, y = at0 b 1 := ⟨_, rfl⟩
        have c1 : 1 < len → w.cell? ⟨bb, off + 1, none⟩ = some (.int .u8 (y : Nat)) := fun h => by rw [hy]; exact HC.out 1 (by rw [HL.out]; exact h)
        rw [← hy] at hfacts
        have hlc : Hid (len ≤ 1099511627776) := hbig
        clear hy hcase
        rcases hfacts with g1 | ⟨g1, g2⟩ | ⟨g1, g2, g3, g4⟩
        · clear c1
          go_enter Tryz.func148, Tryz.ntmps148
          go_wp2_with fail
          refine (rfrom_any _ len cap b _ HL.out (by omega) H8.out HR.out).mono ?_
          intro e w1 h
          obtain ⟨hb1, a1, c1, k, zs, rfl, ho, hzl, hT⟩ := h.told
          have HB := Lib.hid hb1
          have HO := Lib.hid ho
          clear h hb1 ho
          rcases hT with ⟨h1, rfl, rfl⟩ | ⟨h1, rfl, hn⟩
          · have HP := Lib.hid (intE_big HK.out (fun h => by have := lim8; omega))
            have HT : Hid (NumTells b 3 []) := by
              have h2 := NumTells.no (b := b) (by rw [HP.out]; decide)
              rw [HP.out] at h2
              exact h2
            clear h1
            go_wp2
            go_ret2
            exact ⟨HB.out, none, 0, _, [], rfl, World.ownsRow_nil _ _ _ _, by decide, HT.out⟩
          · have HN := Lib.hid hn
            have hrd := (own64.rd HO.out).2
            have HRD := Lib.hid hrd
            obtain ⟨q, hq⟩ : ∃ q, q = zs.length := ⟨_, rfl⟩
            have HQ := Lib.hid hq
            rw [← hq] at hzl ⊢
            clear h1 hn hrd hq
            go_wp2_with fail
            refine (rlength_any a1 q c1 zs _ HQ.out.symm (by omega) HRD.out HN.out.bd).mono ?_
            rintro e w2 ⟨p, rfl, hp, hb2⟩
            rw [HN.out.vl] at hp
            have hle := bits_le (m := 4096) hp
            have HB2 := Lib.hid (HB.out.trans (hb2.mono HB.out.size))
            have HO2 := Lib.hid (own64.under HO.out hb2)
            clear hp hb2
            by_cases hp4 : p ≤ 4096
            · have hd : decide ((4096 : Int) < (p : Int)) = false := decide_eq_false (by omega)
              have HP := Lib.hid (NumTells.yes (intE_yes HK.out (hle.1 hp4)) HN.out)
              clear hle hp4
              go_wp2
              go_ret2
              exact ⟨HB2.out, _, _, _, _, by rw [HQ.out]; rfl, HO2.out, by rw [← HQ.out]; exact hzl, HP.out⟩
            · have hd : decide ((4096 : Int) < (p : Int)) = true := decide_eq_true (by omega)
              have HP := Lib.hid (intE_big HK.out (fun h => hp4 (hle.2 h)))
              have HT : Hid (NumTells b 3 []) := by
                have h2 := NumTells.no (b := b) (by rw [HP.out]; decide)
                rw [HP.out] at h2
                exact h2
              clear hle hp4
              go_wp2
              go_ret2
              exact ⟨HB2.out, none, 0, _, [], rfl, World.ownsRow_nil _ _ _ _, by decide, HT.out⟩
        · clear c1
          go_enter Tryz.func148, Tryz.ntmps148
          go_wp2_with fail
          refine (rfrom_any _ len cap b _ HL.out (by omega) H8.out HR.out).mono ?_
          intro e w1 h
          obtain ⟨hb1, a1, c1, k, zs, rfl, ho, hzl, hT⟩ := h.told
          have HB := Lib.hid hb1
          have HO := Lib.hid ho
          clear h hb1 ho
          rcases hT with ⟨h1, rfl, rfl⟩ | ⟨h1, rfl, hn⟩
          · have HP := Lib.hid (intE_big HK.out (fun h => by have := lim8; omega))
            have HT : Hid (NumTells b 3 []) := by
              have h2 := NumTells.no (b := b) (by rw [HP.out]; decide)
              rw [HP.out] at h2
              exact h2
            clear h1
            go_wp2
            go_ret2
            exact ⟨HB.out, none, 0, _, [], rfl, World.ownsRow_nil _ _ _ _, by decide, HT.out⟩
          · have HN := Lib.hid hn
            have hrd := (own64.rd HO.out).2
            have HRD := Lib.hid hrd
            obtain ⟨q, hq⟩ : ∃ q, q = zs.length := ⟨_, rfl⟩
            have HQ := Lib.hid hq
            rw [← hq] at hzl ⊢
            clear h1 hn hrd hq
            go_wp2_with fail
            refine (rlength_any a1 q c1 zs _ HQ.out.symm (by omega) HRD.out HN.out.bd).mono ?_
            rintro e w2 ⟨p, rfl, hp, hb2⟩
            rw [HN.out.vl] at hp
            have hle := bits_le (m := 4096) hp
            have HB2 := Lib.hid (HB.out.trans (hb2.mono HB.out.size))
            have HO2 := Lib.hid (own64.under HO.out hb2)
            clear hp hb2
            by_cases hp4 : p ≤ 4096
            · have hd : decide ((4096 : Int) < (p : Int)) = false := decide_eq_false (by omega)
              have HP := Lib.hid (NumTells.yes (intE_yes HK.out (hle.1 hp4)) HN.out)
              clear hle hp4
              go_wp2
              go_ret2
              exact ⟨HB2.out, _, _, _, _, by rw [HQ.out]; rfl, HO2.out, by rw [← HQ.out]; exact hzl, HP.out⟩
            · have hd : decide ((4096 : Int) < (p : Int)) = true := decide_eq_true (by omega)
              have HP := Lib.hid (intE_big HK.out (fun h => hp4 (hle.2 h)))
              have HT : Hid (NumTells b 3 []) := by
                have h2 := NumTells.no (b := b) (by rw [HP.out]; decide)
                rw [HP.out] at h2
                exact h2
              clear hle hp4
              go_wp2
              go_ret2
              exact ⟨HB2.out, none, 0, _, [], rfl, World.ownsRow_nil _ _ _ _, by decide, HT.out⟩
        · have c1 := c1 g3
          have g5 : decide ((y : Int) < 128) = false := decide_eq_false (by omega)
          go_enter Tryz.func148, Tryz.ntmps148
          go_wp2_with fail
          refine (rfrom_any _ len cap b _ HL.out (by omega) H8.out HR.out).mono ?_
          intro e w1 h
          obtain ⟨hb1, a1, c1, k, zs, rfl, ho, hzl, hT⟩ := h.told
          have HB := Lib.hid hb1
          have HO := Lib.hid ho
          clear h hb1 ho
          rcases hT with ⟨h1, rfl, rfl⟩ | ⟨h1, rfl, hn⟩
          · have HP := Lib.hid (intE_big HK.out (fun h => by have := lim8; omega))
            have HT : Hid (NumTells b 3 []) := by
              have h2 := NumTells.no (b := b) (by rw [HP.out]; decide)
              rw [HP.out] at h2
              exact h2
            clear h1
            go_wp2
            go_ret2
            exact ⟨HB.out, none, 0, _, [], rfl, World.ownsRow_nil _ _ _ _, by decide, HT.out⟩
          · have HN := Lib.hid hn
            have hrd := (own64.rd HO.out).2
            have HRD := Lib.hid hrd
            obtain ⟨q, hq⟩ : ∃ q, q = zs.length := ⟨_, rfl⟩
            have HQ := Lib.hid hq
            rw [← hq] at hzl ⊢
            clear h1 hn hrd hq
            go_wp2_with fail
            refine (rlength_any a1 q c1 zs _ HQ.out.symm (by omega) HRD.out HN.out.bd).mono ?_
            rintro e w2 ⟨p, rfl, hp, hb2⟩
            rw [HN.out.vl] at hp
            have hle := bits_le (m := 4096) hp
            have HB2 := Lib.hid (HB.out.trans (hb2.mono HB.out.size))
            have HO2 := Lib.hid (own64.under HO.out hb2)
            clear hp hb2
            by_cases hp4 : p ≤ 4096
            · have hd : decide ((4096 : Int) < (p : Int)) = false := decide_eq_false (by omega)
              have HP := Lib.hid (NumTells.yes (intE_yes HK.out (hle.1 hp4)) HN.out)
              clear hle hp4
              go_wp2
              go_ret2
              exact ⟨HB2.out, _, _, _, _, by rw [HQ.out]; rfl, HO2.out, by rw [← HQ.out]; exact hzl, HP.out⟩
            · have hd : decide ((4096 : Int) < (p : Int)) = true := decide_eq_true (by omega)
              have HP := Lib.hid (intE_big HK.out (fun h => hp4 (hle.2 h)))
              have HT : Hid (NumTells b 3 []) := by
                have h2 := NumTells.no (b := b) (by rw [HP.out]; decide)
                rw [HP.out] at h2
                exact h2
              clear hle hp4
              go_wp2
              go_ret2
              exact ⟨HB2.out, none, 0, _, [], rfl, World.ownsRow_nil _ _ _ _, by decide, HT.out⟩

def RNumPost (b : List Nat) (a : Nat) (w : World) (e : Ending) (w' : World) : Prop :=
  Below w.heap.size w w' ∧ ∃ (a1 : Option Addr) (c1 : Nat) (zs : List Nat) (o : Nat) (k : Int), e = .returned (.tuple #[.slice a1 zs.length c1, .int .i64 (o : Nat), .int .i64 k]) ∧ own64 w' w.heap.size (.slice a1 zs.length c1) zs ∧ zs.length ≤ 128 ∧
    (intA b a).1 = k ∧ (k = 0 → Num zs (intA b a).2.1 ∧ o = (intA b a).2.2 ∧ o ≤ b.length) ∧ (k ≠ 0 → zs = [])
set_option maxHeartbeats 1600000 in
set_option maxRecDepth 100000 in
theorem rnumber_any (a : Option Addr) (len cap : Nat) (b : List Nat) (at' : Nat) (w : World) (hl : b.length = len) (hbig : len ≤ 1099511627776) (hcap : len ≤ cap) (h8 : B8 b) (hr : Rd .u8 w a b) (hat : at' ≤ len) :
    Calls Tryz.prog 94 #[.slice a len cap, .int .i64 (at' : Nat)] w (RNumPost b at' w) := by
  have HL := Lib.hid hl
  have HR := Lib.hid hr
  have H8 := Lib.hid h8
  unfold RNumPost
  clear hl hr h8
  go_enter Tryz.func94, Tryz.ntmps94
  go_wp2_with fail
  refine (ritem_any a len cap b at' _ HL.out hbig H8.out HR.out (by omega) (by omega)).mono ?_
  rw [itemI_in (by rw [HL.out]; exact hat)]
  rintro e w1 ⟨rfl, k, t, f, o, hi, rfl⟩
  by_cases hk : k = 0
  · subst hk
    obtain ⟨h1, h2, h3, h4, -, -, -, -⟩ := itemA_lies H8.out (by rw [HL.out]; exact hat) hi
    rw [HL.out] at h4
    have HI := Lib.hid hi
    obtain ⟨bb, off, rfl, -⟩ := HR.out.get (by rw [HL.out]; omega)
    clear hi h1 h2
    by_cases ht : t = 2
    · subst ht
      have hR := cutA_rd HR.out HL.out hcap h3 h4
      have hcl : ((b.take o).drop f).length = o - f := by rw [List.length_drop, List.length_take]; have := HL.out; omega
      have hcb : B8 ((b.take o).drop f) := (H8.out.take _).drop _
      have hyes := intA_yes HI.out
      have hno := intA_no HI.out
      obtain ⟨c, hc⟩ : ∃ c, c = (b.take o).drop f := ⟨_, rfl⟩
      rw [← hc] at hR hcl hcb hyes hno
      have HCL := Lib.hid hcl
      have HCB := Lib.hid hcb
      have HYES := Lib.hid hyes
      have HNO := Lib.hid hno
      have hb1 : (0 : Int) ≤ (f : Int) := by omega
      have hb2 : (f : Int) ≤ (o : Int) := by omega
      have hb3 : (o : Int) ≤ (cap : Int) := by omega
      have HR1 : Hid (cap = f → ∀ A, Rd .u8 w A c) := fun h A j hj => absurd hj (by rw [HCL.out]; omega)
      have HR2 : Hid (¬ cap = f → Rd .u8 w (some ⟨bb, off + f, none⟩) c) := fun h => by
        have e : cutA (some ⟨bb, off, none⟩) cap f = some ⟨bb, off + f, none⟩ := by simp [cutA, h, Addr.add]
        rwa [e] at hR
      clear hR hcl hcb hc hyes hno
      by_cases hcf : cap = f
      all_goals
        go_wp2_with fail
        refine (rinteger_any _ (o - f) _ c _ HCL.out (by omega) HCB.out (by first | exact HR1.out hcf _ | exact HR2.out hcf)).mono ?_
        rintro e w2 ⟨hb, a1, c1, k, zs, rfl, ho, hz, hT⟩
        have HB := Lib.hid hb
        have HO := Lib.hid ho
        have HT : Hid ((intA b at').1 = k ∧ (k = 0 → Num zs (intA b at').2.1 ∧ o = (intA b at').2.2 ∧ o ≤ b.length) ∧ (k ≠ 0 → zs = [])) := by
          show _ ∧ _ ∧ _
          obtain ⟨h1, h2, h3'⟩ := hT
          by_cases hk : k = 0
          · have h5 := HYES.out (by rw [h1]; exact hk)
            rw [h5]
            exact ⟨hk.symm, fun _ => ⟨h2 hk, rfl, by rw [HL.out]; exact h4⟩, h3'⟩
          · have h5 := HNO.out (by rw [h1]; exact hk)
            rw [h5]
            exact ⟨h1, fun h => absurd h hk, h3'⟩
        clear hb ho hT
        go_wp2
        go_ret3
        exact ⟨HB.out, _, _, _, _, _, rfl, HO.out, hz, HT.out⟩
    · have hq : ((t : Int) != 2) = true := by simp; omega
      have HP := Lib.hid (intA_tag HI.out ht)
      clear ht
      go_wp2
      go_ret3
      exact ⟨Below.refl _ _, none, 0, [], 0, _, rfl, World.ownsRow_nil _ _ _ _, by decide, by rw [HP.out], fun h => absurd h (by decide), fun _ => rfl⟩
  · have hq : (k != 0) = true := by simpa using hk
    have HP := Lib.hid (itemA_err hi hk)
    have HK := Lib.hid hk
    clear hi hk
    go_wp2
    go_ret3
    exact ⟨Below.refl _ _, none, 0, [], 0, _, rfl, World.ownsRow_nil _ _ _ _, by decide, by rw [HP.out], fun h => absurd h HK.out, fun _ => rfl⟩
set_option maxHeartbeats 1600000 in
set_option maxRecDepth 100000 in
theorem rdecode_any (a : Option Addr) (len cap : Nat) (b : List Nat) (w : World) (hl : b.length = len) (hbig : len ≤ 1099511627776) (hcap : len ≤ cap) (h8 : B8 b) (hr : Rd .u8 w a b) :
    Calls Tryz.prog 42 #[.slice a len cap] w (DecPost b w) := by
  have HL := Lib.hid hl
  have HR := Lib.hid hr
  have H8 := Lib.hid h8
  have HD := Lib.hid (dec0_at b)
  unfold DecPost
  clear hl hr h8
  obtain ⟨W0, hW0⟩ : ∃ W0, W0 = w.alloc (KO (.slice none 0 0) (.slice none 0 0)) := ⟨_, rfl⟩
  have HWW := Lib.hid hW0
  have HB : Hid (Below w.heap.size w W0) := by show Below _ _ _; rw [hW0]; exact (Below.refl _ _).alloc (Nat.le_refl _) _
  have HK : Hid (W0.heap[w.heap.size]? = some (KO (.slice none 0 0) (.slice none 0 0))) := by show _ = _; rw [hW0]; exact heap_new _ _
  clear hW0
  have zero : ∀ (k : Int), (dec0 b).1 = k → k ≠ 0 → Hid (KeyTells b k [] []) := fun k h h2 => KeyTells.no h h2
  go_enter Tryz.func42, Tryz.ntmps42
  go_wp2_with fail
  rw [← HWW.out]
  refine (ritem_any a len cap b 0 _ HL.out hbig H8.out (HR.out.below HB.out) (by omega) (by omega)).mono ?_
  rw [show itemI b 0 = itemA b 0 from itemI_in (a := 0) (Nat.zero_le _)]
  rintro e w1 ⟨rfl, k, t, f, o, hi, rfl⟩
  obtain ⟨hc0, hc1⟩ := KO.cells HK.out
  have hz0 := frozen_alloc (i := 0) HK.out
  have hz1 := frozen_alloc (i := 1) HK.out
  by_cases hk : k = 0
  · subst hk
    obtain ⟨h1, h2, h3, h4, -, -, -, -⟩ := itemA_lies H8.out (Nat.zero_le _) hi
    rw [HL.out] at h4
    have hD := HD.out
    rw [hi] at hD
    simp only [ne_eq, not_true_eq_false, if_false] at hD
    have HD := Lib.hid hD
    obtain ⟨bb, off, rfl, -⟩ := HR.out.get (by rw [HL.out]; omega)
    clear hD hi h1 h2
    by_cases ht : t = 48
    · subst ht
      by_cases ho : o < len
      · have HT := zero 74 (by have := HD.out; rw [if_neg (by simp), if_pos (by rw [HL.out]; exact ho)] at this; rw [this]) (by decide)
        have hq : decide (o < len) = true := decide_eq_true ho
        clear ho zero
        go_wp2
        have b1 := heap_setCell_same _ w.heap.size 0 _ _ (.slice none 0 0) HK.out
        have b2 := heap_setCell_same _ w.heap.size 1 _ _ (.slice none 0 0) b1
        exact bodyPost_ret (results_KyT rfl rfl rfl b2) rfl ⟨(HB.out.setCell (Nat.le_refl _) _).setCell (Nat.le_refl _) _, none, 0, [], none, 0, [], _, rfl, ((Sep.nil _ _).nilRow _).nilRow _, by decide, by decide, HT.out⟩
      · obtain rfl : o = len := by omega
        have hD := HD.out
        rw [if_neg (by simp), if_neg (by rw [HL.out]; exact ho)] at hD
        have HD := Lib.hid hD
        have hq : decide (o < o) = false := decide_eq_false (by omega)
        have hb1 : (0 : Int) ≤ (f : Int) := by omega
        have hb2 : (f : Int) ≤ (o : Int) := by omega
        have hb3 : (o : Int) ≤ (cap : Int) := by omega
        have HCL : Hid ((b.drop f).length = o - f) := by show _ = _; rw [List.length_drop, HL.out]
        have HC8 : Hid (B8 (b.drop f)) := H8.out.drop f
        have HR1 : Hid (cap = f → ∀ A, Rd .u8 W0 A (b.drop f)) := fun h A j hj => absurd hj (by rw [HCL.out]; omega)
        have HR2 : Hid (¬ cap = f → Rd .u8 W0 (some ⟨bb, off + f, none⟩) (b.drop f)) := fun h => by
          have h5 := cutA_rd (HR.out.below HB.out) HL.out hcap h3 (Nat.le_refl _)
          rw [List.take_of_length_le (by rw [HL.out]; exact Nat.le_refl _)] at h5
          have e : cutA (some ⟨bb, off, none⟩) cap f = some ⟨bb, off + f, none⟩ := by simp [cutA, h, Addr.add]
          rwa [e] at h5
        obtain ⟨c, hc⟩ : ∃ c, c = b.drop f := ⟨_, rfl⟩
        have hD := HD.out
        rw [← hc] at HCL HC8 HR1 HR2 hD
        have HDC := Lib.hid hD
        have HZ := Lib.hid zero
        clear hD hc ho zero
        by_cases hcf : cap = f
        all_goals
          go_wp2_with fail
          refine (rnumber_any _ (o - f) _ c 0 _ HCL.out (by omega) (by omega) HC8.out (by first | exact HR1.out hcf _ | exact HR2.out hcf) (Nat.zero_le _)).mono ?_
          rintro e w2 ⟨hb2', a1, c1, zs, o1, k1, rfl, ho1, hz1', e1, e2, e3⟩
          have HB21 := Lib.hid hb2'
          have HB2 := Lib.hid (HB.out.trans (hb2'.mono HB.out.size))
          have HK2 := Lib.hid (KO.below HK.out hb2')
          clear hb2' hc0 hc1 hz0 hz1
          obtain ⟨hc0, hc1⟩ := KO.cells HK2.out
          have hz0 := frozen_alloc (i := 0) HK2.out
          have hz1 := frozen_alloc (i := 1) HK2.out
          by_cases hk1 : k1 = 0
          · subst hk1
            obtain ⟨f1, f2, f3⟩ := e2 rfl
            rw [HCL.out] at f3
            have HO1 := Lib.hid ho1
            have HF1 := Lib.hid f1
            have HE1 := Lib.hid e1
            have HF2 := Lib.hid f2
            obtain ⟨n1, hn1⟩ : ∃ n1, n1 = zs.length := ⟨_, rfl⟩
            have HN1 := Lib.hid hn1
            rw [← hn1] at hz1' ⊢
            clear ho1 f1 f2 e1 e2 e3 hn1
            go_wp2_with fail
            refine (rnumber_any _ (o - f) _ c o1 _ HCL.out (by omega) (by omega) HC8.out ((show Rd .u8 W0 _ c by first | exact HR1.out hcf _ | exact HR2.out hcf).below HB21.out) f3).mono ?_
            rintro e w3 ⟨hb3', a2, c2, ys, o2, k2, rfl, ho2, hz2', e1, e2, e3⟩
            have HB32 := Lib.hid hb3'
            have HB3 := Lib.hid (HB2.out.trans (hb3'.mono HB2.out.size))
            have HK3 := Lib.hid (KO.below HK2.out hb3')
            clear hb3' hc0 hc1 hz0 hz1
            obtain ⟨hc0, hc1⟩ := KO.cells HK3.out
            have hz0 := frozen_alloc (i := 0) HK3.out
            have hz1 := frozen_alloc (i := 1) HK3.out
            by_cases hk2 : k2 = 0
            · subst hk2
              obtain ⟨f1, f2, f4⟩ := e2 rfl
              rw [HCL.out] at f4
              have HSP : Hid (Sep w3 W0.heap.size [rw64 (.slice a1 n1 c1) zs, rw64 (.slice a2 ys.length c2) ys]) := by
                rw [HN1.out]
                exact sep2 HO1.out (by have := HB21.out.size; omega) HB32.out (Nat.le_refl _) ho2
              have HF := Lib.hid f1
              have HDD : Hid (dec0 b = if o2 < o - f then (74, 0, 0) else (0, (intA c 0).2.1, (intA c o1).2.1)) := by
                show _ = _
                have := HDC.out
                rw [if_neg (by rw [HE1.out]; simp), ← HF2.out, if_neg (by rw [e1]; simp), ← f2, HCL.out] at this
                exact this
              obtain ⟨n2, hn2⟩ : ∃ n2, n2 = ys.length := ⟨_, rfl⟩
              have HN2 := Lib.hid hn2
              rw [← hn2] at HSP hz2' ⊢
              clear e1 e2 e3 f1 f2 ho2 hn2
              by_cases hlg : o2 < o - f
              · have HT := HZ.out 74 (by rw [HDD.out, if_pos hlg]) (by decide)
                have hq7 : decide (o2 < o - f) = true := decide_eq_true hlg
                clear hlg
                go_wp2
                have b1 := heap_setCell_same _ w.heap.size 0 _ _ (.slice none 0 0) HK3.out
                have b2 := heap_setCell_same _ w.heap.size 1 _ _ (.slice none 0 0) b1
                exact bodyPost_ret (results_KyT rfl rfl rfl b2) rfl ⟨(HB3.out.setCell (Nat.le_refl _) _).setCell (Nat.le_refl _) _, none, 0, [], none, 0, [], _, rfl, ((Sep.nil _ _).nilRow _).nilRow _, by decide, by decide, HT.out⟩
              · have HT : Hid (KeyTells b 0 zs ys) := KeyTells.yes (by rw [HDD.out, if_neg hlg]) HF1.out HF.out
                have hq7 : decide (o2 < o - f) = false := decide_eq_false hlg
                clear hlg
                go_wp2
                have b1 := heap_setCell_same _ w.heap.size 0 _ _ (.slice a1 n1 c1) HK3.out
                have b2 := heap_setCell_same _ w.heap.size 1 _ _ (.slice a2 n2 c2) b1
                have hlt : w.heap.size < W0.heap.size := lt_of_block HK.out
                refine bodyPost_ret (results_KyT rfl rfl rfl b2) rfl ⟨(HB3.out.setCell (Nat.le_refl _) _).setCell (Nat.le_refl _) _, _, _, zs, _, _, ys, _, by rw [← HN1.out, ← HN2.out]; rfl, ?_, by rw [← HN1.out]; exact hz1', by rw [← HN2.out]; exact hz2', HT.out⟩
                rw [← HN1.out, ← HN2.out]
                exact ((HSP.out.setLow hlt _).setLow hlt _).base (Nat.le_of_lt hlt)
            · have hq6 : (k2 != 0) = true := by simpa using hk2
              have HT := HZ.out k2 (by have := HDC.out; rw [if_neg (by rw [HE1.out]; simp), ← HF2.out, if_pos (by rw [e1]; exact hk2), e1] at this; rw [this]) hk2
              clear hk2 e1 e2 e3 ho2
              go_wp2
              have b1 := heap_setCell_same _ w.heap.size 0 _ _ (.slice none 0 0) HK3.out
              have b2 := heap_setCell_same _ w.heap.size 1 _ _ (.slice none 0 0) b1
              exact bodyPost_ret (results_KyT rfl rfl rfl b2) rfl ⟨(HB3.out.setCell (Nat.le_refl _) _).setCell (Nat.le_refl _) _, none, 0, [], none, 0, [], _, rfl, ((Sep.nil _ _).nilRow _).nilRow _, by decide, by decide, HT.out⟩
          · have hq6 : (k1 != 0) = true := by simpa using hk1
            have HT := HZ.out k1 (by have := HDC.out; rw [if_pos (by rw [e1]; exact hk1), e1] at this; rw [this]) hk1
            clear hk1 e1 e2 e3 ho1
            go_wp2
            have b1 := heap_setCell_same _ w.heap.size 0 _ _ (.slice none 0 0) HK2.out
            have b2 := heap_setCell_same _ w.heap.size 1 _ _ (.slice none 0 0) b1
            exact bodyPost_ret (results_KyT rfl rfl rfl b2) rfl ⟨(HB2.out.setCell (Nat.le_refl _) _).setCell (Nat.le_refl _) _, none, 0, [], none, 0, [], _, rfl, ((Sep.nil _ _).nilRow _).nilRow _, by decide, by decide, HT.out⟩
    · have hq : ((t : Int) != 48) = true := by simp; omega
      have HT := zero 71 (by have := HD.out; rw [if_pos (by simpa using ht)] at this; rw [this]) (by decide)
      clear ht zero
      go_wp2
      have b1 := heap_setCell_same _ w.heap.size 0 _ _ (.slice none 0 0) HK.out
      have b2 := heap_setCell_same _ w.heap.size 1 _ _ (.slice none 0 0) b1
      exact bodyPost_ret (results_KyT rfl rfl rfl b2) rfl ⟨(HB.out.setCell (Nat.le_refl _) _).setCell (Nat.le_refl _) _, none, 0, [], none, 0, [], _, rfl, ((Sep.nil _ _).nilRow _).nilRow _, by decide, by decide, HT.out⟩
  · have hq : (k != 0) = true := by simpa using hk
    have HT := zero k (by have := HD.out; rw [hi, if_pos hk] at this; rw [this]) hk
    clear hi hk zero
    go_wp2
    have b1 := heap_setCell_same _ w.heap.size 0 _ _ (.slice none 0 0) HK.out
    have b2 := heap_setCell_same _ w.heap.size 1 _ _ (.slice none 0 0) b1
    exact bodyPost_ret (results_KyT rfl rfl rfl b2) rfl ⟨(HB.out.setCell (Nat.le_refl _) _).setCell (Nat.le_refl _) _, none, 0, [], none, 0, [], _, rfl, ((Sep.nil _ _).nilRow _).nilRow _, by decide, by decide, HT.out⟩

/-! DerItems, DerReads. -/
theorem Bok.wordsC {w : World} {B bk T : Nat} {WV BV : List Value} {R : List Rw} {vw vb : Value} (h : Bok w B bk T WV BV R vw vb) (va : Option Addr) (vn vc : Nat) (hn : WV.length + 1 ≤ 1099511627776) :
    Calls Tryz.prog 47 #[.pointer (some ⟨bk, 0, none⟩), .slice va vn vc] w fun e w' => e = .returned (.tuple #[]) ∧ (∃ vw', Bok w' B bk T (WV ++ [.slice va vn vc]) BV R vw' vb) ∧ Below bk w w' ∧ Chg (fun k => k = bk ∨ some k = vw.ownBlock) w w' := by
  have hlt := h.lt
  have hbs := h.base
  refine (bookWords_any bk B WV.length vw vb WV va vn vc w T h.book h.sep.head (fun hk => by have := h.offw _ hk; omega) hn (by omega)).mono ?_
  rintro e w' ⟨rfl, g, cap, hbk, hown, hc, hg⟩
  have hbg : bk < g := by
    rcases hg with hg | hg
    · exact h.offw _ hg
    · omega
  refine ⟨rfl, ⟨_, hbk, ?_, h.off, (fun k hk => ?_), h.offb, hbs⟩, hc.below (Nat.le_of_lt hlt) fun k hk => ?_, hc⟩
  · refine h.sep.upd2 (r' := ⟨.slice (some ⟨g, 0, none⟩) (WV.length + 1) cap, 23, (WV ++ [Value.slice va vn vc]).length, WV ++ [Value.slice va vn vc]⟩) hc (fun s hs hk => ?_) (by simpa using hown) fun k hk => ?_
    · rcases List.mem_cons.1 hs with rfl | hs
      · have := h.offb _ hk; omega
      · exact h.off s hs hk
    · have : g = k := by simpa [Value.ownBlock] using hk
      subst this
      exact hg
  · have : g = k := by simpa [Value.ownBlock] using hk
    omega
  · rcases hk with rfl | hk
    · exact Nat.le_refl _
    · exact Nat.le_of_lt (h.offw k hk.symm)
set_option maxHeartbeats 800000 in
theorem bookKey_any {w : World} {B bk T : Nat} {WV BV : List Value} {R : List Rw} {vw vb : Value} (h : Bok w B bk T WV BV R vw vb) (a1 : Option Addr) (n1 c1 : Nat) (a2 : Option Addr) (n2 c2 : Nat) (hn : WV.length + 2 ≤ 1099511627776) :
    Calls Tryz.prog 17 #[.pointer (some ⟨bk, 0, none⟩), .agg #[.slice a1 n1 c1, .slice a2 n2 c2]] w fun e w' => e = .returned (.tuple #[]) ∧ (∃ vw', Bok w' B bk T (WV ++ [.slice a1 n1 c1] ++ [.slice a2 n2 c2]) BV R vw' vb) ∧ Below bk w w' := by
  have hlt := h.lt
  have hB0 : Below w.heap.size w (w.alloc (KO (.slice a1 n1 c1) (.slice a2 n2 c2))) := (Below.refl _ _).alloc (Nat.le_refl _) _
  have hk0 : (w.alloc (KO (.slice a1 n1 c1) (.slice a2 n2 c2))).heap[w.heap.size]? = some (KO (.slice a1 n1 c1) (.slice a2 n2 c2)) := heap_new _ _
  have H := Lib.hid (h.below hB0)
  have HK := Lib.hid hk0
  have HB := Lib.hid hB0
  have HV : Hid (∀ k, vw.ownBlock = some k → k < w.heap.size) := fun k hk => (World.ownsRow.lt h.sep.head k hk).2
  clear h hB0 hk0
  go_enter Tryz.func17, Tryz.ntmps17
  go_wp2_with fail
  refine (H.out.wordsC a1 n1 c1 (by omega)).mono ?_
  rintro e w1 ⟨rfl, ⟨vw', hbok⟩, hb1, hc1⟩
  have hk1 := hc1.heap HK.out (fun h => by
    rcases h with h | h
    · omega
    · have := HV.out _ h.symm; omega)
  have HK1 := Lib.hid hk1
  have H1 := Lib.hid hbok
  have HB1 := Lib.hid ((HB.out.mono (Nat.le_of_lt hlt)).trans hb1)
  obtain ⟨-, kc⟩ := KO.cells hk1
  clear hbok hb1 hc1 hk1
  go_wp2_with fail
  refine (H1.out.words a2 n2 c2 (by rw [List.length_append]; simp; omega)).mono ?_
  rintro e w2 ⟨rfl, ⟨vw2, hbok⟩, hb2⟩
  have H2 := Lib.hid hbok
  have HB2 := Lib.hid (HB1.out.trans hb2)
  clear hbok hb2
  go_wp2
  exact bodyPost_end (results_none rfl _ _ _) rfl ⟨rfl, ⟨_, H2.out⟩, HB2.out⟩
end Go.Proofs.YtaookoejdnkkoaaGreatDoor
