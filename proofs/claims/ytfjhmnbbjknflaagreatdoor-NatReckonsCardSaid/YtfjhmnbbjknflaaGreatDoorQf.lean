import Derived.Test.YtfjhmnbbjknflaaGreatDoorQe
namespace Go.Proofs.YtfjhmnbbjknflaaGreatDoor
open Go.RowKit

def SbTells (P : Prop) (A C : Nat) (k : Int) (zs : List Nat) : Prop := (¬ P ∧ k = 3 ∧ zs = []) ∨ (P ∧ A < C ∧ k = 10 ∧ zs = []) ∨ (P ∧ C ≤ A ∧ k = 0 ∧ Num zs (A - C))
theorem SbTells.one {P : Prop} {A C : Nat} {k k' : Int} {zs zs' : List Nat} (h : SbTells P A C k zs) (h' : SbTells P A C k' zs') : k = k' ∧ zs = zs' := by
  rcases h with ⟨p, rfl, rfl⟩ | ⟨p, q, rfl, rfl⟩ | ⟨p, q, rfl, t⟩ <;> rcases h' with ⟨p', rfl, rfl⟩ | ⟨p', q', rfl, rfl⟩ | ⟨p', q', rfl, t'⟩
  all_goals first | exact ⟨rfl, rfl⟩ | exact ⟨rfl, t.unique t'⟩ | exact absurd p' p | exact absurd p p' | (exfalso; omega)
/-- What a call tells of a greatest common divisor. -/
def GcTells (P : Prop) (n : Nat) (k : Int) (zs : List Nat) : Prop := (¬ P ∧ k = 3 ∧ zs = []) ∨ (P ∧ k = 0 ∧ Num zs n)
theorem GcTells.one {P : Prop} {n : Nat} {k k' : Int} {zs zs' : List Nat} (h : GcTells P n k zs) (h' : GcTells P n k' zs') : k = k' ∧ zs = zs' := by
  rcases h with ⟨p, rfl, rfl⟩ | ⟨p, rfl, t⟩ <;> rcases h' with ⟨p', rfl, rfl⟩ | ⟨p', rfl, t'⟩
  all_goals first | exact ⟨rfl, rfl⟩ | exact ⟨rfl, t.unique t'⟩ | exact absurd p' p | exact absurd p p'
def DvTells (P : Prop) (A C : Nat) (k : Int) (z1 z2 : List Nat) : Prop := (¬ P ∧ k = 3 ∧ z1 = [] ∧ z2 = []) ∨ (P ∧ C = 0 ∧ k = 11 ∧ z1 = [] ∧ z2 = []) ∨ (P ∧ 0 < C ∧ k = 0 ∧ Num z1 (A / C) ∧ Num z2 (A % C))
theorem DvTells.one {P : Prop} {A C : Nat} {k k' : Int} {z1 z2 y1 y2 : List Nat} (h : DvTells P A C k z1 z2) (h' : DvTells P A C k' y1 y2) : k = k' ∧ z1 = y1 ∧ z2 = y2 := by
  rcases h with ⟨p, rfl, rfl, rfl⟩ | ⟨p, q, rfl, rfl, rfl⟩ | ⟨p, q, rfl, t, u⟩ <;> rcases h' with ⟨p', rfl, rfl, rfl⟩ | ⟨p', q', rfl, rfl, rfl⟩ | ⟨p', q', rfl, t', u'⟩
  all_goals first | exact ⟨rfl, rfl, rfl⟩ | exact ⟨rfl, t.unique t', u.unique u'⟩ | exact absurd p' p | exact absurd p p' | (exfalso; omega)
/-- Two lists and an error's number; the lists share nothing. -/
def DvPost (P : Prop) (A C : Nat) (w : World) (e : Ending) (w' : World) : Prop :=
  Below w.heap.size w w' ∧ ∃ a1 c1 a2 c2 k z1 z2, e = .returned (.tuple #[.slice a1 z1.length c1, .slice a2 z2.length c2, .int .i64 k]) ∧ own64 w' w.heap.size (.slice a1 z1.length c1) z1 ∧ own64 w' w.heap.size (.slice a2 z2.length c2) z2 ∧ DvTells P A C k z1 z2
theorem DvPost.none {P : Prop} {A C : Nat} {w w' : World} {k : Int} (hb : Below w.heap.size w w') (hQ : DvTells P A C k [] []) : DvPost P A C w (.returned (.tuple #[.slice none 0 0, .slice none 0 0, .int .i64 k])) w' :=
  ⟨hb, Option.none, 0, Option.none, 0, k, [], [], rfl, own64_nil _ _, own64_nil _ _, hQ⟩
theorem z_cmp {w : World} {va vb : Value} {A C : Nat} (h1 : Raw w va A) (h2 : Raw w vb C) :
    Calls Tryz.prog 59 #[va, vb] w fun e w' => e = .returned (.int .i64 (cmpI A C)) ∧ Below w.heap.size w w' := by
  obtain ⟨a, ca, xs, rfl, _, _, hr1, hb1, rfl, hl1⟩ := h1
  obtain ⟨b, cb, ys, rfl, _, _, hr2, hb2, rfl, hl2⟩ := h2
  exact rcmpW_any a b _ ca _ cb xs ys w rfl rfl (Nat.le_trans hl1 (by decide)) (Nat.le_trans hl2 (by decide)) hr1 hr2 hb1 hb2
set_option maxHeartbeats 2000000 in
theorem z_sub {w : World} {va vb : Value} {A C : Nat} (h1 : Raw w va A) (h2 : Raw w vb C) (hA : A < 18446744073709551616 ^ 400) (hC : C < 18446744073709551616 ^ 400) :
    Calls Tryz.prog 52 #[va, vb] w (MPost (SbTells (A < 18446744073709551616 ^ 128 ∧ C < 18446744073709551616 ^ 128) A C) w) := by
  have HX := Lib.hid (fun (W : World) (h : Below w.heap.size w W) => And.intro (h1.below h) (h2.below h))
  have HL := Lib.hid (lims_z hA hC)
  have HC2 : Hid (C < 18446744073709551616 ^ 1000) := (lims_z hC hA).1
  have HB0 := Lib.hid (Below.refl w.heap.size w)
  clear h1 h2 hA hC
  go_enter Tryz.func52, Tryz.ntmps52
  go_wp2_with fail
  refine (z_fits (HX.out _ HB0.out).1 HL.out.1).mono ?_
  rintro e w2 ⟨rfl, hb⟩
  have HB := Lib.hid hb
  clear hb
  by_cases hA : A < 18446744073709551616 ^ 128
  · rw [decide_eq_true hA]
    have HFA := Lib.hid hA
    clear hA
    go_wp2_with fail
    refine (z_fits (HX.out _ HB.out).2 HC2.out).mono ?_
    rintro e w3 ⟨rfl, hb⟩
    have HB := Lib.hid (HB.out.trans (hb.mono HB.out.size))
    clear hb
    by_cases hC : C < 18446744073709551616 ^ 128
    · rw [decide_eq_true hC]
      have HFC := Lib.hid hC
      clear hC
      go_wp2_with fail
      refine (z_cmp (HX.out _ HB.out).1 (HX.out _ HB.out).2).mono ?_
      rintro e w4 ⟨rfl, hb⟩
      have HB := Lib.hid (HB.out.trans (hb.mono HB.out.size))
      clear hb
      by_cases hlt : A < C
      · rw [show cmpI A C = -1 by unfold cmpI; rw [if_pos hlt]]
        have HLT := Lib.hid hlt
        clear hlt
        go_wp2
        go_ret2
        exact MPost.none HB.out (.inr (.inl ⟨⟨HFA.out, HFC.out⟩, HLT.out, rfl, rfl⟩))
      · have hd : decide (cmpI A C < 0) = false := by unfold cmpI; rw [if_neg hlt]; split <;> decide
        have HLT : Hid (C ≤ A) := Nat.le_of_not_lt hlt
        clear hlt
        generalize cmpI A C = cc at hd ⊢
        have HE : Hid (QEnv w.heap.size w4 []) := ⟨HB.out.size, fun _ h => by cases h⟩
        go_wp2_with fail
        refine (q_minus HE.out (HX.out _ HB.out).1 (HX.out _ HB.out).2 HLT.out (Nat.lt_of_le_of_lt (Nat.sub_le _ _) HL.out.1)).mono ?_
        rintro e w5 ⟨u, rfl, hE, hb⟩
        have HQ := Lib.hid hE
        have HB4 := Lib.hid (HB.out.trans (hb.mono HB.out.size))
        clear hE hb
        go_wp2_with fail
        refine (z_told (HQ.out.raw (v := u) List.mem_cons_self) (Nat.lt_of_le_of_lt (Nat.sub_le _ _) HL.out.1)).mono ?_
        intro e w6 hp
        obtain ⟨a, l, c, k, rfl⟩ := hp.shape
        have HP := Lib.hid ((hp.base HB4.out).weak (Q' := SbTells (A < 18446744073709551616 ^ 128 ∧ C < 18446744073709551616 ^ 128) A C) (by
          rintro k zs (⟨h, h1, h2⟩ | ⟨_, h, h1, h2⟩)
          · exact absurd ⟨trivial, Nat.lt_of_le_of_lt (Nat.sub_le _ _) HFA.out⟩ h
          · exact .inr (.inr ⟨⟨HFA.out, HFC.out⟩, HLT.out, h1, h2⟩)))
        clear hp
        go_wp2
        go_ret2
        exact HP.out
    · rw [decide_eq_false hC]
      have HFC := Lib.hid hC
      clear hC
      go_wp2
      go_ret2
      exact MPost.none HB.out (.inl ⟨fun h => HFC.out h.2, rfl, rfl⟩)
  · rw [decide_eq_false hA]
    have HFA := Lib.hid hA
    clear hA
    go_wp2
    go_ret2
    exact MPost.none HB.out (.inl ⟨fun h => HFA.out h.1, rfl, rfl⟩)
set_option maxHeartbeats 2000000 in
theorem z_div {w : World} {va vb : Value} {A C : Nat} (h1 : Raw w va A) (h2 : Raw w vb C) (hA : A < 18446744073709551616 ^ 400) (hC : C < 18446744073709551616 ^ 400) :
    Calls Tryz.prog 54 #[va, vb] w (DvPost (A < 18446744073709551616 ^ 128 ∧ C < 18446744073709551616 ^ 128) A C w) := by
  have HX := Lib.hid (fun (W : World) (h : Below w.heap.size w W) => And.intro (h1.below h) (h2.below h))
  have HL := Lib.hid (lims_z hA hC)
  have HC2 : Hid (C < 18446744073709551616 ^ 1000) := (lims_z hC hA).1
  have HB0 := Lib.hid (Below.refl w.heap.size w)
  clear h1 h2 hA hC
  go_enter Tryz.func54, Tryz.ntmps54
  go_wp2_with fail
  refine (z_fits (HX.out _ HB0.out).1 HL.out.1).mono ?_
  rintro e w2 ⟨rfl, hb⟩
  have HB := Lib.hid hb
  clear hb
  by_cases hA : A < 18446744073709551616 ^ 128
  · rw [decide_eq_true hA]
    have HFA := Lib.hid hA
    clear hA
    go_wp2_with fail
    refine (z_fits (HX.out _ HB.out).2 HC2.out).mono ?_
    rintro e w3 ⟨rfl, hb⟩
    have HB := Lib.hid (HB.out.trans (hb.mono HB.out.size))
    clear hb
    by_cases hC : C < 18446744073709551616 ^ 128
    · rw [decide_eq_true hC]
      have HFC := Lib.hid hC
      clear hC
      have HE : Hid (QEnv w.heap.size w3 []) := ⟨HB.out.size, fun _ h => by cases h⟩
      go_wp2_with fail
      refine (q_form HE.out (HX.out _ HB.out).2 HC2.out).mono ?_
      rintro e w4 ⟨u, rfl, hE, hb⟩
      obtain ⟨au, ku, cu, hu, hk0⟩ := hE.opens (v := u) (n := C) List.mem_cons_self
      subst hu
      have HQ := Lib.hid hE
      have HB := Lib.hid (HB.out.trans (hb.mono HB.out.size))
      clear hE hb
      by_cases h0 : ku = 0
      · subst h0
        have HZ := Lib.hid (hk0.1 rfl)
        clear hk0
        go_wp2
        go_ret3
        exact DvPost.none HB.out (.inr (.inl ⟨⟨HFA.out, HFC.out⟩, HZ.out, rfl, rfl, rfl⟩))
      · have hq : ((ku : Int) == 0) = false := by simp; omega
        have HZ : Hid (0 < C) := Nat.pos_of_ne_zero fun h => h0 (hk0.2 h)
        clear hk0 h0
        go_wp2_with fail
        refine (q_over HQ.out (HX.out _ HB.out).1 (HX.out _ HB.out).2 HZ.out HL.out.1).mono ?_
        rintro e w5 ⟨q, r, rfl, hE, hb⟩
        have HB5 := Lib.hid (HB.out.trans (hb.mono HB.out.size))
        obtain ⟨z1, o1, n1, -⟩ := hE.2 (q, A / C) (by repeat first | exact List.mem_cons_self | apply List.mem_cons_of_mem)
        obtain ⟨z2, o2, n2, -⟩ := hE.2 (r, A % C) (by repeat first | exact List.mem_cons_self | apply List.mem_cons_of_mem)
        obtain ⟨b1, d1, e1, -⟩ := own64.form o1
        obtain ⟨b2, d2, e2, -⟩ := own64.form o2
        have e1 : q = .slice b1 z1.length d1 := e1
        have e2 : r = .slice b2 z2.length d2 := e2
        subst e1 e2
        have HO : Hid (own64 w5 w.heap.size (.slice b1 z1.length d1) z1 ∧ own64 w5 w.heap.size (.slice b2 z2.length d2) z2) := ⟨o1, o2⟩
        have HNN : Hid (Num z1 (A / C) ∧ Num z2 (A % C)) := ⟨n1, n2⟩
        have HPP : Hid (DvPost (A < 18446744073709551616 ^ 128 ∧ C < 18446744073709551616 ^ 128) A C w (.returned (.tuple #[.slice b1 z1.length d1, .slice b2 z2.length d2, .int .i64 0])) w5) := ⟨HB5.out, b1, d1, b2, d2, 0, z1, z2, rfl, HO.out.1, HO.out.2, .inr (.inr ⟨⟨HFA.out, HFC.out⟩, HZ.out, rfl, HNN.out.1, HNN.out.2⟩)⟩
        clear hE hb o1 o2 n1 n2 HO HNN
        generalize z1.length = y1 at *
        generalize z2.length = y2 at *
        go_wp2
        go_ret3
        exact HPP.out
    · rw [decide_eq_false hC]
      have HFC := Lib.hid hC
      clear hC
      go_wp2
      go_ret3
      exact DvPost.none HB.out (.inl ⟨fun h => HFC.out h.2, rfl, rfl, rfl⟩)
  · rw [decide_eq_false hA]
    have HFA := Lib.hid hA
    clear hA
    go_wp2
    go_ret3
    exact DvPost.none HB.out (.inl ⟨fun h => HFA.out h.1, rfl, rfl, rfl⟩)
theorem p_norm {w : World} {va : Value} {A : Nat} (h1 : Raw w va A) :
    Calls Tryz.prog 43 #[va] w (MPost (ZTells True A) w) := by
  obtain ⟨a, ca, xs, rfl, hca, hna, hr1, hb1, rfl, hl1⟩ := h1
  have i1 := fl_iff (k := 128) hb1
  refine (norm_any a _ ca xs w rfl (Nat.le_trans hl1 (by decide)) hca hna hr1 hb1).mono ?_
  rintro e w' ⟨hb, hor⟩
  rcases hor with ⟨h, rfl⟩ | ⟨h, hn, v, zs, rfl, ho, hN⟩
  · exact MPost.none hb (.inl ⟨fun g => h ⟨i1.2 g.2, g.2⟩, rfl, rfl⟩)
  · obtain ⟨a', c', rfl, _⟩ := own64.form ho
    exact ⟨hb, a', c', 0, zs, rfl, ho, .inr ⟨trivial, hn, rfl, hN⟩⟩
theorem p_add {w : World} {va vb : Value} {A C : Nat} (h1 : Raw w va A) (h2 : Raw w vb C) :
    Calls Tryz.prog 44 #[va, vb] w (MPost (ZTells (A < 18446744073709551616 ^ 128 ∧ C < 18446744073709551616 ^ 128) (A + C)) w) := by
  obtain ⟨a, ca, xs, rfl, hca, hna, hr1, hb1, rfl, hl1⟩ := h1
  obtain ⟨b, cb, ys, rfl, hcb, hnb, hr2, hb2, rfl, hl2⟩ := h2
  have i1 := fl_iff (k := 128) hb1
  have i2 := fl_iff (k := 128) hb2
  refine (add_any a b _ _ ca cb xs ys w rfl rfl (Nat.le_trans hl1 (by decide)) (Nat.le_trans hl2 (by decide)) hca hcb hr1 hr2 hb1 hb2).mono ?_
  rintro e w' ⟨hb, hor⟩
  rcases hor with ⟨h, rfl⟩ | ⟨h, hn, v, zs, rfl, ho, hN⟩
  · exact MPost.none hb (.inl ⟨fun g => h ⟨⟨i1.2 g.1.1, i2.2 g.1.2⟩, g.2⟩, rfl, rfl⟩)
  · obtain ⟨a', c', rfl, _⟩ := own64.form ho
    exact ⟨hb, a', c', 0, zs, rfl, ho, .inr ⟨⟨i1.1 h.1, i2.1 h.2⟩, hn, rfl, hN⟩⟩
theorem p_mul {w : World} {va vb : Value} {A C : Nat} (h1 : Raw w va A) (h2 : Raw w vb C) (hT : Trig w) :
    Calls Tryz.prog 46 #[va, vb] w (MPost (ZTells (A < 18446744073709551616 ^ 128 ∧ C < 18446744073709551616 ^ 128) (A * C)) w) := by
  obtain ⟨a, ca, xs, rfl, hca, hna, hr1, hb1, rfl, hl1⟩ := h1
  obtain ⟨b, cb, ys, rfl, hcb, hnb, hr2, hb2, rfl, hl2⟩ := h2
  have i1 := fl_iff (k := 128) hb1
  have i2 := fl_iff (k := 128) hb2
  refine (mul_any a b _ _ ca cb xs ys w rfl rfl (Nat.le_trans hl1 (by decide)) (Nat.le_trans hl2 (by decide)) hca hcb hr1 hr2 hb1 hb2 hT).mono ?_
  rintro e w' ⟨hb, hor⟩
  rcases hor with ⟨h, rfl⟩ | ⟨h, hn, v, zs, rfl, ho, hN⟩
  · exact MPost.none hb (.inl ⟨fun g => h ⟨⟨i1.2 g.1.1, i2.2 g.1.2⟩, g.2⟩, rfl, rfl⟩)
  · obtain ⟨a', c', rfl, _⟩ := own64.form ho
    exact ⟨hb, a', c', 0, zs, rfl, ho, .inr ⟨⟨i1.1 h.1, i2.1 h.2⟩, hn, rfl, hN⟩⟩
theorem p_sub {w : World} {va vb : Value} {A C : Nat} (h1 : Raw w va A) (h2 : Raw w vb C) :
    Calls Tryz.prog 45 #[va, vb] w (MPost (SbTells (A < 18446744073709551616 ^ 128 ∧ C < 18446744073709551616 ^ 128) A C) w) := by
  obtain ⟨a, ca, xs, rfl, hca, hna, hr1, hb1, rfl, hl1⟩ := h1
  obtain ⟨b, cb, ys, rfl, hcb, hnb, hr2, hb2, rfl, hl2⟩ := h2
  have i1 := fl_iff (k := 128) hb1
  have i2 := fl_iff (k := 128) hb2
  refine (sub_any a b _ _ ca cb xs ys w rfl rfl (Nat.le_trans hl1 (by decide)) (Nat.le_trans hl2 (by decide)) hca hcb hna hr1 hr2 hb1 hb2).mono ?_
  rintro e w' ⟨hb, hor⟩
  rcases hor with ⟨h, rfl⟩ | ⟨g1, g2, h, rfl⟩ | ⟨g1, g2, h, v, zs, rfl, ho, hN⟩
  · exact MPost.none hb (.inl ⟨fun g => by have := i1.2 g.1; have := i2.2 g.2; omega, rfl, rfl⟩)
  · exact MPost.none hb (.inr (.inl ⟨⟨i1.1 g1, i2.1 g2⟩, h, rfl, rfl⟩))
  · obtain ⟨a', c', rfl, _⟩ := own64.form ho
    exact ⟨hb, a', c', 0, zs, rfl, ho, .inr (.inr ⟨⟨i1.1 g1, i2.1 g2⟩, h, rfl, hN⟩)⟩
theorem p_gcd {w : World} {va vb : Value} {A C : Nat} (h1 : Raw w va A) (h2 : Raw w vb C) (hT : Tz w) :
    Calls Tryz.prog 48 #[va, vb] w (MPost (GcTells (A < 18446744073709551616 ^ 128 ∧ C < 18446744073709551616 ^ 128) (Nat.gcd A C)) w) := by
  obtain ⟨a, ca, xs, rfl, hca, hna, hr1, hb1, rfl, hl1⟩ := h1
  obtain ⟨b, cb, ys, rfl, hcb, hnb, hr2, hb2, rfl, hl2⟩ := h2
  have i1 := fl_iff (k := 128) hb1
  have i2 := fl_iff (k := 128) hb2
  refine (gcd_any a b _ _ ca cb xs ys w rfl rfl (Nat.le_trans hl1 (by decide)) (Nat.le_trans hl2 (by decide)) hca hcb hna hnb hr1 hr2 hb1 hb2 hT).mono ?_
  rintro e w' ⟨hb, hor⟩
  rcases hor with ⟨h, rfl⟩ | ⟨h, v, zs, rfl, ho, hN⟩
  · exact MPost.none hb (.inl ⟨fun g => h ⟨i1.2 g.1, i2.2 g.2⟩, rfl, rfl⟩)
  · obtain ⟨a', c', rfl, _⟩ := own64.form ho
    exact ⟨hb, a', c', 0, zs, rfl, ho, .inr ⟨⟨i1.1 h.1, i2.1 h.2⟩, rfl, hN⟩⟩
theorem p_div {w : World} {va vb : Value} {A C : Nat} (h1 : Raw w va A) (h2 : Raw w vb C) :
    Calls Tryz.prog 47 #[va, vb] w (fun e w' => DvPost (A < 18446744073709551616 ^ 128 ∧ C < 18446744073709551616 ^ 128) A C w e w' ∧ ∀ v1 v2 k, e = .returned (.tuple #[v1, v2, .int .i64 k]) → ∀ q, v1.ownBlock = some q → v2.ownBlock ≠ some q) := by
  obtain ⟨a, ca, xs, rfl, hca, hna, hr1, hb1, rfl, hl1⟩ := h1
  obtain ⟨b, cb, ys, rfl, hcb, hnb, hr2, hb2, rfl, hl2⟩ := h2
  have i1 := fl_iff (k := 128) hb1
  have i2 := fl_iff (k := 128) hb2
  refine (quo_all a b _ _ ca cb xs ys w rfl rfl (Nat.le_trans hl1 (by decide)) (Nat.le_trans hl2 (by decide)) hca hcb hna hr1 hr2 hb1 hb2).mono ?_
  rintro e w' ⟨hb, hor⟩
  rcases hor with ⟨h, rfl⟩ | ⟨g1, g2, h, rfl⟩ | ⟨g1, g2, h, q, r, qs, rs, rfl, oq, or, nq, nr, hap⟩
  · refine ⟨DvPost.none hb (.inl ⟨fun g => by have := i1.2 g.1; have := i2.2 g.2; omega, rfl, rfl, rfl⟩), ?_⟩
    intro v1 v2 k he
    simp only [Ending.returned.injEq, Value.tuple.injEq, Array.mk.injEq, List.cons.injEq] at he
    obtain ⟨rfl, rfl, _⟩ := he
    exact fun q hq => by cases hq
  · refine ⟨DvPost.none hb (.inr (.inl ⟨⟨i1.1 g1, i2.1 g2⟩, h, rfl, rfl, rfl⟩)), ?_⟩
    intro v1 v2 k he
    simp only [Ending.returned.injEq, Value.tuple.injEq, Array.mk.injEq, List.cons.injEq] at he
    obtain ⟨rfl, rfl, _⟩ := he
    exact fun q hq => by cases hq
  · obtain ⟨a1, c1, rfl, _⟩ := own64.form oq
    obtain ⟨a2, c2, rfl, _⟩ := own64.form or
    refine ⟨⟨hb, a1, c1, a2, c2, 0, qs, rs, rfl, oq, or, .inr (.inr ⟨⟨i1.1 g1, i2.1 g2⟩, h, rfl, nq, nr⟩)⟩, ?_⟩
    intro v1 v2 k he
    simp only [Ending.returned.injEq, Value.tuple.injEq, Array.mk.injEq, List.cons.injEq] at he
    obtain ⟨rfl, rfl, _⟩ := he
    exact hap
end Go.Proofs.YtfjhmnbbjknflaaGreatDoor
