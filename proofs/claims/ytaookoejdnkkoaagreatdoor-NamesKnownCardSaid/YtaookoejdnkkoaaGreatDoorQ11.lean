import Derived.Test.YtaookoejdnkkoaaGreatDoorQ09
import Derived.Test.YtaookoejdnkkoaaGreatDoorQ08
import Derived.Test.YtaookoejdnkkoaaGreatDoorQ10
import Derived.Test.YtaookoejdnkkoaaGreatDoorQ07
namespace Go.Proofs.YtaookoejdnkkoaaGreatDoor
open Go.RowKit

/-! The reference: Check, Size, a number in so many bytes. -/
theorem rr_cmp {w : World} {va vb : Value} {A C : Nat} (ga : Raw w va A) (gb : Raw w vb C) :
    Calls Tryz.prog 97 #[va, vb] w fun e w' => Below w.heap.size w w' ∧ ((A < C ∧ e = .returned (.int .i64 (-1))) ∨ (A = C ∧ e = .returned (.int .i64 0)) ∨ (C < A ∧ e = .returned (.int .i64 1))) := by
  obtain ⟨a, ca, xs, rfl, h1, _, hr1, hb1, rfl, hl1⟩ := ga
  obtain ⟨b, cb, ys, rfl, h2, _, hr2, hb2, rfl, hl2⟩ := gb
  refine (rcmpW_any a b _ ca _ cb xs ys w rfl rfl (by omega) (by omega) hr1 hr2 hb1 hb2).mono ?_
  rintro e w' ⟨rfl, hb⟩
  refine ⟨hb, ?_⟩
  unfold cmpI
  rcases Nat.lt_trichotomy (val xs) (val ys) with h | h | h
  · exact .inl ⟨h, by rw [if_pos h]⟩
  · exact .inr (.inl ⟨h, by rw [if_neg (by omega), if_pos h]⟩)
  · exact .inr (.inr ⟨h, by rw [if_neg (by omega), if_neg (by omega)]⟩)
theorem rr_length {w : World} {v : Value} {n : Nat} (h : Raw w v n) :
    Calls Tryz.prog 96 #[v] w fun e w' => Below w.heap.size w w' ∧ e = .returned (.int .i64 (bitsN n : Nat)) := by
  obtain ⟨a, c, zs, rfl, h1, _, hr, hb, rfl, hl⟩ := h
  refine (rlength_any a _ c zs w rfl (by omega) hr hb).mono ?_
  rintro e w' ⟨k, rfl, hk, hb⟩
  exact ⟨hb, by rw [hk.eq]⟩
theorem Raw.bits {w : World} {v : Value} {n : Nat} (h : Raw w v n) : bitsN n ≤ 64000 := by
  obtain ⟨a, c, zs, rfl, h1, _, hr, hb, rfl, hl⟩ := h
  have h2 := (fl_iff hb (k := 1000)).1 (by have := (fl_spec zs).1; omega)
  exact (bits_fits (bits_is _) (m := 1000)).2 h2
theorem rr_form {w : World} {v : Value} {n : Nat} (h : Raw w v n) :
    Calls Tryz.prog 95 #[v] w fun e w' => Below w.heap.size w w' ∧ ∃ a c zs, e = .returned (.slice a zs.length c) ∧ own64 w' w.heap.size (.slice a zs.length c) zs ∧ Num zs n ∧ Raw w' (.slice a zs.length c) n := by
  obtain ⟨a, c, zs, rfl, h1, _, hr, hb, rfl, hl⟩ := h
  have h2 := (fl_iff hb (k := 1000)).1 (by have := (fl_spec zs).1; omega)
  refine (rform_any a _ c zs w rfl (by omega) hr hb).mono ?_
  rintro e w' ⟨v, ys, rfl, ho, hN, hb⟩
  obtain ⟨a1, c1, rfl, _⟩ := own64.form ho
  exact ⟨hb, a1, c1, ys, rfl, ho, hN, raw_of_own ho hN h2⟩
theorem head_cell {w : World} {a : Option Addr} {x : Nat} {t : List Nat} (h : Rd .u64 w a (x :: t)) : ∃ b off, a = some ⟨b, off, none⟩ ∧ w.cell? ⟨b, off, none⟩ = some (.int .u64 (x : Nat)) := by
  obtain ⟨b, off, rfl⟩ := h.isAt (by simp)
  have hc := h.cell (i := 0) (by simp)
  exact ⟨b, off, rfl, by simpa [at0] using hc⟩
theorem num_cons {zs : List Nat} {N : Nat} (h : Num zs N) (h0 : 0 < N) : ∃ x t, zs = x :: t ∧ x % 2 = N % 2 := by
  cases zs with
  | nil => exfalso; have := h.vl; simp [val] at this; omega
  | cons x t => exact ⟨x, t, rfl, by rw [← h.vl, val_cons]; omega⟩
theorem mod2_cases (x : Nat) : (x % 2 = 0 ∧ (x : Int) % 2 = 0 ∧ (x : Int).tmod 2 = 0) ∨ (x % 2 = 1 ∧ (x : Int) % 2 = 1 ∧ (x : Int).tmod 2 = 1) := by
  rcases (show x % 2 = 0 ∨ x % 2 = 1 by omega) with h | h
  · exact .inl ⟨h, by omega, by rw [Int.tmod_eq_emod_of_nonneg (by omega)]; omega⟩
  · exact .inr ⟨h, by omega, by rw [Int.tmod_eq_emod_of_nonneg (by omega)]; omega⟩
set_option maxHeartbeats 1600000 in
set_option maxRecDepth 100000 in
theorem r8check {w : World} {vN vE : Value} {N E : Nat} (gN : Raw w vN N) (gE : Raw w vE E) :
    Calls Tryz.prog 43 #[.agg #[vN, vE]] w fun e w' => Below w.heap.size w w' ∧ ((KeyOk N E ∧ e = .returned (.int .i64 0)) ∨ (¬ KeyOk N E ∧ e = .returned (.int .i64 80))) := by
  have HK0 := KeyAt.new gN gE
  obtain ⟨aN, lN, cN, rfl⟩ := gN.sl
  obtain ⟨aE, lE, cE, rfl⟩ := gE.sl
  obtain ⟨W0, hW0⟩ : ∃ W0, W0 = w.alloc (KB (.slice aN lN cN) (.slice aE lE cE)) := ⟨_, rfl⟩
  have hB : Below w.heap.size w W0 := by rw [hW0]; exact (Below.refl _ _).alloc (Nat.le_refl _) _
  rw [← hW0] at HK0
  have hc0 := HK0.c0
  have hc1 := HK0.c1
  have HK := Lib.hid HK0
  have HB := Lib.hid hB
  have HW := Lib.hid hW0
  clear HK0 hB gN gE hW0
  go_enter Tryz.func43, Tryz.ntmps43
  go_upto_region 1 with fail
  rw [← HW.out]
  clear HW
  have HK := Lib.hid (HK.out.below (Below.refl _ _).drew)
  have HB := Lib.hid HB.out.drew
  go_region_held3 (fun W => W.cell? ⟨w.heap.size, 0, none⟩ = some (.slice aN lN cN) ∧ W.cell? ⟨w.heap.size, 1, none⟩ = some (.slice aE lE cE))
    (first | exact ⟨HK.out.c0, HK.out.c1⟩)
    (first
      | (go_at_call 95; (with_reducible refine (rr_form HK.out.rN).mono ?_)
         rintro e w1 ⟨hb, a1, c1, zN, rfl, ho1, hN1, hR1⟩
         have HK := Lib.hid (HK.out.below hb)
         have HB := Lib.hid (HB.out.trans (hb.mono HB.out.size)))
      | (go_at_call 95; (with_reducible refine (rr_form HK.out.rE).mono ?_)
         rintro e w2 ⟨hb2, a2, c2, zE, rfl, ho2, hN2, hR2⟩
         have HK := Lib.hid (HK.out.below hb2)
         have HB := Lib.hid (HB.out.trans (hb2.mono HB.out.size))))
  clear hc0 hc1
  rename_i hHeld
  clear hHeld
  have HR1 := Lib.hid (hR1.below hb2)
  have HR2 := Lib.hid hR2
  have HN1 := Lib.hid hN1
  have HN2 := Lib.hid hN2
  have HD1 := Lib.hid ((own64.rd ho1).2.below hb2)
  have HD2 := Lib.hid (own64.rd ho2).2
  clear hb hb2 ho1 ho2 hN1 hN2 hR1 hR2
  obtain ⟨n1, hn1⟩ : ∃ n, n = zN.length := ⟨_, rfl⟩
  obtain ⟨n2, hn2⟩ : ∃ n, n = zE.length := ⟨_, rfl⟩
  rw [← hn1] at HR1 ⊢
  rw [← hn2] at HR2 ⊢
  have HL1 := Lib.hid hn1
  have HL2 := Lib.hid hn2
  clear hn1 hn2
  go_wp2_with fail
  refine (rr_length HR1.out).mono ?_
  rintro e w3 ⟨hb, rfl⟩
  have HR1 := Lib.hid (HR1.out.below hb)
  have HR2 := Lib.hid (HR2.out.below hb)
  have HD1 := Lib.hid (HD1.out.below hb)
  have HD2 := Lib.hid (HD2.out.below hb)
  have HB := Lib.hid (HB.out.trans (hb.mono HB.out.size))
  clear hb
  obtain ⟨k, hk⟩ : ∃ k, k = bitsN N := ⟨_, rfl⟩
  rw [← hk]
  have HKK := Lib.hid hk
  clear hk HK
  by_cases h1 : 368 ≤ k
  · by_cases h2 : k ≤ 4096
    · have q1 : decide ((k : Int) < 368) = false := decide_eq_false (by omega)
      have q2 : decide ((4096 : Int) < (k : Int)) = false := decide_eq_false (by omega)
      have HH := Lib.hid (And.intro h1 h2)
      have hpos : 0 < N := by
        rcases Nat.eq_zero_or_pos N with h | h
        · exfalso; have := HKK.out; rw [h] at this; simp [bitsN] at this; omega
        · exact h
      obtain ⟨x, t, hzN, hxm⟩ := num_cons HN1.out hpos
      have hd := HD1.out
      rw [hzN] at hd
      obtain ⟨b1, o1, rfl, hcx⟩ := head_cell hd
      have h1pos : (0 : Int) < (n1 : Int) := by have := HL1.out; rw [hzN] at this; simp at this; omega
      have HXM := Lib.hid hxm
      clear hd hzN h1 h2 hpos hxm
      rcases mod2_cases x with ⟨hx, m1, m2⟩ | ⟨hx, m1, m2⟩
      · have HX := Lib.hid hx
        clear hx
        go_wp2
        go_ret
        exact ⟨HB.out, .inr ⟨fun h => by have := h.2.2.1; have := HX.out; have := HXM.out; omega, rfl⟩⟩
      · have HX := Lib.hid hx
        clear hx
        rcases Nat.eq_zero_or_pos E with h0 | h0
        · have hn0 : n2 = 0 := by rw [HL2.out, HN2.out.unique (h0 ▸ Num.nil)]; rfl
          have HE0 := Lib.hid h0
          subst hn0
          clear h0
          go_wp2
          go_ret
          exact ⟨HB.out, .inr ⟨fun h => by have := h.2.2.2.2.1; have := HE0.out; omega, rfl⟩⟩
        · obtain ⟨y, u, hzE, hym⟩ := num_cons HN2.out h0
          have hd := HD2.out
          rw [hzE] at hd
          obtain ⟨b2, o2, rfl, hcy⟩ := head_cell hd
          have h2pos : (0 : Int) < (n2 : Int) := by have := HL2.out; rw [hzE] at this; simp at this; omega
          have hne : ((n2 : Int) == 0) = false := by simp; omega
          have HYM := Lib.hid hym
          clear hd hzE hym h0
          rcases mod2_cases y with ⟨hy, l1, l2⟩ | ⟨hy, l1, l2⟩
          · have HY := Lib.hid hy
            clear hy
            go_wp2
            go_ret
            exact ⟨HB.out, .inr ⟨fun h => by have := h.2.2.2.1; have := HY.out; have := HYM.out; omega, rfl⟩⟩
          · have HY := Lib.hid hy
            clear hy
            go_wp2_with fail
            refine (r4small_any 3 _ (by decide)).mono ?_
            rintro e w4 ⟨a3, c3, z3, rfl, ho3, hN3, hb⟩
            have HR3 := Lib.hid (raw_of_own ho3 hN3 (by decide +kernel))
            have HR1 := Lib.hid (HR1.out.below hb)
            have HR2 := Lib.hid (HR2.out.below hb)
            have HB := Lib.hid (HB.out.trans (hb.mono HB.out.size))
            generalize z3.length = n3 at *
            clear hb ho3 hN3 hcx hcy
            go_wp2_with fail
            refine (rr_cmp HR2.out HR3.out).mono ?_
            rintro e w5 ⟨hb, hor⟩
            have HR1 := Lib.hid (HR1.out.below hb)
            have HR2 := Lib.hid (HR2.out.below hb)
            have HB := Lib.hid (HB.out.trans (hb.mono HB.out.size))
            have key : (E < 3 ∧ e = .returned (.int .i64 (-1))) ∨ (3 ≤ E ∧ ∃ k : Int, (k = 0 ∨ k = 1) ∧ e = .returned (.int .i64 k)) := by
              rcases hor with ⟨h, rfl⟩ | ⟨h, rfl⟩ | ⟨h, rfl⟩
              · exact .inl ⟨h, rfl⟩
              · exact .inr ⟨by omega, 0, .inl rfl, rfl⟩
              · exact .inr ⟨by omega, 1, .inr rfl, rfl⟩
            clear hor hb
            rcases key with ⟨h3, rfl⟩ | ⟨h3, k3, hk3, rfl⟩
            · have H3 := Lib.hid h3
              clear h3
              go_wp2
              go_ret
              exact ⟨HB.out, .inr ⟨fun h => by have := h.2.2.2.2.1; have := H3.out; omega, rfl⟩⟩
            · have H3 := Lib.hid h3
              have p1 : decide (k3 < (0 : Int)) = false := decide_eq_false (by omega)
              clear h3 hk3
              go_wp2_with fail
              refine (rr_cmp HR2.out HR1.out).mono ?_
              rintro e w6 ⟨hb, hor⟩
              have HB := Lib.hid (HB.out.trans (hb.mono HB.out.size))
              have key : (E < N ∧ e = .returned (.int .i64 (-1))) ∨ (N ≤ E ∧ ∃ k : Int, (k = 0 ∨ k = 1) ∧ e = .returned (.int .i64 k)) := by
                rcases hor with ⟨h, rfl⟩ | ⟨h, rfl⟩ | ⟨h, rfl⟩
                · exact .inl ⟨h, rfl⟩
                · exact .inr ⟨by omega, 0, .inl rfl, rfl⟩
                · exact .inr ⟨by omega, 1, .inr rfl, rfl⟩
              clear hor hb
              rcases key with ⟨h4, rfl⟩ | ⟨h4, k4, hk4, rfl⟩
              · have H4 := Lib.hid h4
                clear h4
                go_wp2
                go_ret
                exact ⟨HB.out, .inl ⟨⟨by rw [← HKK.out]; exact HH.out.1, by rw [← HKK.out]; exact HH.out.2, by have := HX.out; have := HXM.out; omega, by have := HY.out; have := HYM.out; omega, H3.out, H4.out⟩, rfl⟩⟩
              · have H4 := Lib.hid h4
                have p2 : decide ((0 : Int) ≤ k4) = true := decide_eq_true (by omega)
                have p3 : (0 : Int) ≤ k4 := by omega
                clear h4 hk4
                go_wp2
                go_ret
                exact ⟨HB.out, .inr ⟨fun h => by have := h.2.2.2.2.2; have := H4.out; omega, rfl⟩⟩
    · have q1 : decide ((k : Int) < 368) = false := decide_eq_false (by omega)
      have q2 : decide ((4096 : Int) < (k : Int)) = true := decide_eq_true (by omega)
      have HH := Lib.hid h2
      clear h1 h2
      go_wp2
      go_ret
      exact ⟨HB.out, .inr ⟨fun h => HH.out (by rw [HKK.out]; exact h.2.1), rfl⟩⟩
  · have q1 : decide ((k : Int) < 368) = true := decide_eq_true (by omega)
    have HH := Lib.hid h1
    clear h1
    go_wp2
    go_ret
    exact ⟨HB.out, .inr ⟨fun h => HH.out (by rw [HKK.out]; exact h.1), rfl⟩⟩

/-! The reference: Raise, Encoded, Verify. -/

/-- Two digits a byte. -/
def pairUp : List Nat → List Nat
  | [] => []
  | [a] => [a]
  | a :: b :: t => (16 * a + b) :: pairUp t
def D16 (l : List Nat) : Prop := ∀ x ∈ l, x < 16
theorem pairUp_len : ∀ l : List Nat, (pairUp l).length = (l.length + 1) / 2
  | [] => rfl
  | [_] => by simp [pairUp]
  | _ :: _ :: t => by simp only [pairUp, List.length_cons, pairUp_len t]; omega
theorem pairUp_hex : ∀ l : List Nat, D16 l → l.length % 2 = 0 → hexL (pairUp l) = l.map hexD
  | [], _, _ => rfl
  | [_], _, h => by simp at h
  | a :: b :: t, hd, h => by
    have ha := hd a (by simp)
    have hb := hd b (by simp)
    have e := pairUp_hex t (fun x hx => hd x (by simp [hx])) (by simp at h; omega)
    simp only [pairUp, hexL, List.map_cons, e]
    rw [show (16 * a + b) / 16 = a by omega, show (16 * a + b) % 16 = b by omega]
theorem pairUp_8 : ∀ l : List Nat, D16 l → B8 (pairUp l)
  | [], _ => fun x hx => by cases hx
  | [a], hd => fun x hx => by
    have ha := hd a (by simp)
    simp [pairUp] at hx
    omega
  | a :: b :: t, hd => fun x hx => by
    have ha := hd a (by simp)
    have hb := hd b (by simp)
    simp only [pairUp, List.mem_cons] at hx
    rcases hx with rfl | hx
    · omega
    · exact pairUp_8 t (fun x hx => hd x (by simp [hx])) x hx
/-- One digit more. -/
theorem pairUp_step : ∀ (l : List Nat) (w r : Nat), D16 l → w < 16 → l.length % 2 = 0 ∧ 0 < r ∨ l.length % 2 = 1 →
    ∃ x, x < 16 ∧ at0 (pairUp l ++ List.replicate r 0) (l.length / 2) = x ∧
      (pairUp l ++ List.replicate r 0).set (l.length / 2) (x * 16 + w) = pairUp (l ++ [w]) ++ List.replicate (r - (1 - l.length % 2)) 0
  | [], w, r, _, _, h => by
    obtain ⟨n, rfl⟩ : ∃ n, r = n + 1 := ⟨r - 1, by simp at h; omega⟩
    refine ⟨0, by omega, rfl, ?_⟩
    simp [pairUp, List.replicate_succ]
  | [a], w, r, hd, _, _ => by
    refine ⟨a, hd a (by simp), by simp [pairUp, at0], ?_⟩
    simp only [pairUp, List.length_cons, List.length_nil, List.cons_append, List.nil_append]
    simp
    omega
  | a :: b :: t, w, r, hd, hw, h => by
    obtain ⟨x, hx, e1, e2⟩ := pairUp_step t w r (fun x hx => hd x (by simp [hx])) hw (by simp at h; omega)
    have e3 : (a :: b :: t).length / 2 = t.length / 2 + 1 := by simp only [List.length_cons]; omega
    have e4 : (a :: b :: t).length % 2 = t.length % 2 := by simp only [List.length_cons]; omega
    refine ⟨x, hx, ?_, ?_⟩
    · rw [e3]
      show at0 ((16 * a + b) :: (pairUp t ++ List.replicate r 0)) (t.length / 2 + 1) = x
      rw [at0_cons_succ]
      exact e1
    · rw [e3, e4]
      show ((16 * a + b) :: (pairUp t ++ List.replicate r 0)).set (t.length / 2 + 1) (x * 16 + w) = _
      rw [List.set_cons_succ, e2]
      rfl
theorem hexL_mem : ∀ (c : List Nat), B8 c → ∀ x ∈ hexL c, ∃ d, d < 16 ∧ x = hexD d
  | [], _, x, hx => by cases hx
  | b :: t, h, x, hx => by
    have hb := h.head
    simp only [hexL, List.mem_cons] at hx
    rcases hx with rfl | rfl | hx
    · exact ⟨b / 16, by omega, rfl⟩
    · exact ⟨b % 16, by omega, rfl⟩
    · exact hexL_mem t h.tail x hx
theorem unhex_odd {l : List Nat} (h : l.length % 2 = 1) : UnhexTells l 60 [] := .inr ⟨rfl, rfl, fun c _ he => by
  have := congrArg List.length he
  rw [hexL_len, List.length_map] at this
  omega⟩
theorem unhex_no {l : List Nat} {i : Nat} (h : i < l.length) (hn : ∀ d, d < 16 → hexD d ≠ low (at0 l i)) : UnhexTells l 60 [] := .inr ⟨rfl, rfl, fun c hc he => by
  have h1 : low (at0 l i) ∈ hexL c := by rw [he, at0_getElem h]; exact List.mem_map_of_mem (List.getElem_mem h)
  obtain ⟨d, hd, e⟩ := hexL_mem c hc _ h1
  exact hn d hd e.symm⟩
theorem unhex_high {l : List Nat} {i : Nat} (h : i < l.length) (hn : 128 ≤ at0 l i) : UnhexTells l 60 [] := unhex_no h fun d hd e => by
  have h1 := hexD_lt hd
  rw [e] at h1
  have := low_of_lt h1
  omega
theorem unhex_yes {l ws : List Nat} (hd : D16 ws) (hm : ws.map hexD = l.map low) (h : l.length % 2 = 0) : UnhexTells l 0 (pairUp ws) := .inl ⟨rfl, pairUp_8 ws hd, by
  have hl : ws.length = l.length := by simpa using congrArg List.length hm
  rw [pairUp_hex ws hd (by omega), hm]⟩
theorem Chg.iterAt (w : World) (k : Nat) (s : ByteArray) (p : Nat) : Chg (fun i => i = k) w (w.iterAt k s p) := ⟨rfl, rfl, rfl, by rw [Lib.iterAt_size]; exact Nat.le_refl _, fun i _ hi => Lib.iterAt_other w k i s p hi⟩
theorem or4 (x w : Nat) (hx : x < 16) (hw : w < 16) : bits BinOp.or IntKind.u8 ((x : Int) * 16 % 256) (w : Int) = ((x * 16 + w : Nat) : Int) := by
  have : ∀ x w : Fin 16, bits BinOp.or IntKind.u8 ((x.val : Int) * 16 % 256) (w.val : Int) = ((x.val * 16 + w.val : Nat) : Int) := by decide
  exact this ⟨x, hx⟩ ⟨w, hw⟩
theorem bsN_at (s : ByteArray) (i : Nat) (h : i < s.size) : at0 (bsN s) i = (s[i]'h).toNat := by
  rw [at0_getElem (by rw [bsN_len]; exact h)]
  simp only [bsN, List.getElem_map]
  rfl

def UnhexPost (l : List Nat) (w : World) (e : Ending) (w' : World) : Prop :=
  Below w.heap.size w w' ∧ ∃ v k b, e = .returned (.tuple #[v, .int .i64 k]) ∧ own8 w' w.heap.size v b ∧ UnhexTells l k b ∧ b.length ≤ l.length
theorem UnhexPost.no {l : List Nat} {w w' : World} (hb : Below w.heap.size w w') (h : UnhexTells l 60 []) : UnhexPost l w (.returned (.tuple #[.slice none 0 0, .int .i64 60])) w' :=
  ⟨hb, _, _, [], rfl, World.ownsRow_nil _ _ _ _, h, Nat.zero_le _⟩

set_option maxHeartbeats 2000000 in
set_option maxRecDepth 100000 in
theorem unhex_any (s : ByteArray) (n : Nat) (w : World) (hn : s.size = n) (hbig : n ≤ 1099511627776) (hT : HT w) :
    Calls Tryz.prog 175 #[.string s] w (UnhexPost (bsN s) w) := by
  have hbl := bsN_len s
  obtain ⟨l, hl⟩ : ∃ l, l = bsN s := ⟨_, rfl⟩
  rw [← hl] at hbl ⊢
  rw [hn] at hbl
  have HSZ := Lib.hid hn
  have HLS := Lib.hid hl
  have HT0 := Lib.hid hT
  have HLN := Lib.hid hbl
  clear hT
  by_cases hodd : n % 2 = 1
  · have hq : ((n : Int) % 2 != 0) = true := by simp; omega
    have hp : UnhexTells l 60 [] := unhex_odd (by rw [hbl]; exact hodd)
    have HP := Lib.hid hp
    clear hp hl hbl
    go_enter Tryz.func175, Tryz.ntmps175
    go_wp2
    go_ret2
    exact UnhexPost.no (Below.refl _ _) HP.out
  · obtain ⟨m, hm⟩ : ∃ m, n = 2 * m := ⟨n / 2, by omega⟩
    have hq : ((n : Int) % 2 != 0) = false := by simp; omega
    have hq2 : (n : Int) / 2 = (m : Int) := by omega
    have HM := Lib.hid hm
    clear hm hl hbl hodd
    go_enter Tryz.func175, Tryz.ntmps175
    go_wp2_with (at_make; refine wpl_make8s rfl _ _ rfl w.heap.size _ _ _ _ m rfl rfl (by omega) (by omega) (by have := HM.out; omega) (Nat.le_refl _) ?_; intro w1 hown1 hb1 hlt1)
    have hit1 := World.iter_heap w1 s 0
    have hown2 := World.ownsRow.alloc hown1 (.stringIter s 0)
    have hb2 : Below w.heap.size w (w1.iter s 0) := hb1.alloc (by omega) _
    have HI := Lib.hid hit1
    have HO := Lib.hid hown2
    have HB := Lib.hid hb2
    have hgl : w.heap.size < w1.heap.size := hlt1
    clear hit1 hown1 hown2 hb1 hb2 hlt1
    obtain ⟨K, hK⟩ : ∃ K, K = w1.heap.size := ⟨_, rfl⟩
    rw [← hK] at HI hgl ⊢
    have HK := Lib.hid hK
    clear hK
    go_loopw [] (fun wr => ∃ (p : Nat) (ws : List Nat), p ≤ n ∧ Hid (ws.length = p) ∧ Hid (D16 ws) ∧ Hid (ws.map hexD = (l.take p).map low) ∧ Hid (wr.heap[K]? = some (.stringIter s p)) ∧
      Hid (wr.ownsRow w.heap.size 5 1 (.slice (some ⟨w.heap.size, 0, none⟩) m m) m (u8s (pairUp ws ++ List.replicate (m - (p + 1) / 2) 0))) ∧ Hid (Below w.heap.size w wr)) (fun wr => n - wr.iterPos K)
    case atStart => exact ⟨0, [], Nat.zero_le _, rfl, (fun x hx => by cases hx), rfl, HI.out, HO.out, HB.out⟩
    case round =>
      obtain ⟨p, ws, hp, HW, HD, HWM, HI, HO, HB⟩ := hrel
      have hitp : wr.iterPos K = p := by simp [World.iterPos, HI.out]
      by_cases hpn : p < n
      · have hsz := (Array.getElem?_eq_some_iff.1 HI.out).1
        have hps : p < s.size := by omega
        obtain ⟨c, hc⟩ : ∃ c, c = (s[p]'hps).toNat := ⟨_, rfl⟩
        have hat : at0 l p = c := by rw [HLS.out, bsN_at s p hps, hc]
        have HAT := Lib.hid hat
        clear hat
        by_cases hc7 : c < 128
        · have hnx0 := fun ty => Lib.run_next_ascii_at (P := Tryz.prog) wr K s p ty HI.out hps (by omega)
          rw [← hc] at hnx0
          obtain ⟨w2, hw2⟩ : ∃ w2, w2 = wr.iterAt K s (p + 1) := ⟨_, rfl⟩
          have c2 : Chg (fun i => i = K) wr w2 := by rw [hw2]; exact Chg.iterAt wr K s (p + 1)
          have HI2 : Hid (w2.heap[K]? = some (.stringIter s (p + 1))) := by show _ = _; rw [hw2]; exact Lib.iterAt_heap wr K s p (p + 1) HI.out
          have HO2 := Lib.hid (c2.owns HO.out (fun k hk => by simp [Value.ownBlock] at hk; omega))
          have HB2 := Lib.hid (HB.out.trans (c2.below HB.out.size (fun k hk => by omega)))
          have HT2 := Lib.hid (HT0.out.below HB2.out)
          rw [← hw2] at hnx0
          have hnx : ∀ ty, (Instr.next (.pointer (some ⟨K, 0, none⟩)) true ty).run Tryz.prog wr = _ := hnx0
          clear hnx0 hw2 c2 hc HI HO HB
          rcases hw_cases c hc7 with ⟨h1, h2⟩ | ⟨d, hd, h1, h2⟩
          · have HN := Lib.hid (unhex_no (l := l) (i := p) (by rw [HLN.out]; exact hpn) (by rw [HAT.out]; exact h2))
            clear h2
            have H1 := Lib.hid h1
            clear h1
            go_wp2_with (go_at_call 208; refine (whex_no c _ hc7 HT2.out H1.out).mono ?_; rintro e w3 ⟨rfl, rfl⟩)
            go_ret2
            exact UnhexPost.no HB2.out HN.out
          · have hm := HM.out
            obtain ⟨x, hx, e1, e2⟩ := pairUp_step ws d (m - (p + 1) / 2) HD.out hd (by have := HW.out; omega)
            rw [HW.out] at e1 e2
            obtain ⟨q, hq3⟩ : ∃ q, q = p / 2 := ⟨_, rfl⟩
            rw [← hq3] at e1 e2
            have hqm : q < m := by omega
            have hql : q < (pairUp ws ++ List.replicate (m - (p + 1) / 2) 0).length := by
              have := HW.out
              rw [List.length_append, pairUp_len, List.length_replicate]
              omega
            have hcell : w2.cell? ⟨w.heap.size, q, none⟩ = some (.int .u8 (x : Nat)) := by
              rw [World.ownsRow.cellAt HO2.out q (by omega), u8s_ats _ q hql, e1]
            have hfz : w2.frozen? ⟨w.heap.size, q, none⟩ = false := World.ownsRow.frozenAt HO2.out q
            have hd1 : (p : Int) / 2 = (q : Int) := by omega
            obtain ⟨y, hy⟩ : ∃ y, y = x * 16 + d := ⟨_, rfl⟩
            have ho : bits BinOp.or IntKind.u8 ((x : Int) * 16 % 256) (d : Int) = (y : Int) := by rw [hy]; exact or4 x d hx hd
            have hst := ow8.set HO2.out q y
            rw [hy, e2] at hst
            rw [← hy] at hst
            have e3 : m - (p + 1) / 2 - (1 - p % 2) = m - (p + 1 + 1) / 2 := by omega
            rw [e3] at hst
            have HO3 : Hid (World.ownsRow (w2.setCell ⟨w.heap.size, q, none⟩ (.int .u8 (y : Nat))) _ _ _ _ _ _) := hst
            have HB3 : Hid (Below w.heap.size w (w2.setCell ⟨w.heap.size, q, none⟩ (.int .u8 (y : Nat)))) := HB2.out.setCell (p := ⟨w.heap.size, q, none⟩) (Nat.le_refl _) _
            have hkk : w.heap.size ≠ K := by omega
            have HI3 : Hid ((w2.setCell ⟨w.heap.size, q, none⟩ (.int .u8 (y : Nat))).heap[K]? = some (.stringIter s (p + 1))) := by
              show _ = _
              rw [Below.heap_setCell _ _ _ _ (fun e => hkk e.symm)]
              exact HI2.out
            have HX := Lib.hid hx
            have HY := Lib.hid hy
            have HQ := Lib.hid hq3
            have HM2 := Lib.hid hm
            have HD1 := Lib.hid h1
            have HL2 := Lib.hid h2
            clear hst hx hy hq3 e1 e2 e3 hm hql h1 h2 HO2 HB2 hkk
            go_wp2_with (go_at_call 208; refine (whex_yes c d _ hc7 HT2.out hd HD1.out).mono ?_; rintro e w3 ⟨rfl, rfl⟩)
            go_roundw
            case rel =>
              refine ⟨p + 1, ws ++ [d], by omega, ?_, ?_, ?_, HI3.out, HO3.out, HB3.out⟩
              · show _ = _; rw [List.length_append, HW.out]; rfl
              · show ∀ x ∈ _, _
                intro x hx
                rcases List.mem_append.1 hx with h | h
                · exact HD.out x h
                · simp at h; omega
              · show _ = _
                rw [List.map_append, HWM.out, take_succ_at0 (by rw [HLN.out]; exact hpn), HAT.out]
                simp [HL2.out]
            case measure =>
              have : ∀ W : World, W.heap[K]? = some (.stringIter s (p + 1)) → W.iterPos K = p + 1 := fun W h => by simp [World.iterPos, h]
              rw [this _ HI3.out, hitp]
              omega
        · have hnx0 := fun ty => Lib.run_next_any_at (P := Tryz.prog) wr K s p ty HI.out hps
          have hr1 := (decode_high s p hps (by omega)).1
          have hr2 := decode_le s p
          obtain ⟨w2, hw2⟩ : ∃ w2, w2 = wr.iterAt K s (p + (Utf8.decode s p).2) := ⟨_, rfl⟩
          have c2 : Chg (fun i => i = K) wr w2 := by rw [hw2]; exact Chg.iterAt wr K s _
          have HB2 := Lib.hid (HB.out.trans (c2.below HB.out.size (fun k hk => by omega)))
          rw [← hw2] at hnx0
          generalize (Utf8.decode s p).1 = r at hnx0 hr1 hr2
          have hnx : ∀ ty, (Instr.next (.pointer (some ⟨K, 0, none⟩)) true ty).run Tryz.prog wr = _ := hnx0
          have HN := Lib.hid (unhex_high (l := l) (i := p) (by rw [HLN.out]; exact hpn) (by rw [HAT.out]; omega))
          clear hnx0 hw2 c2 hc HI HO HB
          go_wp2_with (go_at_call 208; refine (whex_high r _ (by omega) (by omega)).mono ?_; rintro e w3 ⟨rfl, rfl⟩)
          go_ret2
          exact UnhexPost.no HB2.out HN.out
      · obtain rfl : p = n := by omega
        have hm := HM.out
        have hnx : ∀ ty, (Instr.next (.pointer (some ⟨K, 0, none⟩)) true ty).run Tryz.prog wr = _ := fun ty => Lib.run_next_end_at wr K s p ty HI.out (by omega)
        have hp : UnhexTells l 0 (pairUp ws) := unhex_yes HD.out (by rw [HWM.out, List.take_of_length_le (by rw [HLN.out]; exact Nat.le_refl _)]) (by rw [HLN.out]; omega)
        have hlen : (pairUp ws).length = m := by rw [pairUp_len, HW.out]; omega
        have hO := HO.out
        rw [show m - (p + 1) / 2 = 0 by omega, List.replicate_zero, List.append_nil] at hO
        have hO2 : own8 wr w.heap.size (.slice (some ⟨w.heap.size, 0, none⟩) m m) (pairUp ws) := by show wr.ownsRow _ _ _ _ _ _; rw [hlen]; exact hO
        have HP := Lib.hid hp
        have HLEN := Lib.hid hlen
        have HOO := Lib.hid hO2
        have HBB := Lib.hid HB.out
        have HMM := Lib.hid hm
        clear hp hlen hO hO2 HO HB hm
        go_wp2
        go_ret2
        exact ⟨HBB.out, _, _, _, rfl, HOO.out, HP.out, by rw [HLEN.out, HLN.out]; have := HMM.out; omega⟩
end Go.Proofs.YtaookoejdnkkoaaGreatDoor
