import Derived.Test.YtaookoejdnkkoaaGreatDoorKOpK
import Derived.Test.YtaookoejdnkkoaaGreatDoorKRp
import Derived.Test.YtaookoejdnkkoaaGreatDoorKRe
import Derived.Test.YtaookoejdnkkoaaGreatDoorKModR
namespace Go.Proofs.YtaookoejdnkkoaaGreatDoor
open Go.RowKit

/-! The reference: Check, Size, a number in so many bytes. -/
theorem rr_cmp {w : World} {va vb : Value} {A C : Nat} (ga : Raw w va A) (gb : Raw w vb C) :
    Calls Tryz.prog 97 #[va, vb] w fun e w' => Below w.heap.size w w' ∧ ((A < C ∧ e = .returned (.int .i64 (-1))) ∨ (A = C ∧ e = .returned (.int .i64 0)) ∨ (C < A ∧ e = .returned (.int .i64 1))) := by
  obtain ⟨a, ca, xs, rfl, h1, _, hr1, hb1, rfl, hl1⟩ := ga
  obtain ⟨b, cb, ys, rfl, h2, _, hr2, hb2, rfl, hl2⟩ := gb
  refine (rcmpW_any a b _ ca _ cb xs ys w rfl rfl (by omega) (by omega) hr1 hr2 hb1 hb2).mono ?_
  rintro e w' ⟨rfl, hb⟩
  refine ⟨hb, ?_⟩
  unfold cmpI
  rcases Nat.lt_trichotomy (val xs) (val ys) with h | h | h
  · exact .inl ⟨h, by rw [if_pos h]⟩
  · exact .inr (.inl ⟨h, by rw [if_neg (by omega), if_pos h]⟩)
  · exact .inr (.inr ⟨h, by rw [if_neg (by omega), if_neg (by omega)]⟩)
theorem rr_length {w : World} {v : Value} {n : Nat} (h : Raw w v n) :
    Calls Tryz.prog 96 #[v] w fun e w' => Below w.heap.size w w' ∧ e = .returned (.int .i64 (bitsN n : Nat)) := by
  obtain ⟨a, c, zs, rfl, h1, _, hr, hb, rfl, hl⟩ := h
  refine (rlength_any a _ c zs w rfl (by omega) hr hb).mono ?_
  rintro e w' ⟨k, rfl, hk, hb⟩
  exact ⟨hb, by rw [hk.eq]⟩
theorem Raw.bits {w : World} {v : Value} {n : Nat} (h : Raw w v n) : bitsN n ≤ 64000 := by
  obtain ⟨a, c, zs, rfl, h1, _, hr, hb, rfl, hl⟩ := h
  have h2 := (fl_iff hb (k := 1000)).1 (by have := (fl_spec zs).1; omega)
  exact (bits_fits (bits_is _) (m := 1000)).2 h2
theorem rr_form {w : World} {v : Value} {n : Nat} (h : Raw w v n) :
    Calls Tryz.prog 95 #[v] w fun e w' => Below w.heap.size w w' ∧ ∃ a c zs, e = .returned (.slice a zs.length c) ∧ own64 w' w.heap.size (.slice a zs.length c) zs ∧ Num zs n ∧ Raw w' (.slice a zs.length c) n := by
  obtain ⟨a, c, zs, rfl, h1, _, hr, hb, rfl, hl⟩ := h
  have h2 := (fl_iff hb (k := 1000)).1 (by have := (fl_spec zs).1; omega)
  refine (rform_any a _ c zs w rfl (by omega) hr hb).mono ?_
  rintro e w' ⟨v, ys, rfl, ho, hN, hb⟩
  obtain ⟨a1, c1, rfl, _⟩ := own64.form ho
  exact ⟨hb, a1, c1, ys, rfl, ho, hN, raw_of_own ho hN h2⟩
set_option maxHeartbeats 800000 in
theorem r8size {w : World} {vN vE : Value} {N : Nat} (gN : Raw w vN N) (hE : ∃ a l c, vE = .slice a l c) :
    Calls Tryz.prog 60 #[.agg #[vN, vE]] w fun e w' => Below w.heap.size w w' ∧ e = .returned (.int .i64 (szN N : Nat)) := by
  have hbb := gN.bits
  obtain ⟨aN, lN, cN, rfl⟩ := gN.sl
  obtain ⟨aE, lE, cE, rfl⟩ := hE
  obtain ⟨W0, hW0⟩ : ∃ W0, W0 = w.alloc (KB (.slice aN lN cN) (.slice aE lE cE)) := ⟨_, rfl⟩
  have hB : Below w.heap.size w W0 := by rw [hW0]; exact (Below.refl _ _).alloc (Nat.le_refl _) _
  have HR := Lib.hid (gN.below hB)
  have HB := Lib.hid hB
  obtain ⟨k, hk⟩ : ∃ k, k = bitsN N := ⟨_, rfl⟩
  rw [← hk] at hbb
  have HKK : Hid (szN N = (k + 7) / 8 ∧ k = bitsN N) := ⟨by rw [szN, hk], hk⟩
  clear hB gN hk
  go_enter Tryz.func60, Tryz.ntmps60
  go_wp2_with fail
  rw [← hW0]
  clear hW0
  refine (rr_length HR.out).mono ?_
  rw [← HKK.out.2]
  rintro e w' ⟨hb, rfl⟩
  have HB := Lib.hid (HB.out.trans (hb.mono HB.out.size))
  clear hb
  go_wp2
  go_ret
  refine ⟨HB.out, ?_⟩
  rw [HKK.out.1]
  rfl
set_option maxHeartbeats 800000 in
set_option maxRecDepth 100000 in
theorem r8laid {w : World} {va : Value} {A : Nat} (ga : Raw w va A) (n : Nat) (hA : A < 18446744073709551616 ^ 128) (hn : szN A ≤ n) (hnb : n ≤ 100000) :
    Calls Tryz.prog 77 #[va, .int .i64 (n : Nat)] w fun e w' => Below w.heap.size w w' ∧ ∃ v l, e = .returned v ∧ BNum l A ∧ own8 w' w.heap.size v (padL n l) := by
  obtain ⟨a, c, xs, rfl, h1, h2, hr, hb, rfl, hl⟩ := ga
  have HC := Lib.hid (rbytes_any a _ c xs w rfl (by omega) hr hb)
  have HF : Hid (fl xs ≤ 128) := (fl_iff hb).2 hA
  have HZ := Lib.hid hn
  obtain ⟨P, hP⟩ : ∃ P, P = val xs := ⟨_, rfl⟩
  rw [← hP] at HZ ⊢
  have HP := Lib.hid hP
  generalize xs.length = lx at *
  clear hA hn hb hr hl h1 h2 hP
  go_enter Tryz.func77, Tryz.ntmps77
  go_wp2_with fail
  refine HC.out.mono ?_
  rintro e w1 ⟨hb1, ab, cb, k, bs, rfl, ho, hbl, hT⟩
  obtain ⟨rfl, hB⟩ : k = 0 ∧ BNum bs P := by
    rw [HP.out]
    rcases hT with ⟨h, _⟩ | ⟨_, h, h'⟩
    · have := HF.out; omega
    · exact ⟨h, h'⟩
  have hsz := bnum_sz hB
  have HB1 := Lib.hid hb1
  have HBN := Lib.hid hB
  have HO := Lib.hid ho
  obtain ⟨m, hm⟩ : ∃ m, m = bs.length := ⟨_, rfl⟩
  have HM := Lib.hid hm
  have hmn : m ≤ n := by have := HZ.out; omega
  rw [← hm]
  clear hB ho hT hb1 hsz hbl hm HF HC
  go_wp2
  go_loopw [7, 8] (fun v iv wr => ∃ (i : Nat), m ≤ i ∧ i ≤ n ∧ iv = .int .i64 (i : Nat) ∧ Hid (wr.ownsRow w1.heap.size 5 1 v (i - m) (u8s (List.replicate (i - m) 0))) ∧ Hid (Below w1.heap.size w1 wr)) (fun _ iv _ => n - (intOf iv).toNat)
  case atStart => exact ⟨m, Nat.le_refl _, hmn, rfl, by show World.ownsRow _ _ _ _ _ _ _; rw [Nat.sub_self]; exact World.ownsRow_nil _ _ _ _, Below.refl _ _⟩
  case round =>
    obtain ⟨i, hmi, hi, rfl, HOV, HB⟩ := hrel
    by_cases hlt : i < n
    · have hq : decide ((i : Int) < (n : Int)) = true := decide_eq_true (by omega)
      have hsz := HB.out.size
      go_wp2_with (at_builtin; refine wpl_app 40 5 Tryz.underlying40 info8 rfl (by decide) rfl _ _ rfl w1.heap.size _ (i - m) (u8s (List.replicate (i - m) 0)) rfl (World.ownsRow.alloc HOV.out _) wr.heap.size _ rfl (World.cell?_alloc_at _ _ _ _ rfl) rfl (by omega) (by simp; omega) ?_; intro g cap' w2 hown2 hg2 hBg _ _; have HO2 := Lib.hid hown2; have HG2 := Lib.hid hg2; clear hown2 hg2)
      go_roundw
      case rel =>
        refine ⟨i + 1, by omega, by omega, by go_num, ?_, (HB.out.alloc HB.out.size _).grown HG2.out (by have := HB.out.size; simp; omega) (fun j hj => (World.ownsRow.lt HOV.out j hj).1)⟩
        show World.ownsRow _ _ _ _ _ _ _
        rw [show i + 1 - m = (i - m) + 1 by omega, List.replicate_succ', show u8s (List.replicate (i - m) 0 ++ [0]) = u8s (List.replicate (i - m) 0) ++ [.int .u8 0] by simp [u8s]]
        exact HO2.out
      case measure => simp [intOf]; omega
    · obtain rfl : i = n := by omega
      have hq : decide ((i : Int) < (i : Int)) = false := by simp
      have ho := own8_below HO.out HB.out
      obtain ⟨g, hg⟩ : ∃ g, g = i - m := ⟨_, rfl⟩
      rw [← hg] at HOV
      have HG := Lib.hid hg
      have hgm : g + m ≤ 4398046511104 := by omega
      have HR := Lib.hid (own8_rd2x ho)
      have hsz := HB.out.size
      clear ho hg
      go_wp2_with (at_builtin; refine wpl_appN 40 5 Tryz.underlying40 info8 rfl (by decide) rfl _ _ rfl w1.heap.size _ g (u8s (List.replicate g 0)) rfl HOV.out ab m cb rfl (u8s bs) (by rw [u8s_len, HM.out]) (fun h => HR.out.1.news (by rw [← HM.out]; exact h)) (fun _ h => HR.out.2 h) (u8s_one8 _) hgm hsz ?_; intro v5 w5 hown5 hg5 _ _; have HO5 := Lib.hid hown5; have HG5 := Lib.hid hg5; clear hown5 hg5)
      go_wp2
      go_ret
      refine ⟨HB1.out.trans ((HB.out.mono HB1.out.size).grown HG5.out (by have := HB1.out.size; have := HB.out.size; omega) (fun j hj => by have := (World.ownsRow.lt HOV.out j hj).1; have := HB1.out.size; omega)), _, bs, rfl, HBN.out, ?_⟩
      have h9 := owns_base HO5.out HB1.out.size
      show World.ownsRow _ _ _ _ _ _ _
      rw [show padL i bs = List.replicate g 0 ++ bs by rw [padL, HG.out, HM.out], show u8s (List.replicate g 0 ++ bs) = u8s (List.replicate g 0) ++ u8s bs by simp [u8s], List.length_append, List.length_replicate, ← HM.out]
      exact h9
theorem head_cell {w : World} {a : Option Addr} {x : Nat} {t : List Nat} (h : Rd .u64 w a (x :: t)) : ∃ b off, a = some ⟨b, off, none⟩ ∧ w.cell? ⟨b, off, none⟩ = some (.int .u64 (x : Nat)) := by
  obtain ⟨b, off, rfl⟩ := h.isAt (by simp)
  have hc := h.cell (i := 0) (by simp)
  exact ⟨b, off, rfl, by simpa [at0] using hc⟩
theorem num_cons {zs : List Nat} {N : Nat} (h : Num zs N) (h0 : 0 < N) : ∃ x t, zs = x :: t ∧ x % 2 = N % 2 := by
  cases zs with
  | nil => exfalso; have := h.vl; simp [val] at this; omega
  | cons x t => exact ⟨x, t, rfl, by rw [← h.vl, val_cons]; omega⟩
theorem mod2_cases (x : Nat) : (x % 2 = 0 ∧ (x : Int) % 2 = 0 ∧ (x : Int).tmod 2 = 0) ∨ (x % 2 = 1 ∧ (x : Int) % 2 = 1 ∧ (x : Int).tmod 2 = 1) := by
  rcases (show x % 2 = 0 ∨ x % 2 = 1 by omega) with h | h
  · exact .inl ⟨h, by omega, by rw [Int.tmod_eq_emod_of_nonneg (by omega)]; omega⟩
  · exact .inr ⟨h, by omega, by rw [Int.tmod_eq_emod_of_nonneg (by omega)]; omega⟩
set_option maxHeartbeats 1600000 in
set_option maxRecDepth 100000 in
theorem r8check {w : World} {vN vE : Value} {N E : Nat} (gN : Raw w vN N) (gE : Raw w vE E) :
    Calls Tryz.prog 43 #[.agg #[vN, vE]] w fun e w' => Below w.heap.size w w' ∧ ((KeyOk N E ∧ e = .returned (.int .i64 0)) ∨ (¬ KeyOk N E ∧ e = .returned (.int .i64 80))) := by
  have HK0 := KeyAt.new gN gE
  obtain ⟨aN, lN, cN, rfl⟩ := gN.sl
  obtain ⟨aE, lE, cE, rfl⟩ := gE.sl
  obtain ⟨W0, hW0⟩ : ∃ W0, W0 = w.alloc (KB (.slice aN lN cN) (.slice aE lE cE)) := ⟨_, rfl⟩
  have hB : Below w.heap.size w W0 := by rw [hW0]; exact (Below.refl _ _).alloc (Nat.le_refl _) _
  rw [← hW0] at HK0
  have hc0 := HK0.c0
  have hc1 := HK0.c1
  have HK := Lib.hid HK0
  have HB := Lib.hid hB
  have HW := Lib.hid hW0
  clear HK0 hB gN gE hW0
  go_enter Tryz.func43, Tryz.ntmps43
  go_upto_region 1 with fail
  rw [← HW.out]
  clear HW
  have HK := Lib.hid (HK.out.below (Below.refl _ _).drew)
  have HB := Lib.hid HB.out.drew
  go_region_held3 (fun W => W.cell? ⟨w.heap.size, 0, none⟩ = some (.slice aN lN cN) ∧ W.cell? ⟨w.heap.size, 1, none⟩ = some (.slice aE lE cE))
    (first | exact ⟨HK.out.c0, HK.out.c1⟩)
    (first
      | (go_at_call 95; (with_reducible refine (rr_form HK.out.rN).mono ?_)
         rintro e w1 ⟨hb, a1, c1, zN, rfl, ho1, hN1, hR1⟩
         have HK := Lib.hid (HK.out.below hb)
         have HB := Lib.hid (HB.out.trans (hb.mono HB.out.size)))
      | (go_at_call 95; (with_reducible refine (rr_form HK.out.rE).mono ?_)
         rintro e w2 ⟨hb2, a2, c2, zE, rfl, ho2, hN2, hR2⟩
         have HK := Lib.hid (HK.out.below hb2)
         have HB := Lib.hid (HB.out.trans (hb2.mono HB.out.size))))
  clear hc0 hc1
  rename_i hHeld
  clear hHeld
  have HR1 := Lib.hid (hR1.below hb2)
  have HR2 := Lib.hid hR2
  have HN1 := Lib.hid hN1
  have HN2 := Lib.hid hN2
  have HD1 := Lib.hid ((own64.rd ho1).2.below hb2)
  have HD2 := Lib.hid (own64.rd ho2).2
  clear hb hb2 ho1 ho2 hN1 hN2 hR1 hR2
  obtain ⟨n1, hn1⟩ : ∃ n, n = zN.length := ⟨_, rfl⟩
  obtain ⟨n2, hn2⟩ : ∃ n, n = zE.length := ⟨_, rfl⟩
  rw [← hn1] at HR1 ⊢
  rw [← hn2] at HR2 ⊢
  have HL1 := Lib.hid hn1
  have HL2 := Lib.hid hn2
  clear hn1 hn2
  go_wp2_with fail
  refine (rr_length HR1.out).mono ?_
  rintro e w3 ⟨hb, rfl⟩
  have HR1 := Lib.hid (HR1.out.below hb)
  have HR2 := Lib.hid (HR2.out.below hb)
  have HD1 := Lib.hid (HD1.out.below hb)
  have HD2 := Lib.hid (HD2.out.below hb)
  have HB := Lib.hid (HB.out.trans (hb.mono HB.out.size))
  clear hb
  obtain ⟨k, hk⟩ : ∃ k, k = bitsN N := ⟨_, rfl⟩
  rw [← hk]
  have HKK := Lib.hid hk
  clear hk HK
  by_cases h1 : 368 ≤ k
  · by_cases h2 : k ≤ 4096
    · have q1 : decide ((k : Int) < 368) = false := decide_eq_false (by omega)
      have q2 : decide ((4096 : Int) < (k : Int)) = false := decide_eq_false (by omega)
      have HH := Lib.hid (And.intro h1 h2)
      have hpos : 0 < N := by
        rcases Nat.eq_zero_or_pos N with h | h
        · exfalso; have := HKK.out; rw [h] at this; simp [bitsN] at this; omega
        · exact h
      obtain ⟨x, t, hzN, hxm⟩ := num_cons HN1.out hpos
      have hd := HD1.out
      rw [hzN] at hd
      obtain ⟨b1, o1, rfl, hcx⟩ := head_cell hd
      have h1pos : (0 : Int) < (n1 : Int) := by have := HL1.out; rw [hzN] at this; simp at this; omega
      have HXM := Lib.hid hxm
      clear hd hzN h1 h2 hpos hxm
      rcases mod2_cases x with ⟨hx, m1, m2⟩ | ⟨hx, m1, m2⟩
      · have HX := Lib.hid hx
        clear hx
        go_wp2
        go_ret
        exact ⟨HB.out, .inr ⟨fun h => by have := h.2.2.1; have := HX.out; have := HXM.out; omega, rfl⟩⟩
      · have HX := Lib.hid hx
        clear hx
        rcases Nat.eq_zero_or_pos E with h0 | h0
        · have hn0 : n2 = 0 := by rw [HL2.out, HN2.out.unique (h0 ▸ Num.nil)]; rfl
          have HE0 := Lib.hid h0
          subst hn0
          clear h0
          go_wp2
          go_ret
          exact ⟨HB.out, .inr ⟨fun h => by have := h.2.2.2.2.1; have := HE0.out; omega, rfl⟩⟩
        · obtain ⟨y, u, hzE, hym⟩ := num_cons HN2.out h0
          have hd := HD2.out
          rw [hzE] at hd
          obtain ⟨b2, o2, rfl, hcy⟩ := head_cell hd
          have h2pos : (0 : Int) < (n2 : Int) := by have := HL2.out; rw [hzE] at this; simp at this; omega
          have hne : ((n2 : Int) == 0) = false := by simp; omega
          have HYM := Lib.hid hym
          clear hd hzE hym h0
          rcases mod2_cases y with ⟨hy, l1, l2⟩ | ⟨hy, l1, l2⟩
          · have HY := Lib.hid hy
            clear hy
            go_wp2
            go_ret
            exact ⟨HB.out, .inr ⟨fun h => by have := h.2.2.2.1; have := HY.out; have := HYM.out; omega, rfl⟩⟩
          · have HY := Lib.hid hy
            clear hy
            go_wp2_with fail
            refine (r4small_any 3 _ (by decide)).mono ?_
            rintro e w4 ⟨a3, c3, z3, rfl, ho3, hN3, hb⟩
            have HR3 := Lib.hid (raw_of_own ho3 hN3 (by decide +kernel))
            have HR1 := Lib.hid (HR1.out.below hb)
            have HR2 := Lib.hid (HR2.out.below hb)
            have HB := Lib.hid (HB.out.trans (hb.mono HB.out.size))
            generalize z3.length = n3 at *
            clear hb ho3 hN3 hcx hcy
            go_wp2_with fail
            refine (rr_cmp HR2.out HR3.out).mono ?_
            rintro e w5 ⟨hb, hor⟩
            have HR1 := Lib.hid (HR1.out.below hb)
            have HR2 := Lib.hid (HR2.out.below hb)
            have HB := Lib.hid (HB.out.trans (hb.mono HB.out.size))
            have key : (E < 3 ∧ e = .returned (.int .i64 (-1))) ∨ (3 ≤ E ∧ ∃ k : Int, (k = 0 ∨ k = 1) ∧ e = .returned (.int .i64 k)) := by
              rcases hor with ⟨h, rfl⟩ | ⟨h, rfl⟩ | ⟨h, rfl⟩
              · exact .inl ⟨h, rfl⟩
              · exact .inr ⟨by omega, 0, .inl rfl, rfl⟩
              · exact .inr ⟨by omega, 1, .inr rfl, rfl⟩
            clear hor hb
            rcases key with ⟨h3, rfl⟩ | ⟨h3, k3, hk3, rfl⟩
            · have H3 := Lib.hid h3
              clear h3
              go_wp2
              go_ret
              exact ⟨HB.out, .inr ⟨fun h => by have := h.2.2.2.2.1; have := H3.out; omega, rfl⟩⟩
            · have H3 := Lib.hid h3
              have p1 : decide (k3 < (0 : Int)) = false := decide_eq_false (by omega)
              clear h3 hk3
              go_wp2_with fail
              refine (rr_cmp HR2.out HR1.out).mono ?_
              rintro e w6 ⟨hb, hor⟩
              have HB := Lib.hid (HB.out.trans (hb.mono HB.out.size))
              have key : (E < N ∧ e = .returned (.int .i64 (-1))) ∨ (N ≤ E ∧ ∃ k : Int, (k = 0 ∨ k = 1) ∧ e = .returned (.int .i64 k)) := by
                rcases hor with ⟨h, rfl⟩ | ⟨h, rfl⟩ | ⟨h, rfl⟩
                · exact .inl ⟨h, rfl⟩
                · exact .inr ⟨by omega, 0, .inl rfl, rfl⟩
                · exact .inr ⟨by omega, 1, .inr rfl, rfl⟩
              clear hor hb
              rcases key with ⟨h4, rfl⟩ | ⟨h4, k4, hk4, rfl⟩
              · have H4 := Lib.hid h4
                clear h4
                go_wp2
                go_ret
                exact ⟨HB.out, .inl ⟨⟨by rw [← HKK.out]; exact HH.out.1, by rw [← HKK.out]; exact HH.out.2, by have := HX.out; have := HXM.out; omega, by have := HY.out; have := HYM.out; omega, H3.out, H4.out⟩, rfl⟩⟩
              · have H4 := Lib.hid h4
                have p2 : decide ((0 : Int) ≤ k4) = true := decide_eq_true (by omega)
                have p3 : (0 : Int) ≤ k4 := by omega
                clear h4 hk4
                go_wp2
                go_ret
                exact ⟨HB.out, .inr ⟨fun h => by have := h.2.2.2.2.2; have := H4.out; omega, rfl⟩⟩
    · have q1 : decide ((k : Int) < 368) = false := decide_eq_false (by omega)
      have q2 : decide ((4096 : Int) < (k : Int)) = true := decide_eq_true (by omega)
      have HH := Lib.hid h2
      clear h1 h2
      go_wp2
      go_ret
      exact ⟨HB.out, .inr ⟨fun h => HH.out (by rw [HKK.out]; exact h.2.1), rfl⟩⟩
  · have q1 : decide ((k : Int) < 368) = true := decide_eq_true (by omega)
    have HH := Lib.hid h1
    clear h1
    go_wp2
    go_ret
    exact ⟨HB.out, .inr ⟨fun h => HH.out (by rw [HKK.out]; exact h.1), rfl⟩⟩

/-! The reference: Raise, Encoded, Verify. -/
theorem own8_litL (w : World) (l : List Nat) (n : Nat) (hn : n = l.length) (hb : n ≤ 1000) (cs : Array Value) (hc : cs = (u8s l).toArray) : own8 (w.alloc (.cells cs 5)) w.heap.size (.slice (some ⟨w.heap.size, 0, none⟩) n n) l := by
  subst hn hc
  refine ⟨by simp [u8s], .inr ⟨w.heap.size, l.length, (u8s l).toArray, rfl, Nat.le_refl _, heap_new w _, Nat.le_refl _, Nat.le_trans hb (by decide), by simp [u8s], ?_⟩⟩
  show (u8s l).toArray.toList.take (l.length * 1) = u8s l
  rw [Nat.mul_one]
  exact List.take_of_length_le (by simp [u8s])
set_option exponentiation.threshold 100000 in
set_option maxHeartbeats 800000 in
set_option maxRecDepth 100000 in
theorem r8raise {w : World} {vN vE vs : Value} {N E : Nat} {s : List Nat} (gN : Raw w vN N) (gE : Raw w vE E) (gs : Raw8 w vs s) (hs : s.length ≤ 1099511627776) :
    Calls Tryz.prog 67 #[.agg #[vN, vE], vs] w (BPost (RaiseTells N E s) w) := by
  have HK0 := KeyAt.new gN gE
  obtain ⟨aN, lN, cN, rfl⟩ := gN.sl
  obtain ⟨aE, lE, cE, rfl⟩ := gE.sl
  obtain ⟨W0, hW0⟩ : ∃ W0, W0 = w.alloc (KB (.slice aN lN cN) (.slice aE lE cE)) := ⟨_, rfl⟩
  have hB : Below w.heap.size w W0 := by rw [hW0]; exact (Below.refl _ _).alloc (Nat.le_refl _) _
  rw [← hW0] at HK0
  have hc0 := HK0.c0
  have hc1 := HK0.c1
  have HK := Lib.hid HK0
  have HB := Lib.hid hB
  have HS8 := Lib.hid (show B8 s by obtain ⟨_, _, _, _, _, _, h⟩ := gs; exact h)
  have HFR : Hid (∀ W, Below w.heap.size w W → Calls Tryz.prog 76 #[vs] W (FromPost s W)) := fun W hW => by
    obtain ⟨a, c, rfl, h1, _, h3, h4⟩ := gs.below hW
    exact rfrom_any a _ c s W rfl hs h4 h3
  obtain ⟨aS, cS, rfl, -⟩ := gs
  obtain ⟨ls, hls⟩ : ∃ ls, ls = s.length := ⟨_, rfl⟩
  rw [← hls] at HFR hs ⊢
  have HLS := Lib.hid hls
  have HW := Lib.hid hW0
  clear HK0 hB gN gE hls hW0
  go_enter Tryz.func67, Tryz.ntmps67
  go_wp2_with fail
  rw [← HW.out]
  clear HW
  refine (r8check HK.out.rN HK.out.rE).mono ?_
  rintro e w1 ⟨hb, hor⟩
  have HK := Lib.hid (HK.out.below hb)
  have HB := Lib.hid (HB.out.trans (hb.mono HB.out.size))
  clear hb hc0 hc1
  have hc0 := HK.out.c0
  have hc1 := HK.out.c1
  rcases hor with ⟨ho, rfl⟩ | ⟨ho, rfl⟩
  · have HO := Lib.hid ho
    clear ho
    go_wp2_with fail
    refine (r8size HK.out.rN ⟨_, _, _, rfl⟩).mono ?_
    rintro e w2 ⟨hb, rfl⟩
    have HK := Lib.hid (HK.out.below hb)
    have HB := Lib.hid (HB.out.trans (hb.mono HB.out.size))
    clear hb hc0 hc1
    have hc0 := HK.out.c0
    have hc1 := HK.out.c1
    obtain ⟨z, hz⟩ : ∃ z, z = szN N := ⟨_, rfl⟩
    rw [← hz]
    have HZ := Lib.hid hz
    have hzb : z ≤ 512 := by rw [hz]; exact HO.out.size.2
    clear hz
    by_cases hnz : ls = z
    · have HE := Lib.hid hnz
      have q1 : ((ls : Int) != (z : Int)) = false := by subst hnz; simp
      have hs2 : Hid (ls ≤ 512) := by show _ ≤ _; omega
      clear hnz
      go_wp2_with fail
      refine (HFR.out _ HB.out).mono ?_
      rintro e w3 ⟨hb, hor⟩
      have HK := Lib.hid (HK.out.below hb)
      clear hc0 hc1
      have hc0 := HK.out.c0
      have hc1 := HK.out.c1
      rcases hor with ⟨h, _⟩ | ⟨h, v, zs, rfl, ho, hnum⟩
      · exfalso
        have h1 := bval_lt HS8.out
        have h2 : (256 : Nat) ^ s.length ≤ 18446744073709551616 ^ 128 := by
          rw [show (18446744073709551616 : Nat) = 256 ^ 8 by decide, ← Nat.pow_mul]
          exact Nat.pow_le_pow_right (by decide) (by have := HLS.out; have := hs2.out; omega)
        omega
      · have hraw := raw_of_own ho hnum (Nat.lt_of_lt_of_le h (Nat.pow_le_pow_right (by decide) (by decide)))
        obtain ⟨ab, lb, cb, rfl⟩ := hraw.sl
        have HR := Lib.hid hraw
        have HB := Lib.hid (HB.out.trans (hb.mono HB.out.size))
        clear hb h ho hnum hraw
        go_wp2_with fail
        refine (rr_cmp HR.out HK.out.rN).mono ?_
        rintro e w4 ⟨hb, hor⟩
        have HR := Lib.hid (HR.out.below hb)
        have HK := Lib.hid (HK.out.below hb)
        have HB := Lib.hid (HB.out.trans (hb.mono HB.out.size))
        have key : (bval s < N ∧ e = .returned (.int .i64 (-1))) ∨ (N ≤ bval s ∧ ∃ k : Int, (k = 0 ∨ k = 1) ∧ e = .returned (.int .i64 k)) := by
          rcases hor with ⟨h, rfl⟩ | ⟨h, rfl⟩ | ⟨h, rfl⟩
          · exact .inl ⟨h, rfl⟩
          · exact .inr ⟨by omega, 0, .inl rfl, rfl⟩
          · exact .inr ⟨by omega, 1, .inr rfl, rfl⟩
        clear hor hb hc0 hc1
        rcases key with ⟨h3, rfl⟩ | ⟨h3, k2, hk, rfl⟩
        · have HSO : Hid (SigOk N s) := ⟨by rw [← HLS.out, HE.out, HZ.out], h3⟩
          have HLIM := Lib.hid (lim_128 HO.out.lim HSO.out.2)
          have HPL := Lib.hid (And.intro HO.out.pos HO.out.lim)
          obtain ⟨P, hP⟩ : ∃ P, P = bval s ^ E % N := ⟨_, rfl⟩
          have hPN : P < N := by rw [hP]; exact Nat.mod_lt _ HO.out.pos
          have HP := Lib.hid hP
          have HPN := Lib.hid hPN
          have hbig : P < 18446744073709551616 ^ 128 := lim_128 HO.out.lim hPN
          have HBI := Lib.hid hbig
          clear h3 hP hPN hbig
          go_upto_region 8 with fail
          have HK := Lib.hid (HK.out.below (Below.refl _ _).drew)
          have HR := Lib.hid (HR.out.below (Below.refl _ _).drew)
          have HB := Lib.hid HB.out.drew
          go_region_held3 (fun W => W.cell? ⟨w.heap.size, 0, none⟩ = some (.slice aN lN cN) ∧ W.cell? ⟨w.heap.size, 1, none⟩ = some (.slice aE lE cE))
            (first | exact ⟨HK.out.c0, HK.out.c1⟩)
            (first
              | (go_at_call 60; (with_reducible refine (r8size HK.out.rN ⟨_, _, _, rfl⟩).mono ?_)
                 rintro e w6 ⟨hb, rfl⟩
                 have HPP := Lib.hid (HPP.out.below hb)
                 have HK := Lib.hid (HK.out.below hb)
                 have HB := Lib.hid (HB.out.trans (hb.mono HB.out.size))
                 clear hb)
              | (go_at_call 77; (with_reducible refine (r8laid HPP.out (szN N) HBI.out (sz_mono (Nat.le_of_lt HPN.out)) (by have := HO.out.size; omega)).mono ?_)
                 rintro e w7 ⟨hb, v7, l7, rfl, hl7, ho7⟩
                 have HK := Lib.hid (HK.out.below hb)
                 have HS7 := Lib.hid HB.out.size
                 have HB := Lib.hid (HB.out.trans (hb.mono HB.out.size))
                 clear hb)
              | (go_at_call 78; (with_reducible refine (r4raised_any HK.out.rN HR.out HK.out.rE HPL.out.1 HPL.out.2 HLIM.out).mono ?_)
                 rintro e w5 ⟨vP, rfl, hQ, hb⟩
                 have hp := hQ.raw List.mem_cons_self
                 rw [← HP.out] at hp
                 have HPP := Lib.hid hp
                 obtain ⟨aP, lP, cP, rfl⟩ := hp.sl
                 have HK := Lib.hid (HK.out.below hb)
                 have HB := Lib.hid (HB.out.trans (hb.mono HB.out.size))
                 clear hb hQ hp))
          go_wp2
          go_ret2
          exact ⟨HB.out, v7, 0, _, rfl, owns_base ho7 HS7.out, RaiseTells.yes HO.out HSO.out HP.out hl7⟩
        · have HSO : Hid (¬ SigOk N s) := fun h => by have := h.2; omega
          have p2 : decide ((0 : Int) ≤ k2) = true := decide_eq_true (by omega)
          have p3 : (0 : Int) ≤ k2 := by omega
          clear h3 hk
          go_wp2
          go_ret2
          exact BPost.none HB.out (.inr (.inl ⟨HO.out, HSO.out, rfl, rfl⟩))
    · have HSO : Hid (¬ SigOk N s) := fun h => hnz (by rw [HLS.out, HZ.out]; exact h.1)
      have q1 : ((ls : Int) != (z : Int)) = true := by simpa using fun h => hnz (by omega)
      clear hnz hc0 hc1
      go_wp2
      go_ret2
      exact BPost.none HB.out (.inr (.inl ⟨HO.out, HSO.out, rfl, rfl⟩))
  · have HO := Lib.hid ho
    clear ho hc0 hc1
    go_wp2
    go_ret2
    exact BPost.none HB.out (.inl ⟨HO.out, rfl, rfl⟩)

theorem encL_pre (d : List Nat) (n q : Nat) (hq : n - 38 = q) : encL d n = ([0, 1] ++ List.replicate q 255 ++ midL) ++ d := by simp [encL, hq]
theorem u8s_appd (a b : List Nat) : u8s (a ++ b) = u8s a ++ u8s b := by simp [u8s]
set_option maxHeartbeats 800000 in
set_option maxRecDepth 100000 in
theorem r8encoded (d : List Nat) (z : Int) (w : World) (hd : d.length = 20) (h8 : B8 d) (hz1 : -9223372036854775808 ≤ z) (hz2 : z ≤ 9223372036854775807) :
    Calls Tryz.prog 57 #[.agg (u8s d).toArray, .int .i64 z] w fun e w' => Below w.heap.size w w' ∧ ∃ v k b, e = .returned (.tuple #[v, .int .i64 k]) ∧ EncdTells d z k b ∧ own8 w' w.heap.size v b := by
  have HC0 := Lib.hid (CB.new w 50 (u8s d))
  have HB0 := Lib.hid ((Below.refl w.heap.size w).alloc (Nat.le_refl _) (.cells (u8s d).toArray 50))
  by_cases hr : 46 ≤ z ∧ z ≤ 512
  · obtain ⟨n, rfl⟩ : ∃ n : Nat, z = (n : Int) := ⟨z.toNat, by omega⟩
    have q1 : decide ((n : Int) < 46) = false := decide_eq_false (by omega)
    have q2 : decide ((512 : Int) < (n : Int)) = false := decide_eq_false (by omega)
    obtain ⟨q, hq⟩ : ∃ q, n = 38 + q := ⟨n - 38, by omega⟩
    have hsub : (n : Int) - 38 = (q : Int) := by omega
    have hq1 : q ≤ 1000 := by omega
    have hsub2 : IntKind.i64.wrap (q : Int) = (q : Int) := wrap_i64_nat _ (by omega)
    have HT : Hid (EncdTells d n 0 (encL d n)) := .inr ⟨by omega, by omega, rfl, by rw [Int.toNat_natCast]⟩
    have HD := Lib.hid (And.intro hd h8)
    have HQ := Lib.hid (show n - 38 = q by omega)
    clear hr hz1 hz2 hq hd h8
    go_enter Tryz.func57, Tryz.ntmps57
    go_upto_region 3 with fail
    generalize w.alloc (.cells (u8s d).toArray 50) = W0 at *
    have HO2 := Lib.hid (own8_litL W0 [0, 1] 2 rfl (by decide) _ rfl)
    have HB2 : Hid (Below w.heap.size w (W0.alloc (.cells (u8s [0, 1]).toArray 5))) := HB0.out.alloc HB0.out.size _
    have HC2 := Lib.hid (HC0.out.alloc (.cells (u8s [0, 1]).toArray 5))
    have HLW := Lib.hid HC0.out.lt
    go_wp2
    go_loopw [6, 7] (fun v iv wr => ∃ (i : Nat), i ≤ q ∧ iv = .int .i64 (i : Nat) ∧ Hid (wr.ownsRow W0.heap.size 5 1 v (2 + i) (u8s ([0, 1] ++ List.replicate i 255))) ∧ Hid (Below w.heap.size w wr) ∧ Hid (CB wr 50 w.heap.size (u8s d)) ∧ Hid (W0.heap.size ≤ wr.heap.size)) (fun _ iv _ => q - (intOf iv).toNat)
    case atStart => exact ⟨0, Nat.zero_le _, rfl, HO2.out, HB2.out, HC2.out, by show _ ≤ _; simp⟩
    case round =>
      clear HO2 HB2 HC2
      obtain ⟨i, hi, rfl, HO, HB, HC, HS⟩ := hrel
      by_cases hlt : i < q
      · have hq : decide ((i : Int) < (q : Int)) = true := decide_eq_true (by omega)
        have hsz := HS.out
        go_wp2_with (at_builtin; refine wpl_app 40 5 Tryz.underlying40 info8 rfl (by decide) rfl _ _ rfl W0.heap.size _ (2 + i) (u8s ([0, 1] ++ List.replicate i 255)) rfl (World.ownsRow.alloc HO.out _) wr.heap.size _ rfl (World.cell?_alloc_at _ _ _ _ rfl) rfl (by omega) (by simp; omega) ?_; intro g cap' w2 hown2 hg2 hBg _ _; have HO3 := Lib.hid hown2; have HG3 := Lib.hid hg2; clear hown2 hg2)
        go_roundw
        case rel =>
          have hbw : Below W0.heap.size wr w2 := ((Below.refl W0.heap.size wr).alloc hsz _).grown HG3.out (by simp; omega) (fun j hj => (World.ownsRow.lt HO.out j hj).1)
          refine ⟨i + 1, by omega, by go_num, ?_, HB.out.trans (hbw.mono HB0.out.size), HC.out.belowB hbw HLW.out, Nat.le_trans hsz hbw.size⟩
          show World.ownsRow _ _ _ _ _ _ _
          rw [List.replicate_succ', ← List.append_assoc, u8s_appd ([0, 1] ++ List.replicate i 255) [255]]
          exact HO3.out
        case measure => simp [intOf]; omega
      · obtain rfl : i = q := by omega
        have hq : decide ((i : Int) < (i : Int)) = false := by simp
        have hsz := HS.out
        have HM := Lib.hid (own8_litL wr midL 16 rfl (by decide) _ rfl)
        have hn16 := (own8_rd2x HM.out).1.news (by decide)
        have hpre2 : 2 + i + 16 ≤ 2000 := by omega
        have hpre : 2 + i + 16 ≤ 4398046511104 := by omega
        have hszz : W0.heap.size ≤ (wr.alloc (.cells (u8s midL).toArray 5)).heap.size := by simp; omega
        obtain ⟨pre, hpr⟩ : ∃ pre, pre = [0, 1] ++ List.replicate i 255 := ⟨_, rfl⟩
        rw [← hpr] at HO
        have HPR := Lib.hid hpr
        obtain ⟨li, hli⟩ : ∃ li, li = 2 + i := ⟨_, rfl⟩
        rw [← hli] at HO hpre hpre2
        clear hpr hli
        go_wp2_with (at_builtin; refine wpl_appN 40 5 Tryz.underlying40 info8 rfl (by decide) rfl _ _ rfl W0.heap.size _ li (u8s pre) rfl (World.ownsRow.alloc HO.out _) (some ⟨wr.heap.size, 0, none⟩) 16 16 rfl (u8s midL) rfl (fun _ => hn16) (fun h => by cases h) (u8s_one8 _) hpre hszz ?_; intro v5 w5 hown5 hg5 _ _; have HO5 := Lib.hid hown5; have HG5 := Lib.hid hg5; clear hown5 hg5)
        have hbw : Below W0.heap.size wr w5 := ((Below.refl W0.heap.size wr).alloc hsz _).grown HG5.out (by simp; omega) (fun j hj => (World.ownsRow.lt HO.out j hj).1)
        have HB5 := Lib.hid (HB.out.trans (hbw.mono HB0.out.size))
        have HC5 := Lib.hid (HC.out.belowB hbw HLW.out)
        have HS5 := Lib.hid (Nat.le_trans hsz hbw.size)
        rw [← u8s_appd] at HO5
        obtain ⟨pr2, hp2⟩ : ∃ pr2, pr2 = pre ++ midL := ⟨_, rfl⟩
        rw [← hp2] at HO5
        have HP2 := Lib.hid hp2
        obtain ⟨l2, hl2⟩ : ∃ l2, l2 = li + 16 := ⟨_, rfl⟩
        rw [← hl2] at HO5 hpre2
        have hpre3 := hpre2
        clear hbw hp2 hl2 hn16 hpre hszz HM HO HB HC HS hsz hq hlt hi
        go_wp2
        go_loopw [6, 8] (fun v iv wr => ∃ (j : Nat), j ≤ 20 ∧ iv = .int .i64 (j : Nat) ∧ Hid (wr.ownsRow W0.heap.size 5 1 v (l2 + j) (u8s (pr2 ++ d.take j))) ∧ Hid (Below w.heap.size w wr) ∧ Hid (CB wr 50 w.heap.size (u8s d)) ∧ Hid (W0.heap.size ≤ wr.heap.size)) (fun _ iv _ => 20 - (intOf iv).toNat)
        case atStart => exact ⟨0, Nat.zero_le _, rfl, by show World.ownsRow _ _ _ _ _ _ _; rw [List.take_zero, List.append_nil]; exact HO5.out, HB5.out, HC5.out, HS5.out⟩
        case round =>
          clear HO5 HB5 HC5 HS5 HG5
          obtain ⟨j, hj, rfl, HO, HB, HC, HS⟩ := hrel
          by_cases hlt : j < 20
          · have hq : decide ((j : Int) < (20 : Int)) = true := decide_eq_true (by omega)
            have hsz := HS.out
            obtain ⟨x, hx⟩ : ∃ x, d[j]? = some x := ⟨_, List.getElem?_eq_getElem (by rw [HD.out.1]; exact hlt)⟩
            have hcell : wr.cell? ⟨w.heap.size, j, none⟩ = some (.int .u8 (x : Nat)) := by
              rw [HC.out.cell]
              simp [u8s, hx]
            have htk : Hid (d.take (j + 1) = d.take j ++ [x]) := by show _ = _; rw [List.take_add_one, hx]; rfl
            have hjb : (j : Int) < 20 := by omega
            have hj0 : (0 : Int) ≤ (j : Int) := by omega
            have hw8 : IntKind.i64.wrap (j : Int) = (j : Int) := wrap_i64_nat _ (by omega)
            clear hx
            go_wp2_with (at_builtin; refine wpl_app 40 5 Tryz.underlying40 info8 rfl (by decide) rfl _ _ rfl W0.heap.size _ (l2 + j) (u8s (pr2 ++ d.take j)) rfl (World.ownsRow.alloc HO.out _) wr.heap.size _ rfl (World.cell?_alloc_at _ _ _ _ rfl) rfl (by omega) (by simp; omega) ?_; intro g cap' w2 hown2 hg2 hBg _ _; have HO3 := Lib.hid hown2; have HG3 := Lib.hid hg2; clear hown2 hg2)
            go_roundw
            case rel =>
              have hbw : Below W0.heap.size wr w2 := ((Below.refl W0.heap.size wr).alloc hsz _).grown HG3.out (by simp; omega) (fun k hk => (World.ownsRow.lt HO.out k hk).1)
              refine ⟨j + 1, by omega, by go_num, ?_, HB.out.trans (hbw.mono HB0.out.size), HC.out.belowB hbw HLW.out, Nat.le_trans hsz hbw.size⟩
              show World.ownsRow _ _ _ _ _ _ _
              rw [htk.out, ← List.append_assoc, u8s_appd (pr2 ++ d.take j) [x]]
              exact HO3.out
            case measure => simp [intOf]; omega
          · obtain rfl : j = 20 := by omega
            have HLL : Hid (l2 + 20 = (encL d n).length ∧ u8s (pr2 ++ d.take 20) = u8s (encL d n)) := by
              have h1 : d.take 20 = d := List.take_of_length_le (by rw [HD.out.1]; exact Nat.le_refl _)
              have h2 : encL d n = pr2 ++ d := by rw [encL_pre d n i HQ.out, HP2.out, HPR.out]
              have h3 := HO.out.1
              rw [h1] at h3
              refine ⟨?_, by rw [h1, h2]⟩
              rw [h2]
              simp [u8s] at h3
              simp
              omega
            have hO := HO.out
            rw [HLL.out.1, HLL.out.2] at hO
            have HO := Lib.hid (owns_base hO HB0.out.size)
            clear hO
            go_wp2
            go_ret2
            exact ⟨HB.out, _, 0, _, rfl, HT.out, HO.out⟩
  · have hor : decide (z < 46) = true ∨ (decide (z < 46) = false ∧ decide ((512 : Int) < z) = true) := by
      by_cases h : z < 46
      · exact .inl (decide_eq_true h)
      · exact .inr ⟨decide_eq_false h, decide_eq_true (by omega)⟩
    have HT : Hid (EncdTells d z 81 []) := .inl ⟨by omega, rfl, rfl⟩
    clear hr
    rcases hor with q1 | ⟨q1, q2⟩
    all_goals
      go_enter Tryz.func57, Tryz.ntmps57
      go_wp2
      go_ret2
      exact ⟨HB0.out, _, 81, [], rfl, HT.out, World.ownsRow_nil _ _ _ _⟩

set_option maxHeartbeats 800000 in
set_option maxRecDepth 100000 in
theorem r8verify {w : World} {vN vE vm vs : Value} {N E : Nat} {m s : List Nat} (gN : Raw w vN N) (gE : Raw w vE E) (gm : Raw8 w vm m) (gs : Raw8 w vs s) (hm : m.length ≤ 549755813888) (hs : s.length ≤ 1099511627776) :
    Calls Tryz.prog 68 #[.agg #[vN, vE], vm, vs] w fun e w' => Below w.heap.size w w' ∧ ∃ v : Int, e = .returned (.int .i64 v) ∧ VerTells N E m s v := by
  have HK0 := KeyAt.new gN gE
  obtain ⟨aN, lN, cN, rfl⟩ := gN.sl
  obtain ⟨aE, lE, cE, rfl⟩ := gE.sl
  obtain ⟨W0, hW0⟩ : ∃ W0, W0 = w.alloc (KB (.slice aN lN cN) (.slice aE lE cE)) := ⟨_, rfl⟩
  have hB : Below w.heap.size w W0 := by rw [hW0]; exact (Below.refl _ _).alloc (Nat.le_refl _) _
  rw [← hW0] at HK0
  have hc0 := HK0.c0
  have hc1 := HK0.c1
  have HK := Lib.hid HK0
  have HB := Lib.hid hB
  have HRA := Lib.hid (fun (W : World) (h : Below w.heap.size w W) (k : Raw W (.slice aN lN cN) N) (k2 : Raw W (.slice aE lE cE) E) => r8raise k k2 (gs.below h) hs)
  have HSU : Hid (∀ W, Below w.heap.size w W → Calls Tryz.prog 75 #[vm] W fun e w' => e = .returned (.agg (u8s (shaN m)).toArray) ∧ Below W.heap.size W w') := fun W hW => by
    obtain ⟨a, c, rfl, h1, h2, h3, h4⟩ := gm.below hW
    rw [← shaC_u8s]
    exact rsum_any a _ c m W rfl (by omega) h1 h2 h4 h3
  obtain ⟨aS, cS, rfl, -⟩ := gs
  obtain ⟨aM, cM, rfl, -⟩ := gm
  obtain ⟨ls, hls⟩ : ∃ ls, ls = s.length := ⟨_, rfl⟩
  obtain ⟨lm, hlm⟩ : ∃ lm, lm = m.length := ⟨_, rfl⟩
  rw [← hls] at HRA hs ⊢
  rw [← hlm] at HSU hm ⊢
  have HW := Lib.hid hW0
  clear HK0 hB gN gE hls hW0 hlm
  go_enter Tryz.func68, Tryz.ntmps68
  go_wp2_with fail
  rw [← HW.out]
  clear HW
  refine (HRA.out _ HB.out HK.out.rN HK.out.rE).mono ?_
  rintro e w1 ⟨hb, v1, k, b, rfl, ho, hQ⟩
  have HK := Lib.hid (HK.out.below hb)
  have HB := Lib.hid (HB.out.trans (hb.mono HB.out.size))
  have HO := Lib.hid ho
  have HQ := Lib.hid hQ
  obtain ⟨a1, c1, rfl, -⟩ := own8_form ho
  have hkk := hQ.kinds
  clear hb hc0 hc1 ho hQ
  obtain ⟨lb, hlb0⟩ : ∃ lb, lb = b.length := ⟨_, rfl⟩
  rw [← hlb0] at HO ⊢
  have HLB := Lib.hid hlb0
  clear hlb0
  rcases hkk with ⟨rfl, hko⟩ | hk
  · have HKO := Lib.hid hko
    clear hko
    go_upto_region 4 with fail
    have HK := Lib.hid (HK.out.below (Below.refl _ _).drew)
    have HB := Lib.hid HB.out.drew
    have HO := Lib.hid (own8_below HO.out (Below.refl _ _).drew)
    go_region_held3 (fun W => W.cell? ⟨w.heap.size, 0, none⟩ = some (.slice aN lN cN) ∧ W.cell? ⟨w.heap.size, 1, none⟩ = some (.slice aE lE cE))
      (first | exact ⟨HK.out.c0, HK.out.c1⟩)
      (first
        | (go_at_call 75; (with_reducible refine (HSU.out _ HB.out).mono ?_)
           rintro e w2 ⟨rfl, hb⟩
           have HK := Lib.hid (HK.out.below hb)
           have HO := Lib.hid (own8_below HO.out hb)
           have HB := Lib.hid (HB.out.trans (hb.mono HB.out.size))
           clear hb)
        | (go_at_call 60; (with_reducible refine (r8size HK.out.rN ⟨_, _, _, rfl⟩).mono ?_)
           rintro e w3 ⟨hb, rfl⟩
           have HK := Lib.hid (HK.out.below hb)
           have HO := Lib.hid (own8_below HO.out hb)
           have HB := Lib.hid (HB.out.trans (hb.mono HB.out.size))
           clear hb)
        | (go_at_call 57; (with_reducible refine (r8encoded (shaN m) (szN N : Nat) _ (shaN_len m) (shaN_8 m) (by omega) (by have := HKO.out.size; omega)).mono ?_)
           rintro e w4 ⟨hb, v4, k4, b4, rfl, hE, ho4⟩
           have HK := Lib.hid (HK.out.below hb)
           have HO := Lib.hid (own8_below HO.out hb)
           have HB := Lib.hid (HB.out.trans (hb.mono HB.out.size))
           clear hb))
    obtain ⟨rfl, rfl⟩ : k4 = 0 ∧ b4 = encL (shaN m) (szN N) := by
      rcases hE with ⟨h, _⟩ | ⟨_, _, h1, h2⟩
      · have := HKO.out.size; omega
      · exact ⟨h1, by rw [h2, Int.toNat_natCast]⟩
    have HO4 := Lib.hid ho4
    obtain ⟨a4, c4, rfl, -⟩ := own8_form ho4
    clear ho4 hE
    obtain ⟨l4, hl40⟩ : ∃ l4, l4 = (encL (shaN m) (szN N)).length := ⟨_, rfl⟩
    rw [← hl40] at HO4 ⊢
    have HL4 := Lib.hid hl40
    clear hl40
    obtain ⟨c, hc⟩ : ∃ c, c = encL (shaN m) (szN N) := ⟨_, rfl⟩
    rw [← hc] at HO4
    have HC := Lib.hid hc
    have hlbc : b.length = c.length ∧ b.length ≤ 512 := by
      have h1 := HKO.out.size
      rcases HQ.out with ⟨h, _⟩ | ⟨_, _, h, _⟩ | ⟨_, _, _, h, _⟩
      · exact absurd HKO.out h
      · cases h
      · rw [h, hc, encL_len (shaN_len m) (by omega)]; exact ⟨rfl, h1.2⟩
    have HLC := Lib.hid hlbc.1
    have hlb : lb ≤ 512 := by rw [HLB.out]; exact hlbc.2
    have HR1 := Lib.hid (own8_rd2x HO.out).1
    have HR4 := Lib.hid (own8_rd2x HO4.out).1
    have hl4 : l4 = lb := by rw [HL4.out, HLB.out, hlbc.1, hc]
    subst hl4
    clear hc hlbc
    go_wp2
    go_loopw [11] (fun iv wr => ∃ (i nn : Nat), i ≤ l4 ∧ iv = .int .i64 (i : Nat) ∧ wr = w4.drewN nn ∧ Hid (b.take i = c.take i)) (fun iv _ => l4 - (intOf iv).toNat)
    case atStart => exact ⟨0, 0, Nat.zero_le _, rfl, rfl, rfl⟩
    case round =>
      obtain ⟨i, nn, hi, rfl, rfl, HTK⟩ := hrel
      by_cases h0 : i < l4
      · have hib : i < b.length := by rw [← HLB.out]; exact h0
        have hic : i < c.length := by rw [← HLC.out]; exact hib
        obtain ⟨b1, o1, rfl⟩ := HR1.out.isAt (Nat.lt_of_le_of_lt (Nat.zero_le _) hib)
        obtain ⟨b4, o4, rfl⟩ := HR4.out.isAt (Nat.lt_of_le_of_lt (Nat.zero_le _) hic)
        have hc1 := HR1.out.cell (i := i) hib
        have hc2 := HR4.out.cell (i := i) hic
        have h00 : (0 : Int) ≤ (i : Int) := by omega
        have htb : b.take (i + 1) = b.take i ++ [at0 b i] := by rw [List.take_add_one, List.getElem?_eq_getElem hib, at0_getElem hib]; rfl
        have htc : c.take (i + 1) = c.take i ++ [at0 c i] := by rw [List.take_add_one, List.getElem?_eq_getElem hic, at0_getElem hic]; rfl
        generalize at0 b i = x at *
        generalize at0 c i = y at *
        have HTB := Lib.hid htb
        have HTC := Lib.hid htc
        have HIB := Lib.hid (And.intro hib hic)
        clear htb htc hib hic
        by_cases hxy : x = y
        · have hne : ((x : Int) != (y : Int)) = false := by subst hxy; simp
          have HNX : Hid (b.take (i + 1) = c.take (i + 1)) := by show _ = _; rw [HTB.out, HTC.out, HTK.out, hxy]
          clear hxy
          go_wp2
          go_quiet (fail)
          go_wp2
          go_roundw
          case rel => exact ⟨i + 1, nn + nq, by omega, by go_num, by first | rfl | exact World.drewN_drewN _ _ _, HNX.out⟩
          case measure => simp [intOf]; omega
        · have hne : ((x : Int) != (y : Int)) = true := by simp; omega
          have HNE : Hid (b ≠ c) := fun h => by
            have h1 := HTB.out
            rw [h, HTC.out] at h1
            have h2 := (List.append_inj h1 rfl).2
            simp at h2
            exact hxy h2.symm
          clear hxy
          go_wp2
          go_quiet (fail)
          go_wp2
          go_ret
          exact ⟨HB.out.trans ⟨rfl, rfl, rfl, by simp, fun _ _ => by simp⟩, 82, rfl, 0, b, HQ.out, by rw [if_pos rfl, if_neg (by rw [← HC.out]; exact HNE.out)]⟩
      · have hq : decide ((i : Int) < (l4 : Int)) = false := decide_eq_false (by omega)
        have HEQ : Hid (b = c) := by
          have h1 := HTK.out
          rw [List.take_of_length_le (by rw [← HLB.out]; omega), List.take_of_length_le (by rw [← HLC.out, ← HLB.out]; omega)] at h1
          exact h1
        go_wp2
        go_ret
        exact ⟨HB.out.trans ⟨rfl, rfl, rfl, by simp, fun _ _ => by simp⟩, 0, rfl, 0, b, HQ.out, by rw [if_pos rfl, if_pos (by rw [← HC.out]; exact HEQ.out)]⟩
  · rcases hk with rfl | rfl
    all_goals
      go_wp2
      go_ret
      exact ⟨HB.out, _, rfl, _, b, HQ.out, rfl⟩
end Go.Proofs.YtaookoejdnkkoaaGreatDoor
