import Derived.Test.YtkghgfiindpcjaaDeQ
namespace Go.Proofs.Ytkghgfiindpcjaa
open Go.RowKit

/-! DerLies. -/
theorem itemA_zeros {b : List Nat} {a : Nat} {k : Int} {t f o : Nat} (h : itemA b a = (k, t, f, o)) (hk : k ≠ 0) : t = 0 ∧ f = 0 ∧ o = 0 := by
  rcases itemA_cases b a with ⟨t', f', o', h'⟩ | h' | h' <;> rw [h] at h' <;> simp only [Prod.mk.injEq] at h'
  · exact absurd h'.1 hk
  · exact h'.2
  · exact h'.2
theorem rd_lit2 (w : World) (x y : Nat) : Rd .u8 (w.alloc (.cells #[.int .u8 (x : Nat), .int .u8 (y : Nat)] 5)) (some ⟨w.heap.size, 0, none⟩) [x, y] := rd_lit8 5 [x, y] _ rfl

set_option maxHeartbeats 4000000 in
set_option maxRecDepth 100000 in
theorem derLies_any (a : Option Addr) (len cap : Nat) (b : List Nat) (at' : Int) (y : Nat) (w : World) (hl : b.length = len) (hcap : len ≤ cap) (hcm : cap ≤ 9223372036854775807) (hna : a = none → cap = 0) (h8 : B8 b) (hr : Rd .u8 w a b) (hz1 : -9223372036854775808 ≤ at') (hz2 : at' ≤ 9223372036854775807) (hy : y < 256) :
    Calls Try.prog 8 #[.slice a len cap, .int .i64 at', .int .u8 (y : Nat)] w fun e w' => e = .returned (.bool true) ∧ Below w.heap.size w w' := by
  by_cases hbig : 4096 < len
  · have hq : decide ((4096 : Int) < (len : Int)) = true := decide_eq_true (by omega)
    clear hr
    go_enter Try.func8, Try.ntmps8
    go_wp2
    go_ret
    exact ⟨rfl, Below.refl _ _⟩
  · have hq : decide ((4096 : Int) < (len : Int)) = false := decide_eq_false (by omega)
    have HL := Lib.hid hl
    have HR := Lib.hid hr
    have H8 := Lib.hid h8
    have HNA := Lib.hid hna
    clear hl hr h8 hna
    go_enter Try.func8, Try.ntmps8
    go_wp2_with fail
    have hpk := pickn_any at' (len + 1) w hz1 hz2 (by omega) (by omega)
    rw [show ((len + 1 : Nat) : Int) = (len : Int) + 1 by omega] at hpk
    refine hpk.mono ?_
    clear hpk
    rintro e w' ⟨m, rfl, hm, rfl⟩
    go_wp2_with fail
    refine (item_any a len cap b (m : Nat) _ HL.out (by omega) hcap H8.out HR.out (by omega) (by omega)).mono ?_
    rintro e w1 ⟨hb, k, t, f, o, hi, rfl⟩
    rw [itemI_in (by rw [HL.out]; omega)] at hi
    have HR := Lib.hid (HR.out.below hb)
    have HB := Lib.hid hb
    clear hb
    by_cases hk : k = 0
    · subst hk
      obtain ⟨h1, h2, h3, h4, h5, h6, h7, h9⟩ := itemA_lies H8.out (by rw [HL.out]; omega) hi
      rw [HL.out] at h4
      obtain ⟨bb, off, rfl, hc⟩ := HR.out.get (by rw [HL.out]; omega)
      have hcell := hc m (by rw [HL.out]; omega)
      rw [show b.getD m 0 = at0 b m from rfl, h5] at hcell
      have H6 := Lib.hid h6
      have H7 := Lib.hid h7
      have H9 := Lib.hid h9
      have q1 : decide ((f : Int) < (m : Int) + 2) = false := decide_eq_false (by omega)
      have q2 : decide ((m : Int) + 6 < (f : Int)) = false := decide_eq_false (by omega)
      have q3 : decide (o < f) = false := decide_eq_false (by omega)
      have q4 : decide (len < o) = false := decide_eq_false (by omega)
      have q5 : ((t : Int) != (t : Int)) = false := by simp
      have q6 : (0 : Int) ≤ (m : Int) := by omega
      have q7 : (m : Int) < (len : Int) := by omega
      clear hi h5 h6 h7 h9 hc
      have HRX := Lib.hid HR.out.news
      have hszB := HB.out.size
      have HLX := HL.out
      have hbl : len ≤ 4096 := by omega
      go_wp2_with (first
        | (at_builtin; refine wpl_appN 22 5 Try.underlying22 info8 rfl (by decide) rfl _ _ rfl w.heap.size (.slice none 0 0) 0 [] rfl (World.ownsRow_nil _ _ _ _) (some ⟨bb, off, none⟩) len cap rfl (u8s b) (by rw [u8s_len, HL.out]) (fun h => HRX.out (by rw [HL.out]; exact h)) (fun _ h => by cases h) (u8s_one8 _) (by omega) hszB ?_; intro v5 w5 hown5 hg5 hor5 _; have HO5 := Lib.hid hown5; have HG5 := Lib.hid hg5; clear hown5 hg5)
        | (at_builtin; refine wpl_appN 22 5 Try.underlying22 info8 rfl (by decide) rfl _ _ rfl w.heap.size v5 (0 + len) ([] ++ u8s b) rfl (HO5.out.alloc _) (some ⟨w5.heap.size, 0, none⟩) 2 2 rfl (u8s [y, y]) rfl (fun _ => (rd_lit2 w5 y y).news (by simp)) (fun h => by cases h) (u8s_one8 _) (by omega) (by have := HG5.out.size; simp; omega) ?_; intro v6 w6 hown6 hg6 _ _; have HO6 := Lib.hid hown6; have HG6 := Lib.hid hg6; clear hown6 hg6))
      have hb15 : Below w1.heap.size w1 w5 := (Below.refl w1.heap.size w1).grown HG5.out (Nat.le_refl _) (fun q hq => by cases hq)
      have hb16 : Below w1.heap.size w1 w6 := (hb15.alloc hb15.size (.cells #[.int .u8 (y : Nat), .int .u8 (y : Nat)] 5)).grown HG6.out (by have := hb15.size; simp; omega) (fun q hq => by
        rcases hor5.out q hq with h | h
        · cases h
        · omega)
      have hB6 : Below w.heap.size w w6 := HB.out.trans (hb16.mono hszB)
      have hown6 : own8 w6 w.heap.size v6 (b ++ [y, y]) := by
        have h := HO6.out
        rw [Nat.zero_add, List.nil_append] at h
        show w6.ownsRow _ _ _ _ _ _
        rw [List.length_append, HL.out, show u8s (b ++ [y, y]) = u8s b ++ u8s [y, y] by simp [u8s]]
        exact h
      obtain ⟨a6, c6, hv6, hc6, hr6, hn6, hm6⟩ := own8_open hown6
      have hl6 : (b ++ [y, y]).length = len + 2 := by rw [List.length_append, HL.out]; rfl
      rw [hl6] at hv6 hc6
      have HR6 := Lib.hid hr6
      have HR := Lib.hid (HR.out.below hb16)
      have HB := Lib.hid hB6
      have HL6 := Lib.hid hl6
      subst hv6
      have h86 : B8 (b ++ [y, y]) := b8_app H8.out (fun x hx => by simp at hx; omega)
      clear hb15 hb16 hB6 hown6 hr6 hn6 hor5 HRX hl6 HO5 HG5 HO6 HG6
      refine (item_any a6 (len + 2) c6 (b ++ [y, y]) (m : Nat) _ HL6.out (by omega) hc6 h86 HR6.out (by omega) (by omega)).mono ?_
      rintro e w7 ⟨hb, k2, t2, f2, o2, hi2, rfl⟩
      rw [itemI_in (by rw [HL6.out]; omega), H6.out] at hi2
      simp only [Prod.mk.injEq] at hi2
      obtain ⟨rfl, rfl, rfl, rfl⟩ := hi2
      have HR := Lib.hid (HR.out.below hb)
      have HB := Lib.hid (HB.out.trans (hb.mono HB.out.size))
      have r1 : (m : Int) ≤ (o : Int) := by omega
      have r2 : (o : Int) ≤ (cap : Int) := by omega
      have r3 : ¬ cap = m := by omega
      clear hb h86 HR6 HL6 hcell
      go_wp2_with fail
      have hRc := cutA_rd HR.out HL.out hcap (show m ≤ o by omega) h4
      have e1 : cutA (some ⟨bb, off, none⟩) cap m = some ⟨bb, off + m, none⟩ := by simp [cutA, r3, Addr.add]
      rw [e1] at hRc
      have hcl : ((b.take o).drop m).length = o - m := by rw [List.length_drop, List.length_take]; have := HL.out; omega
      refine (item_any (some ⟨bb, off + m, none⟩) (o - m) (cap - m) ((b.take o).drop m) 0 _ hcl (by omega) (by omega) ((H8.out.take _).drop _) hRc (by decide) (by decide)).mono ?_
      clear hRc e1 hcl
      rintro e w8 ⟨hb, k2, t2, f2, o2, hi2, rfl⟩
      rw [show itemI ((b.take o).drop m) 0 = itemA ((b.take o).drop m) 0 from itemI_in (a := 0) (Nat.zero_le _), H7.out] at hi2
      simp only [Prod.mk.injEq] at hi2
      obtain ⟨rfl, rfl, rfl, rfl⟩ := hi2
      have HR := Lib.hid (HR.out.below hb)
      have HB := Lib.hid (HB.out.trans (hb.mono HB.out.size))
      clear hb
      obtain ⟨z, hz⟩ : ∃ z, z = o - 1 := ⟨_, rfl⟩
      have z1 : (o : Int) - 1 = (z : Int) := by omega
      have z2 : max (m : Int) (z : Int) = (z : Int) := by omega
      have z3 : (z : Int) ≤ (cap : Int) := by omega
      have z4 : (m : Int) ≤ (z : Int) := by omega
      have HZ := Lib.hid hz
      have hz5 : z + 1 = o := by omega
      have HZ5 := Lib.hid hz5
      clear hz hz5
      go_wp2_with fail
      have z5 : (max (m : Int) (z : Int)).toNat = z := by omega
      try rw [z5]
      refine (item_any (some ⟨bb, off, none⟩) z cap (b.take z) (m : Nat) _ (by rw [List.length_take, HL.out]; have := HZ5.out; omega) (by have := HZ5.out; omega) (by have := HZ5.out; omega) (H8.out.take _) (rd_pre HR.out z) (by omega) (by omega)).mono ?_
      clear z5
      rintro e w9 ⟨hb, k3, t3, f3, o3, hi3, rfl⟩
      rw [itemI_in (by rw [List.length_take, HL.out]; have := HZ5.out; omega), HZ.out, H9.out] at hi3
      simp only [Prod.mk.injEq] at hi3
      obtain ⟨rfl, rfl, rfl, rfl⟩ := hi3
      have HB := Lib.hid (HB.out.trans (hb.mono HB.out.size))
      clear hb
      obtain ⟨F, hF⟩ : ∃ F, F = f - m := ⟨_, rfl⟩
      obtain ⟨O, hO⟩ : ∃ O, O = o - m := ⟨_, rfl⟩
      have y1 : (f : Int) - (m : Int) = (F : Int) := by omega
      have y2 : (o : Int) - (m : Int) = (O : Int) := by omega
      rw [← hF, ← hO]
      clear hF hO HZ HZ5 H6 H7 H9 HR HL H8 z1 z2 z3 z4 r1 r2 r3 q1 q2 q3 q4 q5 q6 q7
      go_wp2_with fail
      refine (works7_any _).mono ?_
      rintro e w10 ⟨rfl, hb⟩
      have HBG := Lib.hid (HB.out.trans (hb.mono HB.out.size))
      clear hb
      go_wp2
      go_ret
      exact ⟨rfl, HBG.out⟩
    · obtain ⟨rfl, rfl, rfl⟩ := itemA_zeros hi hk
      have hq2 : (k != 0) = true := by simpa using hk
      clear hi hk
      go_wp2_with fail
      refine (works7_any _).mono ?_
      rintro e w6 ⟨rfl, hb⟩
      have HBG := Lib.hid (HB.out.trans (hb.mono HB.out.size))
      clear hb
      go_wp2
      go_ret
      exact ⟨rfl, HBG.out⟩
end Go.Proofs.Ytkghgfiindpcjaa
