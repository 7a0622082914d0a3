import Derived.Test.YtaookoejdnkkoaaGreatDoorQ10
import Derived.Test.YtaookoejdnkkoaaGreatDoorQ20
namespace Go.Proofs.YtaookoejdnkkoaaGreatDoor
open Go.RowKit

/-! The reference's Encode; DerTells. -/
set_option maxHeartbeats 1600000 in
set_option maxRecDepth 100000 in
theorem ritemB_any (t : Nat) (a : Option Addr) (len cap : Nat) (c : List Nat) (w : World) (hl : c.length = len) (hbig : len ≤ 16777216) (hna : a = none → cap = 0) (hr : Rd .u8 w a c) :
    Calls Tryz.prog 99 #[.int .u8 (t : Nat), .slice a len cap] w (New8 (ItemB t c) w) := by
  have HL := Lib.hid hl
  have HR := Lib.hid hr
  have HNA := Lib.hid hna
  unfold New8
  clear hl hr hna
  go_enter Tryz.func99, Tryz.ntmps99
  go_wp2_with (first
    | (at_builtin; refine wpl_appN 40 5 Tryz.underlying40 info8 rfl (by decide) rfl _ _ rfl w.heap.size (.slice none 0 0) 0 [] rfl (World.ownsRow_nil _ _ _ _) (some ⟨w.heap.size, 0, none⟩) 1 1 rfl (u8s [t]) rfl (fun _ => (rd_lit w t).news (by simp)) (fun h => by cases h) (u8s_one8 _) (by decide) (by simp) ?_; intro v5 w5 hown hg _ _; have HOv5 := Lib.hid hown; have HGv5 := Lib.hid hg; clear hown hg))
  have hb5 : Below w.heap.size w w5 := ((Below.refl w.heap.size w).alloc (Nat.le_refl _) (.cells #[.int .u8 (t : Nat)] 5)).grown HGv5.out (by simp) (fun q hq => by cases hq)
  have HB5 := Lib.hid hb5
  clear hb5
  refine (rlength7_any len _ (by omega)).mono ?_
  rintro e w7 ⟨hb, v, l, rfl, ho, hq⟩
  obtain ⟨a1, c1, rfl, hc1, hr1, hn1, -⟩ := own8_open ho
  have HO5 := Lib.hid ((Chg.of_below hb).owns HOv5.out (fun k hk => by have := (World.ownsRow.lt HOv5.out k hk).2; omega))
  have HB7 := Lib.hid (HB5.out.trans (hb.mono HB5.out.size))
  have HR1 := Lib.hid hr1
  have HN1 := Lib.hid hn1
  have HQ := Lib.hid hq
  have hl5 := hq.len.2
  obtain ⟨m, hm⟩ : ∃ m, m = l.length := ⟨_, rfl⟩
  have HM := Lib.hid hm
  rw [← hm] at hl5 hc1 ⊢
  have hsz7 := HB7.out.size
  clear hb ho hq hr1 hn1 hm HOv5 HGv5 HB5
  go_wp2_with (first
    | (at_builtin; refine wpl_appN 40 5 Tryz.underlying40 info8 rfl (by decide) rfl _ _ rfl w.heap.size v5 (0 + 1) ([] ++ u8s [t]) rfl HO5.out a1 m c1 rfl (u8s l) (by rw [u8s_len, HM.out]) (fun h => HR1.out.news (by rw [← HM.out]; exact h)) (fun _ h => HN1.out h) (u8s_one8 _) (by omega) hsz7 ?_; intro v8 w8 hown hg _ _; have HOv8 := Lib.hid hown; have HGv8 := Lib.hid hg; clear hown hg)
    | (at_builtin; refine wpl_appN 40 5 Tryz.underlying40 info8 rfl (by decide) rfl _ _ rfl w.heap.size v8 (0 + 1 + m) ([] ++ u8s [t] ++ u8s l) rfl HOv8.out a len cap rfl (u8s c) (by rw [u8s_len, HL.out]) (fun h => (HR.out.below (HB7.out.grown HGv8.out hsz7 (fun q hq => (World.ownsRow.lt HO5.out q hq).1))).news (by rw [HL.out]; exact h)) (fun _ h => HNA.out h) (u8s_one8 _) (by omega) (Nat.le_trans hsz7 HGv8.out.size) ?_; intro v9 w9 hown hg _ _; have HOv9 := Lib.hid hown; have HGv9 := Lib.hid hg; clear hown hg))
  have hown2 : own8 w9 w.heap.size v9 (t :: (l ++ c)) := own8_of HOv9.out (by have := HM.out; have := HL.out; simp; omega) (by simp [u8s])
  have hb2 : Below w.heap.size w w9 := (HB7.out.grown HGv8.out hsz7 (fun q hq => (World.ownsRow.lt HO5.out q hq).1)).grown HGv9.out (Nat.le_trans hsz7 HGv8.out.size) (fun q hq => (World.ownsRow.lt HOv8.out q hq).1)
  have HOF := Lib.hid hown2
  have HBF := Lib.hid hb2
  clear hown2 hb2 HOv8 HGv8 HOv9 HGv9
  go_wp2
  go_ret
  exact ⟨HBF.out, _, _, rfl, HOF.out, l, by rw [HL.out]; exact HQ.out, rfl⟩

set_option maxHeartbeats 1600000 in
set_option maxRecDepth 100000 in
theorem rcontent_any (a : Option Addr) (la ca : Nat) (xs : List Nat) (w : World) (hla : xs.length = la) (hba : la ≤ 1048576) (hra : Rd .u64 w a xs) (bx : Bd xs) (hV : val xs < 2 ^ 4096) :
    Calls Tryz.prog 100 #[.slice a la ca] w (New8 (fun l => IntB (val xs) l ∧ l.length ≤ 1025) w) := by
  have HL := Lib.hid hla
  have HR := Lib.hid hra
  have HX := Lib.hid bx
  obtain ⟨V, hVe⟩ : ∃ V, V = val xs := ⟨_, rfl⟩
  have HV := Lib.hid hVe
  rw [← hVe] at hV ⊢
  have HP := Lib.hid hV
  unfold New8
  clear hla hra bx hVe hV
  go_enter Tryz.func100, Tryz.ntmps100
  go_wp2_with fail
  refine (rbytes_any a la ca xs _ HL.out hba HR.out HX.out).mono ?_
  rintro e w2 ⟨hb2, a, c, k, zs, rfl, ho, hz, hQ⟩
  have hT : BNum zs V := by
    rcases hQ with ⟨h1, _, _⟩ | ⟨_, h2, h3⟩
    · have := told0 HX.out (by rw [← HV.out]; have := HP.out; have := lim8; omega)
      omega
    · rw [← HV.out] at h3; exact h3
  obtain ⟨a', c', e', hc', hr', hn', -⟩ := own8_open ho
  simp only [Value.slice.injEq, true_and] at e'
  obtain ⟨rfl, rfl⟩ := e'
  have HN := Lib.hid hT
  have HRZ := Lib.hid hr'
  have HNO := Lib.hid hn'
  have HB := Lib.hid hb2
  have HO := Lib.hid ho
  obtain ⟨m, hm⟩ : ∃ m, m = zs.length := ⟨_, rfl⟩
  have HM := Lib.hid hm
  have hz' := hz
  rw [← hm] at hz' ⊢
  have hcase : (m = 0 ∨ (0 < m ∧ 128 ≤ at0 zs 0)) ∨ (0 < m ∧ at0 zs 0 < 128) := by omega
  have HZ := Lib.hid hz
  have hsz2 := hb2.size
  clear hQ hT ho hz hc' hr' hn' hb2 hm
  rcases hcase with hcase | ⟨h1, h2⟩
  · have HIB : Hid (IntB V (0 :: zs)) := .inr ⟨zs, HN.out, by rcases hcase with h | ⟨_, h⟩; exact .inl (List.eq_nil_of_length_eq_zero (by rw [← HM.out]; exact h)); exact .inr h, rfl⟩
    have hfacts : decide (0 < m) = false ∨ (0 < m ∧ decide (0 < m) = true ∧ 128 ≤ at0 zs 0) := by
      rcases hcase with h | ⟨h, h2⟩
      · exact .inl (decide_eq_false (by omega))
      · exact .inr ⟨h, decide_eq_true h, h2⟩
    clear hcase
    rcases hfacts with g1 | ⟨h1, g1, h2⟩
    · go_wp2_with (first
        | (at_builtin; refine wpl_appN 40 5 Tryz.underlying40 info8 rfl (by decide) rfl _ _ rfl w.heap.size (.slice none 0 0) 0 [] rfl (World.ownsRow_nil _ _ _ _) (some ⟨w2.heap.size, 0, none⟩) 1 1 rfl (u8s [0]) rfl (fun _ => (rd_lit w2 0).news (by simp)) (fun h => by cases h) (u8s_one8 _) (by decide) (by simp; omega) ?_; intro v5 w5 hown hg _ _; have HOv5 := Lib.hid hown; have HGv5 := Lib.hid hg; clear hown hg)
        | (at_builtin; refine wpl_appN 40 5 Tryz.underlying40 info8 rfl (by decide) rfl _ _ rfl w.heap.size v5 (0 + 1) ([] ++ u8s [0]) rfl HOv5.out _ m c rfl (u8s zs) (by rw [u8s_len, HM.out]) (fun h => ((HRZ.out.below ((Below.refl w2.heap.size w2).alloc (Nat.le_refl _) _)).below ((Below.refl _ _).grown HGv5.out (Nat.le_refl _) (fun q hq => by cases hq))).news (by rw [← HM.out]; exact h)) (fun _ h => HNO.out h) (u8s_one8 _) (by omega) (by have := HGv5.out.size; simp at this; omega) ?_; intro v6 w6 hown hg _ _; have HOv6 := Lib.hid hown; have HGv6 := Lib.hid hg; clear hown hg))
      have hown2 : own8 w6 w.heap.size v6 (0 :: zs) := own8_of HOv6.out (by have := HM.out; simp; omega) (by simp [u8s])
      have hb2 : Below w.heap.size w w6 := ((HB.out.alloc hsz2 _).grown HGv5.out (by simp; omega) (fun q hq => by cases hq)).grown HGv6.out (by have := HGv5.out.size; simp at this; omega) (fun q hq => (World.ownsRow.lt HOv5.out q hq).1)
      have HOF := Lib.hid hown2
      have HBF := Lib.hid hb2
      clear hown2 hb2 HOv5 HGv5 HOv6 HGv6
      go_wp2
      go_ret
      exact ⟨HBF.out, _, _, rfl, HOF.out, HIB.out, by have := HZ.out; simp; omega⟩
    · obtain ⟨bb, off, rfl, hc⟩ := HRZ.out.get (by rw [← HM.out]; exact h1)
      have c0 := hc 0 (by rw [← HM.out]; exact h1)
      rw [show zs.getD 0 0 = at0 zs 0 from rfl, Nat.add_zero] at c0
      obtain ⟨x, hx⟩ : ∃ x, x = at0 zs 0 := ⟨_, rfl⟩
      rw [← hx] at c0 h2
      have hq1 : decide ((x : Int) < 128) = false := decide_eq_false (by omega)
      clear hc hx
      go_wp2_with (first
        | (at_builtin; refine wpl_appN 40 5 Tryz.underlying40 info8 rfl (by decide) rfl _ _ rfl w.heap.size (.slice none 0 0) 0 [] rfl (World.ownsRow_nil _ _ _ _) (some ⟨w2.heap.size, 0, none⟩) 1 1 rfl (u8s [0]) rfl (fun _ => (rd_lit w2 0).news (by simp)) (fun h => by cases h) (u8s_one8 _) (by decide) (by simp; omega) ?_; intro v5 w5 hown hg _ _; have HOv5 := Lib.hid hown; have HGv5 := Lib.hid hg; clear hown hg)
        | (at_builtin; refine wpl_appN 40 5 Tryz.underlying40 info8 rfl (by decide) rfl _ _ rfl w.heap.size v5 (0 + 1) ([] ++ u8s [0]) rfl HOv5.out _ m c rfl (u8s zs) (by rw [u8s_len, HM.out]) (fun h => ((HRZ.out.below ((Below.refl w2.heap.size w2).alloc (Nat.le_refl _) _)).below ((Below.refl _ _).grown HGv5.out (Nat.le_refl _) (fun q hq => by cases hq))).news (by rw [← HM.out]; exact h)) (fun _ h => HNO.out h) (u8s_one8 _) (by omega) (by have := HGv5.out.size; simp at this; omega) ?_; intro v6 w6 hown hg _ _; have HOv6 := Lib.hid hown; have HGv6 := Lib.hid hg; clear hown hg))
      have hown2 : own8 w6 w.heap.size v6 (0 :: zs) := own8_of HOv6.out (by have := HM.out; simp; omega) (by simp [u8s])
      have hb2 : Below w.heap.size w w6 := ((HB.out.alloc hsz2 _).grown HGv5.out (by simp; omega) (fun q hq => by cases hq)).grown HGv6.out (by have := HGv5.out.size; simp at this; omega) (fun q hq => (World.ownsRow.lt HOv5.out q hq).1)
      have HOF := Lib.hid hown2
      have HBF := Lib.hid hb2
      clear hown2 hb2 HOv5 HGv5 HOv6 HGv6
      go_wp2
      go_ret
      exact ⟨HBF.out, _, _, rfl, HOF.out, HIB.out, by have := HZ.out; simp; omega⟩
  · obtain ⟨bb, off, rfl, hc⟩ := HRZ.out.get (by rw [← HM.out]; exact h1)
    have HIB : Hid (IntB V zs) := .inl ⟨HN.out, List.length_pos_iff.1 (by rw [← HM.out]; exact h1), h2⟩
    have c0 := hc 0 (by rw [← HM.out]; exact h1)
    rw [show zs.getD 0 0 = at0 zs 0 from rfl, Nat.add_zero] at c0
    obtain ⟨x, hx⟩ : ∃ x, x = at0 zs 0 := ⟨_, rfl⟩
    rw [← hx] at c0 h2
    have g1 : decide (0 < m) = true := decide_eq_true h1
    have hq1 : decide ((x : Int) < 128) = true := decide_eq_true (by omega)
    clear hc hx
    go_wp2
    go_ret
    exact ⟨HB.out, _, _, rfl, by rw [HM.out]; exact HO.out, HIB.out, by have := HZ.out; omega⟩
end Go.Proofs.YtaookoejdnkkoaaGreatDoor
