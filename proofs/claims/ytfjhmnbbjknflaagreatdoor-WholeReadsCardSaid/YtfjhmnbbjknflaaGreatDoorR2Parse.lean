import Derived.Test.YtfjhmnbbjknflaaGreatDoorRw
namespace Go.Proofs.YtfjhmnbbjknflaaGreatDoor
open Go.RowKit

theorem WTold.weak {Q Q' : Int → Bool → List Nat → Prop} {w w' : World} {e : Ending} (h : WTold Q w e w') (hq : ∀ k n zs, Q k n zs → Q' k n zs) : WTold Q' w e w' := by
  obtain ⟨hb, n, a, c, k, zs, he, ho, hQ⟩ := h
  exact ⟨hb, n, a, c, k, zs, he, ho, hq _ _ _ hQ⟩
theorem parse_tells {l rest : List UInt8} {neg : Bool} {zs : List Nat} (hl : l.length ≤ 65536) (hneg : Lib.hasPrefix l [45] = neg) (hrest : Lib.trimPrefix l [45] = rest) (hd : decB rest = true) (hN : Num zs (dval rest)) : ∀ k m zs', WTells True (wv neg zs) k m zs' → WParseTells l k m zs' := by
  have habs : (wv neg zs).natAbs = dval rest := by rw [wv_abs, hN.vl]
  rintro k m zs' (⟨h, rfl, rfl, rfl⟩ | ⟨_, h, rfl, rfl, hN'⟩)
  · rw [habs] at h
    exact .inr (.inr (.inl ⟨hl, by rw [hrest]; exact hd, by rw [hrest]; exact Nat.le_of_not_lt fun h2 => h ⟨trivial, h2⟩, rfl, rfl, rfl⟩))
  · rw [habs] at h hN'
    refine .inr (.inr (.inr ⟨hl, by rw [hrest]; exact hd, by rw [hrest]; exact h, rfl, ?_, by rw [hrest]; exact hN'⟩))
    rw [hneg, hrest]
    unfold wv
    rw [hN.vl]
    cases neg
    · simp only [Bool.false_eq_true, if_false, Bool.false_and]; rw [decide_eq_false_iff_not]; omega
    · simp only [if_true, Bool.true_and]; rw [decide_eq_decide]; omega
theorem list_of (s : ByteArray) : ∃ l : List UInt8, s = ⟨l.toArray⟩ := ⟨s.data.toList, by cases s; simp⟩
theorem ext1 (s : ByteArray) : (s.extract 1 s.size).data.toList = s.data.toList.drop 1 := by
  obtain ⟨l, rfl⟩ := list_of s
  rw [ext_back l 1 _ (by simp [ByteArray.size])]
theorem pre_yes (s : ByteArray) (h : 0 < s.size) (hc : s[0] = 45) : Lib.hasPrefix s.data.toList [45] = true ∧ Lib.trimPrefix s.data.toList [45] = s.data.toList.drop 1 := by
  have h1 : Lib.hasPrefix s.data.toList [45] = true := by
    obtain ⟨l, rfl⟩ := list_of s
    cases l with
    | nil => simp [ByteArray.size] at h
    | cons c t =>
      have hc : c = 45 := hc
      subst hc
      show ((45 : UInt8) == 45 && List.isPrefixOf [] t) = true
      rfl
  exact ⟨h1, by unfold Lib.trimPrefix; rw [h1]; rfl⟩
theorem pre_no (s : ByteArray) (h : 0 < s.size) (hc : s[0] ≠ 45) : Lib.hasPrefix s.data.toList [45] = false ∧ Lib.trimPrefix s.data.toList [45] = s.data.toList := by
  have h1 : Lib.hasPrefix s.data.toList [45] = false := by
    obtain ⟨l, rfl⟩ := list_of s
    cases l with
    | nil => simp [ByteArray.size] at h
    | cons c t =>
      have hc : c ≠ 45 := hc
      show ((45 : UInt8) == c && List.isPrefixOf [] t) = false
      rw [beq_eq_false_iff_ne.2 (fun e => hc e.symm)]
      rfl
  exact ⟨h1, by unfold Lib.trimPrefix; rw [h1]; rfl⟩
theorem pre_none (s : ByteArray) (h : ¬ 0 < s.size) : Lib.hasPrefix s.data.toList [45] = false ∧ Lib.trimPrefix s.data.toList [45] = s.data.toList := by
  have h1 : s.data.toList = [] := by
    rw [← List.length_eq_zero_iff, bytes_len]; omega
  rw [h1]
  exact ⟨rfl, rfl⟩
set_option maxHeartbeats 2000000 in
set_option maxRecDepth 100000 in
theorem r2parse_any (s : ByteArray) (w : World) (hs : s.size ≤ 65536) :
    Calls Tryz.prog 39 #[.string s] w (WTold (WParseTells s.data.toList) w) := by
  have hlen := bytes_len s
  have HSM : Hid (s.data.toList.length ≤ 65536) := by show _ ≤ _; omega
  have HB0 := Lib.hid (show Below w.heap.size w (w.alloc (WO false none 0 0)) from (Below.refl _ _).alloc (Nat.le_refl _) _)
  have hx0 := Lib.hid (heap_new w (WO false none 0 0))
  have hq : decide ((65536 : Int) < (s.size : Int)) = false := by rw [decide_eq_false_iff_not]; omega
  have HX1 := Lib.hid (ext1 s)
  obtain ⟨l, hl⟩ : ∃ l, s.data.toList = l := ⟨_, rfl⟩
  have HSL : Hid (l.length ≤ 65536) := by show _ ≤ _; rw [← hl]; exact HSM.out
  rw [hl]
  by_cases h0 : 0 < s.size
  · have hq1 : decide (0 < s.size) = true := by rw [decide_eq_true_iff]; exact h0
    by_cases hm : s[0] = 45
    · have HPP := Lib.hid (pre_yes s h0 hm)
      rw [hl] at HPP HX1
      have hcm : ((s[0].toNat : Int) == 45) = true := by rw [hm]; rfl
      have HR2 := HX1
      have HS2 : Hid ((s.extract 1 s.size).size ≤ 9223372036854775807) := by
        show _ ≤ _
        rw [← bytes_len, HX1.out, List.length_drop]; have := HSL.out; omega
      have HRL : Hid ((l.drop 1).length ≤ 65536) := by show _ ≤ _; rw [List.length_drop]; have := HSL.out; omega
      clear hlen hm hl
      go_enter Tryz.func39, Tryz.ntmps39
      go_wp2_with fail
      refine (rparse_any (s.extract 1 s.size) _ (by first | exact HS2.out | omega)).mono ?_
      intro e w1 hp
      rw [HR2.out] at hp
      obtain ⟨hb, hor⟩ := hp
      have HB1 := Lib.hid (HB0.out.trans (hb.mono HB0.out.size))
      have HR : Hid (RBlk w1 w.heap.size) := (rblk hx0.out).below hb
      clear hb
      obtain ⟨_, d0, d1, e0, e1⟩ := HR.out
      have HDD := HPP
      rcases hor with ⟨h, rfl⟩ | ⟨hls, hd, rfl⟩ | ⟨hls, hd, hbig, rfl⟩ | ⟨hls, hd, hlt, v, zs, rfl, ho, hN⟩
      · exact absurd h (Nat.not_lt.2 HRL.out)
      · have HP := Lib.hid (show WTold (WParseTells l) w (.returned (.tuple #[.agg #[.bool false, .slice none 0 0], .int .i64 12])) w1 from ⟨HB1.out, false, none, 0, 12, [], rfl, own64_nil _ _, .inr (.inl ⟨HSL.out, by rw [HPP.out.2]; exact hd, rfl, rfl, rfl⟩)⟩)
        clear hls hd
        go_wp2
        refine bodyPost_ret (results_WOset rfl rfl rfl HR.out) rfl ?_
        exact HP.out.set HR.out (Nat.le_refl _) _ _
      · have HP := Lib.hid (show WTold (WParseTells l) w (.returned (.tuple #[.agg #[.bool false, .slice none 0 0], .int .i64 3])) w1 from ⟨HB1.out, false, none, 0, 3, [], rfl, own64_nil _ _, .inr (.inr (.inl ⟨HSL.out, by rw [HPP.out.2]; exact hd, by rw [HPP.out.2]; exact Nat.le_trans lim_lt hbig, rfl, rfl, rfl⟩))⟩)
        clear hls hd hbig
        go_wp2
        refine bodyPost_ret (results_WOset rfl rfl rfl HR.out) rfl ?_
        exact HP.out.set HR.out (Nat.le_refl _) _ _
      · obtain ⟨av, cv, rfl, -⟩ := own64.form ho
        have hlz : zs.length ≤ 1048576 := by have := (hN.len_le (k := 128)).2 hlt; omega
        have HQT := Lib.hid (parse_tells HSL.out HPP.out.1 HPP.out.2 hd hN)
        have HOW := Lib.hid ho
        have HNN := Lib.hid hN
        clear hls hd hlt ho hN
        obtain ⟨lz, hlzz⟩ : ∃ lz, zs.length = lz := ⟨_, rfl⟩
        have HLZ := Lib.hid hlzz
        have HRZ := Lib.hid (own64.rd HOW.out).2
        rw [hlzz] at hlz ⊢
        clear hlzz d0 d1 e0 e1
        go_wp2_with fail
        refine (r2told_any true av lz cv zs _ HLZ.out hlz HRZ.out HNN.out.bd).mono ?_
        intro e w4 hp
        have hW : WTold (WParseTells l) w e w4 := (hp.wtold.weak HQT.out).from HB1.out
        obtain ⟨n', a', l', c', k', rfl⟩ := hW.told
        have HW := Lib.hid hW
        have HR4 := Lib.hid (HR.out.below hp.1)
        clear hp hW
        obtain ⟨_, d0, d1, e0, e1⟩ := HR4.out
        go_wp2
        refine bodyPost_ret (results_WOset rfl rfl rfl HR4.out) rfl ?_
        exact HW.out.set HR4.out (Nat.le_refl _) _ _
    · have HPP := Lib.hid (pre_no s h0 hm)
      rw [hl] at HPP
      have hcm : ((s[0].toNat : Int) == 45) = false := by
        rw [beq_eq_false_iff_ne]
        intro h
        exact hm (UInt8.toNat_inj.1 (by show s[0].toNat = 45; omega))
      have HR2 := Lib.hid hl
      have HS2 : Hid (s.size ≤ 9223372036854775807) := by show _ ≤ _; omega
      have HRL := HSL
      clear hlen hm hl
      go_enter Tryz.func39, Tryz.ntmps39
      go_wp2_with fail
      refine (rparse_any s _ (by first | exact HS2.out | omega)).mono ?_
      intro e w1 hp
      rw [HR2.out] at hp
      obtain ⟨hb, hor⟩ := hp
      have HB1 := Lib.hid (HB0.out.trans (hb.mono HB0.out.size))
      have HR : Hid (RBlk w1 w.heap.size) := (rblk hx0.out).below hb
      clear hb
      obtain ⟨_, d0, d1, e0, e1⟩ := HR.out
      have HDD := HPP
      rcases hor with ⟨h, rfl⟩ | ⟨hls, hd, rfl⟩ | ⟨hls, hd, hbig, rfl⟩ | ⟨hls, hd, hlt, v, zs, rfl, ho, hN⟩
      · exact absurd h (Nat.not_lt.2 HRL.out)
      · have HP := Lib.hid (show WTold (WParseTells l) w (.returned (.tuple #[.agg #[.bool false, .slice none 0 0], .int .i64 12])) w1 from ⟨HB1.out, false, none, 0, 12, [], rfl, own64_nil _ _, .inr (.inl ⟨HSL.out, by rw [HPP.out.2]; exact hd, rfl, rfl, rfl⟩)⟩)
        clear hls hd
        go_wp2
        refine bodyPost_ret (results_WOset rfl rfl rfl HR.out) rfl ?_
        exact HP.out.set HR.out (Nat.le_refl _) _ _
      · have HP := Lib.hid (show WTold (WParseTells l) w (.returned (.tuple #[.agg #[.bool false, .slice none 0 0], .int .i64 3])) w1 from ⟨HB1.out, false, none, 0, 3, [], rfl, own64_nil _ _, .inr (.inr (.inl ⟨HSL.out, by rw [HPP.out.2]; exact hd, by rw [HPP.out.2]; exact Nat.le_trans lim_lt hbig, rfl, rfl, rfl⟩))⟩)
        clear hls hd hbig
        go_wp2
        refine bodyPost_ret (results_WOset rfl rfl rfl HR.out) rfl ?_
        exact HP.out.set HR.out (Nat.le_refl _) _ _
      · obtain ⟨av, cv, rfl, -⟩ := own64.form ho
        have hlz : zs.length ≤ 1048576 := by have := (hN.len_le (k := 128)).2 hlt; omega
        have HQT := Lib.hid (parse_tells HSL.out HPP.out.1 HPP.out.2 hd hN)
        have HOW := Lib.hid ho
        have HNN := Lib.hid hN
        clear hls hd hlt ho hN
        obtain ⟨lz, hlzz⟩ : ∃ lz, zs.length = lz := ⟨_, rfl⟩
        have HLZ := Lib.hid hlzz
        have HRZ := Lib.hid (own64.rd HOW.out).2
        rw [hlzz] at hlz ⊢
        clear hlzz d0 d1 e0 e1
        go_wp2_with fail
        refine (r2told_any false av lz cv zs _ HLZ.out hlz HRZ.out HNN.out.bd).mono ?_
        intro e w4 hp
        have hW : WTold (WParseTells l) w e w4 := (hp.wtold.weak HQT.out).from HB1.out
        obtain ⟨n', a', l', c', k', rfl⟩ := hW.told
        have HW := Lib.hid hW
        have HR4 := Lib.hid (HR.out.below hp.1)
        clear hp hW
        obtain ⟨_, d0, d1, e0, e1⟩ := HR4.out
        go_wp2
        refine bodyPost_ret (results_WOset rfl rfl rfl HR4.out) rfl ?_
        exact HW.out.set HR4.out (Nat.le_refl _) _ _
  · have HPP := Lib.hid (pre_none s h0)
    rw [hl] at HPP
    have hq1 : decide (0 < s.size) = false := by rw [decide_eq_false_iff_not]; exact h0
    have HR2 := Lib.hid hl
    have HS2 : Hid (s.size ≤ 9223372036854775807) := by show _ ≤ _; omega
    have HRL := HSL
    clear hlen hl
    go_enter Tryz.func39, Tryz.ntmps39
    go_wp2_with fail
    refine (rparse_any s _ (by first | exact HS2.out | omega)).mono ?_
    intro e w1 hp
    rw [HR2.out] at hp
    obtain ⟨hb, hor⟩ := hp
    have HB1 := Lib.hid (HB0.out.trans (hb.mono HB0.out.size))
    have HR : Hid (RBlk w1 w.heap.size) := (rblk hx0.out).below hb
    clear hb
    obtain ⟨_, d0, d1, e0, e1⟩ := HR.out
    have HDD := HPP
    rcases hor with ⟨h, rfl⟩ | ⟨hls, hd, rfl⟩ | ⟨hls, hd, hbig, rfl⟩ | ⟨hls, hd, hlt, v, zs, rfl, ho, hN⟩
    · exact absurd h (Nat.not_lt.2 HRL.out)
    · have HP := Lib.hid (show WTold (WParseTells l) w (.returned (.tuple #[.agg #[.bool false, .slice none 0 0], .int .i64 12])) w1 from ⟨HB1.out, false, none, 0, 12, [], rfl, own64_nil _ _, .inr (.inl ⟨HSL.out, by rw [HPP.out.2]; exact hd, rfl, rfl, rfl⟩)⟩)
      clear hls hd
      go_wp2
      refine bodyPost_ret (results_WOset rfl rfl rfl HR.out) rfl ?_
      exact HP.out.set HR.out (Nat.le_refl _) _ _
    · have HP := Lib.hid (show WTold (WParseTells l) w (.returned (.tuple #[.agg #[.bool false, .slice none 0 0], .int .i64 3])) w1 from ⟨HB1.out, false, none, 0, 3, [], rfl, own64_nil _ _, .inr (.inr (.inl ⟨HSL.out, by rw [HPP.out.2]; exact hd, by rw [HPP.out.2]; exact Nat.le_trans lim_lt hbig, rfl, rfl, rfl⟩))⟩)
      clear hls hd hbig
      go_wp2
      refine bodyPost_ret (results_WOset rfl rfl rfl HR.out) rfl ?_
      exact HP.out.set HR.out (Nat.le_refl _) _ _
    · obtain ⟨av, cv, rfl, -⟩ := own64.form ho
      have hlz : zs.length ≤ 1048576 := by have := (hN.len_le (k := 128)).2 hlt; omega
      have HQT := Lib.hid (parse_tells HSL.out HPP.out.1 HPP.out.2 hd hN)
      have HOW := Lib.hid ho
      have HNN := Lib.hid hN
      clear hls hd hlt ho hN
      obtain ⟨lz, hlzz⟩ : ∃ lz, zs.length = lz := ⟨_, rfl⟩
      have HLZ := Lib.hid hlzz
      have HRZ := Lib.hid (own64.rd HOW.out).2
      rw [hlzz] at hlz ⊢
      clear hlzz d0 d1 e0 e1
      go_wp2_with fail
      refine (r2told_any false av lz cv zs _ HLZ.out hlz HRZ.out HNN.out.bd).mono ?_
      intro e w4 hp
      have hW : WTold (WParseTells l) w e w4 := (hp.wtold.weak HQT.out).from HB1.out
      obtain ⟨n', a', l', c', k', rfl⟩ := hW.told
      have HW := Lib.hid hW
      have HR4 := Lib.hid (HR.out.below hp.1)
      clear hp hW
      obtain ⟨_, d0, d1, e0, e1⟩ := HR4.out
      go_wp2
      refine bodyPost_ret (results_WOset rfl rfl rfl HR4.out) rfl ?_
      exact HW.out.set HR4.out (Nat.le_refl _) _ _
end Go.Proofs.YtfjhmnbbjknflaaGreatDoor
