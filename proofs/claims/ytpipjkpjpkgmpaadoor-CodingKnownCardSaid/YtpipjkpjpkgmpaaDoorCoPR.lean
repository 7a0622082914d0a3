import Derived.Test.YtpipjkpjpkgmpaaDoorCoO
namespace Go.Proofs.YtpipjkpjpkgmpaaDoor
open Go.RowKit

theorem lent_rdC {w : World} {B g n c : Nat} {xs : List Nat} {tl : List Value} (h : w.ownsRow B 5 1 (.slice (some ⟨g, 0, none⟩) n c) n (u8s xs ++ tl)) (hn : xs.length ≤ n) : Rd .u8 w (some ⟨g, 0, none⟩) xs := fun _ _ => ⟨g, 0, rfl, fun i hi => by
  rw [Nat.zero_add, World.ownsRow.cellAt h i (by omega), List.getElem?_append_left (by rw [u8s_len]; exact hi), u8s, List.getElem?_map, List.getElem?_eq_getElem hi, List.getD_eq_getElem?_getD, List.getElem?_eq_getElem hi]; rfl⟩

set_option maxHeartbeats 2000000 in
set_option maxRecDepth 100000 in
theorem codingTells_any (a : Option Addr) (len cap : Nat) (b : List Nat) (w : World) (hl : b.length = len) (hcap : len ≤ cap) (hcm : cap ≤ 9223372036854775807) (hna : a = none → cap = 0) (h8 : B8 b) (hr : Rd .u8 w a b) (hH : HT w) (hB : BT w) :
    Calls Tryd.prog 5 #[.slice a len cap] w fun e w' => e = .returned (.bool true) ∧ Below w.heap.size w w' := by
  by_cases hbig : 4096 < len
  · have hq : decide ((4096 : Int) < (len : Int)) = true := decide_eq_true (by omega)
    clear hr hH hB
    go_enter Tryd.func5, Tryd.ntmps5
    go_wp2
    go_ret
    exact ⟨rfl, Below.refl _ _⟩
  · have hq : decide ((4096 : Int) < (len : Int)) = false := decide_eq_false (by omega)
    have HR := Lib.hid hr
    have HR0 := Lib.hid hr
    have HH := Lib.hid hH
    have HB := Lib.hid hB
    have H8 := Lib.hid h8
    have HL0 := Lib.hid hl
    obtain ⟨X, hX⟩ : ∃ X, X = strN (hexL b) := ⟨_, rfl⟩
    obtain ⟨Y, hY⟩ : ∃ Y, Y = strN (b64L b) := ⟨_, rfl⟩
    have HX := Lib.hid hX
    have HY := Lib.hid hY
    have hxx : (X.toList == X.toList) = true := by simp
    have hyy : (Y.toList == Y.toList) = true := by simp
    clear hr hH hB h8 hX hY hl
    go_enter Tryd.func5, Tryd.ntmps5
    go_wp2_with fail
    refine (lentBytes_any a len cap b _ HL0.out (by omega) HR.out).mono ?_
    rintro e w1 ⟨g, c1, rfl, hown1, hgw, hb1⟩
    have hc1 : len ≤ c1 := by
      rcases hown1.2 with ⟨h, _⟩ | ⟨g', c', cur, h, _, _, hn, _⟩
      · cases h
      · cases h; omega
    have hc1m : c1 ≤ 9223372036854775807 := by
      rcases hown1.2 with ⟨h, _⟩ | ⟨g', c', cur, h, _, _, _, hm, _⟩
      · cases h
      · cases h; exact hm
    have HR := Lib.hid (HR.out.below hb1)
    have HH := Lib.hid (HH.out.below hb1)
    have HB := Lib.hid (HB.out.below hb1)
    have HBW := Lib.hid hb1
    have HL := Lib.hid hown1
    have HLR := Lib.hid (lent_rdC (xs := b) (show w1.ownsRow _ _ _ (.slice (some ⟨g, 0, none⟩) (len + 16) c1) (len + 16) _ from hown1) (by rw [HL0.out]; omega))
    clear hown1 hb1 hgw
    go_wp2_with fail
    refine (hex_any (some ⟨g, 0, none⟩) len c1 b _ HL0.out (by omega) HLR.out H8.out).mono ?_
    rintro e w2 ⟨rfl, hb2⟩
    rw [← HX.out]
    have HR := Lib.hid (HR.out.below hb2)
    have HH := Lib.hid (HH.out.below hb2)
    have HB := Lib.hid (HB.out.below hb2)
    have HBW := Lib.hid (HBW.out.trans (hb2.mono HBW.out.size))
    have HL := Lib.hid ((Chg.of_below hb2).owns HL.out (fun k hk => by have := (World.ownsRow.lt HL.out k hk).2; omega))
    have HLR := Lib.hid (HLR.out.below hb2)
    clear hb2
    go_wp2_with fail
    refine (rhex_any a len cap b _ HL0.out (by omega) HR.out H8.out).mono ?_
    rintro e w3 ⟨rfl, hb2⟩
    rw [← HX.out]
    have HR := Lib.hid (HR.out.below hb2)
    have HH := Lib.hid (HH.out.below hb2)
    have HB := Lib.hid (HB.out.below hb2)
    have HBW := Lib.hid (HBW.out.trans (hb2.mono HBW.out.size))
    have HL := Lib.hid ((Chg.of_below hb2).owns HL.out (fun k hk => by have := (World.ownsRow.lt HL.out k hk).2; omega))
    have HLR := Lib.hid (HLR.out.below hb2)
    clear hb2
    go_wp2_with fail
    refine (base64_any (some ⟨g, 0, none⟩) len c1 b _ HL0.out (by omega) hc1 hc1m (fun h => by cases h) HLR.out H8.out).mono ?_
    rintro e w4 ⟨rfl, hb2⟩
    rw [← HY.out]
    have HR := Lib.hid (HR.out.below hb2)
    have HH := Lib.hid (HH.out.below hb2)
    have HB := Lib.hid (HB.out.below hb2)
    have HBW := Lib.hid (HBW.out.trans (hb2.mono HBW.out.size))
    have HL := Lib.hid ((Chg.of_below hb2).owns HL.out (fun k hk => by have := (World.ownsRow.lt HL.out k hk).2; omega))
    clear hb2 HLR
    go_wp2_with fail
    refine (rbase64_any a len cap b _ HL0.out (by omega) HR.out H8.out).mono ?_
    rintro e w5 ⟨rfl, hb2⟩
    rw [← HY.out]
    have HR := Lib.hid (HR.out.below hb2)
    have HH := Lib.hid (HH.out.below hb2)
    have HB := Lib.hid (HB.out.below hb2)
    have HBW := Lib.hid (HBW.out.trans (hb2.mono HBW.out.size))
    have HL := Lib.hid ((Chg.of_below hb2).owns HL.out (fun k hk => by have := (World.ownsRow.lt HL.out k hk).2; omega))
    clear hb2
    go_wp2_with fail
    refine (keptBytes_any a w.heap.size g len cap c1 b _ HL0.out (by omega) HR.out HL.out).mono ?_
    rintro e w6 ⟨rfl, rfl⟩
    go_wp2_with fail
    refine (works6_any _ HH.out HB.out).mono ?_
    rintro e w6 ⟨rfl, hb2⟩
    have HBW := Lib.hid (HBW.out.trans (hb2.mono HBW.out.size))
    clear hb2
    go_wp2
    go_ret
    exact ⟨rfl, HBW.out⟩

theorem hexL_8 {b : List Nat} (h : B8 b) : B8 (hexL b) := fun x hx => Nat.lt_trans (hexL_lt h x hx) (by decide)
/-- The second half of CodingOnce: the text is in hex. -/
def OnceFits (l t : List Nat) : Prop := t = l.map low

set_option maxHeartbeats 4000000 in
set_option maxRecDepth 100000 in
theorem codingOnce_any (s : ByteArray) (w : World) (hs : s.size ≤ 9223372036854775807) (hH : HT w) (hB : BT w) :
    Calls Tryd.prog 8 #[.string s] w fun e w' => e = .returned (.bool true) ∧ Below w.heap.size w w' := by
  obtain ⟨n, hn⟩ : ∃ n, n = s.size := ⟨_, rfl⟩
  have hsn : s.size = n := hn.symm
  have HN := Lib.hid hsn
  by_cases hbig : 4096 < n
  · have hq : decide ((4096 : Int) < (n : Int)) = true := decide_eq_true (by omega)
    clear hH hB hn
    go_enter Tryd.func8, Tryd.ntmps8
    go_wp2
    go_ret
    exact ⟨rfl, Below.refl _ _⟩
  · have hq : decide ((4096 : Int) < (n : Int)) = false := decide_eq_false (by omega)
    have HH := Lib.hid hH
    have HB := Lib.hid hB
    have hll : (bsN s).length = n := by rw [bsN_len]; omega
    have HLL := Lib.hid hll
    clear hH hB hn hll hs
    go_enter Tryd.func8, Tryd.ntmps8
    go_wp2_with fail
    refine (un64_any s n _ HN.out (by omega) HB.out).mono ?_
    intro e w1 hp
    obtain ⟨a1, c1, k1, b1, rfl, hb1, ho1, ht1, hl1, hc1, hr1, hn1, hm1⟩ := hp.opens
    have HT1 := Lib.hid ht1
    have hl1 : b1.length ≤ 4096 := by have := HLL.out; omega
    have HR1 := Lib.hid hr1
    have HN1 := Lib.hid hn1
    have HH := Lib.hid (HH.out.below hb1)
    have HB := Lib.hid (HB.out.below hb1)
    have HW := Lib.hid hb1
    clear hp hb1 ho1 ht1 hr1 hn1
    have key : ∀ W : World, Hid (HT W) → Hid (BT W) → Hid (Below w.heap.size w W) → Calls Tryd.prog 29 #[.string s] W fun e w2 => Hid (UnhexPost (bsN s) W e w2) := fun W h1 _ _ => unhex_any s n _ HN.out (by omega) h1.out
    rcases HT1.out with ⟨rfl, h8, he⟩ | ⟨rfl, rfl, -⟩
    · have H8 := Lib.hid h8
      have hse : strN (b64L b1) = s := strN_eq he
      have HSE := Lib.hid hse
      have hss : (s.toList == s.toList) = true := by simp
      clear HT1 h8 he hse key
      go_wp2_with fail
      refine (base64_any a1 b1.length c1 b1 _ rfl (by omega) hc1 hm1 HN1.out HR1.out H8.out).mono ?_
      rintro e w2 ⟨rfl, hb2⟩
      rw [HSE.out]
      have HH := Lib.hid (HH.out.below hb2)
      have HB := Lib.hid (HB.out.below hb2)
      have HW := Lib.hid (HW.out.trans (hb2.mono HW.out.size))
      clear hb2 HR1 HSE H8
      go_wp2_with fail
      refine (unhex_any s n _ HN.out (by omega) HH.out).mono ?_
      intro e w3 hp
      obtain ⟨a2, c2, k2, b2, rfl, hb3, ho2, ht2, hl2, hc2, hr2, hn2, hm2⟩ := hp.opens
      have hl2 : b2.length ≤ 4096 := by have := HLL.out; omega
      have HR2 := Lib.hid hr2
      have HH := Lib.hid (HH.out.below hb3)
      have HB := Lib.hid (HB.out.below hb3)
      have HW := Lib.hid (HW.out.trans (hb3.mono HW.out.size))
      clear hp hb3 ho2 hr2 hn2
      rcases ht2 with ⟨rfl, h8, he⟩ | ⟨rfl, rfl, -⟩
      · have H8 := Lib.hid h8
        have HE := Lib.hid he
        have hXn : (hexL b2).length = n := by rw [he, List.length_map]; exact HLL.out
        have hX8 := hexL_8 h8
        obtain ⟨X, hX⟩ : ∃ X, X = hexL b2 := ⟨_, rfl⟩
        obtain ⟨T, hT⟩ : ∃ T, T = strN (hexL b2) := ⟨_, rfl⟩
        have hTs : T.size = n := by rw [hT, strN_size, hXn]
        have HTB : Hid (bsN T = X) := by show _ = _; rw [hT, bsN_strN hX8, hX]
        have HXE : Hid (X = (bsN s).map low) := by show _ = _; rw [hX, he]
        have HTX := Lib.hid hT
        clear h8 he hXn hX8 hX hT
        go_wp2_with fail
        refine (hex_any a2 b2.length c2 b2 _ rfl (by omega) HR2.out H8.out).mono ?_
        rintro e w4 ⟨rfl, hb4⟩
        rw [← HTX.out]
        have HH := Lib.hid (HH.out.below hb4)
        have HB := Lib.hid (HB.out.below hb4)
        have HW := Lib.hid (HW.out.trans (hb4.mono HW.out.size))
        clear hb4 HR2
        go_wp2
        go_loopw [8] (fun iv wr => ∃ i : Nat, i ≤ n ∧ iv = .int .i64 (i : Nat) ∧ Hid (Below w4.heap.size w4 wr)) (fun iv _ => n - (intOf iv).toNat)
        case atStart => exact ⟨0, Nat.zero_le _, rfl, Below.refl _ _⟩
        case round =>
          obtain ⟨i, hi, rfl, HBR⟩ := hrel
          by_cases hin : i < n
          · obtain ⟨c, hc⟩ : ∃ c, c = at0 (bsN s) i := ⟨_, rfl⟩
            obtain ⟨d, hd⟩ : ∃ d, d = low c := ⟨_, rfl⟩
            have hc8 : c < 256 := by rw [hc]; exact (bsN_8 s).at0 _
            have hdx : at0 (bsN T) i = d := by
              rw [HTB.out, HXE.out, hd, hc]
              have hil : i < (bsN s).length := by rw [HLL.out]; exact hin
              rw [at0_getElem (by simpa using hil), at0_getElem hil, List.getElem_map]
            have x1 : ∀ W, (Instr.index 9 (.string s) (.int .i64 (i : Int))).run Tryd.prog W = .ok (.int .u8 (c : Nat)) W := idx_str 9 Tryd.underlying9 s i c (by omega) hc.symm
            have x2 : ∀ W, (Instr.index 9 (.string T) (.int .i64 (i : Int))).run Tryd.prog W = .ok (.int .u8 (d : Nat)) W := idx_str 9 Tryd.underlying9 T i d (by omega) hdx
            have hup : (65 ≤ c ∧ c ≤ 70 ∧ d = c + 32) ∨ d = c := by
              rw [hd, low]; split
              · rename_i h; exact .inl ⟨h.1, h.2, rfl⟩
              · exact .inr rfl
            clear hc hd hdx
            rcases hup with ⟨u1, u2, u3⟩ | u3
            · have hne : ((d : Int) != (c : Int)) = true := by simp; omega
              have hne2 : ((d : Int) != (c : Int) + 97 - 65) = false := by simp; omega
              have e1 : IntKind.u8.wrap ((c : Int) + 97) = (c : Int) + 97 := by
                rw [show ((c : Int) + 97) = ((c + 97 : Nat) : Int) by omega]; exact wrap_u8_in (c + 97) (by omega)
              have e2 : IntKind.u8.wrap ((c : Int) + 97 - 65) = (c : Int) + 97 - 65 := by
                rw [show ((c : Int) + 97 - 65) = ((c + 32 : Nat) : Int) by omega]; exact wrap_u8_in (c + 32) (by omega)
              clear u3
              go_wp2
              go_quiet (fail)
              go_wp2
              go_roundw
              case rel => exact ⟨i + 1, by omega, by go_num, (Below.drewM HBR.out _)⟩
              case measure => simp [intOf]; omega
            · subst u3
              have hne : ((d : Int) != (d : Int)) = false := by simp
              go_wp2
              go_quiet (fail)
              go_wp2
              go_roundw
              case rel => exact ⟨i + 1, by omega, by go_num, (Below.drewM HBR.out _)⟩
              case measure => simp [intOf]; omega
          · have HH := Lib.hid (HH.out.below HBR.out)
            have HB := Lib.hid (HB.out.below HBR.out)
            have HW := Lib.hid (HW.out.trans (HBR.out.mono HW.out.size))
            go_wp2_with fail
            refine (works6_any _ HH.out HB.out).mono ?_
            rintro e w6 ⟨rfl, hb6⟩
            have HW := Lib.hid (HW.out.trans (hb6.mono HW.out.size))
            clear hb6
            go_wp2
            go_ret
            exact ⟨rfl, HW.out⟩
      · go_wp2_with fail
        refine (works6_any _ HH.out HB.out).mono ?_
        rintro e w6 ⟨rfl, hb6⟩
        have HW := Lib.hid (HW.out.trans (hb6.mono HW.out.size))
        clear hb6
        go_wp2
        go_ret
        exact ⟨rfl, HW.out⟩
    · clear HT1 key HR1 HN1
      go_wp2_with fail
      refine (unhex_any s n _ HN.out (by omega) HH.out).mono ?_
      intro e w3 hp
      obtain ⟨a2, c2, k2, b2, rfl, hb3, ho2, ht2, hl2, hc2, hr2, hn2, hm2⟩ := hp.opens
      have hl2 : b2.length ≤ 4096 := by have := HLL.out; omega
      have HR2 := Lib.hid hr2
      have HH := Lib.hid (HH.out.below hb3)
      have HB := Lib.hid (HB.out.below hb3)
      have HW := Lib.hid (HW.out.trans (hb3.mono HW.out.size))
      clear hp hb3 ho2 hr2 hn2
      rcases ht2 with ⟨rfl, h8, he⟩ | ⟨rfl, rfl, -⟩
      · have H8 := Lib.hid h8
        have HE := Lib.hid he
        have hXn : (hexL b2).length = n := by rw [he, List.length_map]; exact HLL.out
        have hX8 := hexL_8 h8
        obtain ⟨X, hX⟩ : ∃ X, X = hexL b2 := ⟨_, rfl⟩
        obtain ⟨T, hT⟩ : ∃ T, T = strN (hexL b2) := ⟨_, rfl⟩
        have hTs : T.size = n := by rw [hT, strN_size, hXn]
        have HTB : Hid (bsN T = X) := by show _ = _; rw [hT, bsN_strN hX8, hX]
        have HXE : Hid (X = (bsN s).map low) := by show _ = _; rw [hX, he]
        have HTX := Lib.hid hT
        clear h8 he hXn hX8 hX hT
        go_wp2_with fail
        refine (hex_any a2 b2.length c2 b2 _ rfl (by omega) HR2.out H8.out).mono ?_
        rintro e w4 ⟨rfl, hb4⟩
        rw [← HTX.out]
        have HH := Lib.hid (HH.out.below hb4)
        have HB := Lib.hid (HB.out.below hb4)
        have HW := Lib.hid (HW.out.trans (hb4.mono HW.out.size))
        clear hb4 HR2
        go_wp2
        go_loopw [8] (fun iv wr => ∃ i : Nat, i ≤ n ∧ iv = .int .i64 (i : Nat) ∧ Hid (Below w4.heap.size w4 wr)) (fun iv _ => n - (intOf iv).toNat)
        case atStart => exact ⟨0, Nat.zero_le _, rfl, Below.refl _ _⟩
        case round =>
          obtain ⟨i, hi, rfl, HBR⟩ := hrel
          by_cases hin : i < n
          · obtain ⟨c, hc⟩ : ∃ c, c = at0 (bsN s) i := ⟨_, rfl⟩
            obtain ⟨d, hd⟩ : ∃ d, d = low c := ⟨_, rfl⟩
            have hc8 : c < 256 := by rw [hc]; exact (bsN_8 s).at0 _
            have hdx : at0 (bsN T) i = d := by
              rw [HTB.out, HXE.out, hd, hc]
              have hil : i < (bsN s).length := by rw [HLL.out]; exact hin
              rw [at0_getElem (by simpa using hil), at0_getElem hil, List.getElem_map]
            have x1 : ∀ W, (Instr.index 9 (.string s) (.int .i64 (i : Int))).run Tryd.prog W = .ok (.int .u8 (c : Nat)) W := idx_str 9 Tryd.underlying9 s i c (by omega) hc.symm
            have x2 : ∀ W, (Instr.index 9 (.string T) (.int .i64 (i : Int))).run Tryd.prog W = .ok (.int .u8 (d : Nat)) W := idx_str 9 Tryd.underlying9 T i d (by omega) hdx
            have hup : (65 ≤ c ∧ c ≤ 70 ∧ d = c + 32) ∨ d = c := by
              rw [hd, low]; split
              · rename_i h; exact .inl ⟨h.1, h.2, rfl⟩
              · exact .inr rfl
            clear hc hd hdx
            rcases hup with ⟨u1, u2, u3⟩ | u3
            · have hne : ((d : Int) != (c : Int)) = true := by simp; omega
              have hne2 : ((d : Int) != (c : Int) + 97 - 65) = false := by simp; omega
              have e1 : IntKind.u8.wrap ((c : Int) + 97) = (c : Int) + 97 := by
                rw [show ((c : Int) + 97) = ((c + 97 : Nat) : Int) by omega]; exact wrap_u8_in (c + 97) (by omega)
              have e2 : IntKind.u8.wrap ((c : Int) + 97 - 65) = (c : Int) + 97 - 65 := by
                rw [show ((c : Int) + 97 - 65) = ((c + 32 : Nat) : Int) by omega]; exact wrap_u8_in (c + 32) (by omega)
              clear u3
              go_wp2
              go_quiet (fail)
              go_wp2
              go_roundw
              case rel => exact ⟨i + 1, by omega, by go_num, (Below.drewM HBR.out _)⟩
              case measure => simp [intOf]; omega
            · subst u3
              have hne : ((d : Int) != (d : Int)) = false := by simp
              go_wp2
              go_quiet (fail)
              go_wp2
              go_roundw
              case rel => exact ⟨i + 1, by omega, by go_num, (Below.drewM HBR.out _)⟩
              case measure => simp [intOf]; omega
          · have HH := Lib.hid (HH.out.below HBR.out)
            have HB := Lib.hid (HB.out.below HBR.out)
            have HW := Lib.hid (HW.out.trans (HBR.out.mono HW.out.size))
            go_wp2_with fail
            refine (works6_any _ HH.out HB.out).mono ?_
            rintro e w6 ⟨rfl, hb6⟩
            have HW := Lib.hid (HW.out.trans (hb6.mono HW.out.size))
            clear hb6
            go_wp2
            go_ret
            exact ⟨rfl, HW.out⟩
      · go_wp2_with fail
        refine (works6_any _ HH.out HB.out).mono ?_
        rintro e w6 ⟨rfl, hb6⟩
        have HW := Lib.hid (HW.out.trans (hb6.mono HW.out.size))
        clear hb6
        go_wp2
        go_ret
        exact ⟨rfl, HW.out⟩
end Go.Proofs.YtpipjkpjpkgmpaaDoor
