import Derived.Test.YtpipjkpjpkgmpaaDoorCoO
namespace Go.Proofs.YtpipjkpjpkgmpaaDoor
open Go.RowKit

theorem lent_rdC {w : World} {B g n c : Nat} {xs : List Nat} {tl : List Value} (h : w.ownsRow B 5 1 (.slice (some ⟨g, 0, none⟩) n c) n (u8s xs ++ tl)) (hn : xs.length ≤ n) : Rd .u8 w (some ⟨g, 0, none⟩) xs := fun _ _ => ⟨g, 0, rfl, fun i hi => by
  rw [Nat.zero_add, World.ownsRow.cellAt h i (by omega), List.getElem?_append_left (by rw [u8s_len]; exact hi), u8s, List.getElem?_map, List.getElem?_eq_getElem hi, List.getD_eq_getElem?_getD, List.getElem?_eq_getElem hi]; rfl⟩

set_option maxHeartbeats 2000000 in
set_option maxRecDepth 100000 in
theorem codingTells_any (a : Option Addr) (len cap : Nat) (b : List Nat) (w : World) (hl : b.length = len) (hcap : len ≤ cap) (hcm : cap ≤ 9223372036854775807) (hna : a = none → cap = 0) (h8 : B8 b) (hr : Rd .u8 w a b) (hH : HT w) (hB : BT w) :
    Calls Tryd.prog 5 #[.slice a len cap] w fun e w' => e = .returned (.bool true) ∧ Below w.heap.size w w' := by
  by_cases hbig : 4096 < len
  · have hq : decide ((4096 : Int) < (len : Int)) = true := decide_eq_true (by omega)
    clear hr hH hB
    go_enter Tryd.func5, Tryd.ntmps5
    go_wp2
    go_ret
    exact ⟨rfl, Below.refl _ _⟩
  · have hq : decide ((4096 : Int) < (len : Int)) = false := decide_eq_false (by omega)
    have HR := Lib.hid hr
    have HR0 := Lib.hid hr
    have HH := Lib.hid hH
    have HB := Lib.hid hB
    have H8 := Lib.hid h8
    have HL0 := Lib.hid hl
    obtain ⟨X, hX⟩ : ∃ X, X = strN (hexL b) := ⟨_, rfl⟩
    obtain ⟨Y, hY⟩ : ∃ Y, Y = strN (b64L b) := ⟨_, rfl⟩
    have HX := Lib.hid hX
    have HY := Lib.hid hY
    have hxx : (X.toList == X.toList) = true := by simp
    have hyy : (Y.toList == Y.toList) = true := by simp
    clear hr hH hB h8 hX hY hl
    go_enter Tryd.func5, Tryd.ntmps5
    go_wp2_with fail
    refine (lentBytes_any a len cap b _ HL0.out (by omega) HR.out).mono ?_
    rintro e w1 ⟨g, c1, rfl, hown1, hgw, hb1⟩
    have hc1 : len ≤ c1 := by
      rcases hown1.2 with ⟨h, _⟩ | ⟨g', c', cur, h, _, _, hn, _⟩
      · cases h
      · cases h; omega
    have hc1m : c1 ≤ 9223372036854775807 := by
      rcases hown1.2 with ⟨h, _⟩ | ⟨g', c', cur, h, _, _, _, hm, _⟩
      · cases h
      · cases h; exact hm
    have HR := Lib.hid (HR.out.below hb1)
    have HH := Lib.hid (HH.out.below hb1)
    have HB := Lib.hid (HB.out.below hb1)
    have HBW := Lib.hid hb1
    have HL := Lib.hid hown1
    have HLR := Lib.hid (lent_rdC (xs := b) (show w1.ownsRow _ _ _ (.slice (some ⟨g, 0, none⟩) (len + 16) c1) (len + 16) _ from hown1) (by rw [HL0.out]; omega))
    clear hown1 hb1 hgw
    go_wp2_with fail
    refine (hex_any (some ⟨g, 0, none⟩) len c1 b _ HL0.out (by omega) HLR.out H8.out).mono ?_
    rintro e w2 ⟨rfl, hb2⟩
    rw [← HX.out]
    have HR := Lib.hid (HR.out.below hb2)
    have HH := Lib.hid (HH.out.below hb2)
    have HB := Lib.hid (HB.out.below hb2)
    have HBW := Lib.hid (HBW.out.trans (hb2.mono HBW.out.size))
    have HL := Lib.hid ((Chg.of_below hb2).owns HL.out (fun k hk => by have := (World.ownsRow.lt HL.out k hk).2; omega))
    have HLR := Lib.hid (HLR.out.below hb2)
    clear hb2
    go_wp2_with fail
    refine (rhex_any a len cap b _ HL0.out (by omega) HR.out H8.out).mono ?_
    rintro e w3 ⟨rfl, hb2⟩
    rw [← HX.out]
    have HR := Lib.hid (HR.out.below hb2)
    have HH := Lib.hid (HH.out.below hb2)
    have HB := Lib.hid (HB.out.below hb2)
    have HBW := Lib.hid (HBW.out.trans (hb2.mono HBW.out.size))
    have HL := Lib.hid ((Chg.of_below hb2).owns HL.out (fun k hk => by have := (World.ownsRow.lt HL.out k hk).2; omega))
    have HLR := Lib.hid (HLR.out.below hb2)
    clear hb2
    go_wp2_with fail
    refine (base64_any (some ⟨g, 0, none⟩) len c1 b _ HL0.out (by omega) hc1 hc1m (fun h => by cases h) HLR.out H8.out).mono ?_
    rintro e w4 ⟨rfl, hb2⟩
    rw [← HY.out]
    have HR := Lib.hid (HR.out.below hb2)
    have HH := Lib.hid (HH.out.below hb2)
    have HB := Lib.hid (HB.out.below hb2)
    have HBW := Lib.hid (HBW.out.trans (hb2.mono HBW.out.size))
    have HL := Lib.hid ((Chg.of_below hb2).owns HL.out (fun k hk => by have := (World.ownsRow.lt HL.out k hk).2; omega))
    clear hb2 HLR
    go_wp2_with fail
    refine (rbase64_any a len cap b _ HL0.out (by omega) HR.out H8.out).mono ?_
    rintro e w5 ⟨rfl, hb2⟩
    rw [← HY.out]
    have HR := Lib.hid (HR.out.below hb2)
    have HH := Lib.hid (HH.out.below hb2)
    have HB := Lib.hid (HB.out.below hb2)
    have HBW := Lib.hid (HBW.out.trans (hb2.mono HBW.out.size))
    have HL := Lib.hid ((Chg.of_below hb2).owns HL.out (fun k hk => by have := (World.ownsRow.lt HL.out k hk).2; omega))
    clear hb2
    go_wp2_with fail
    refine (keptBytes_any a w.heap.size g len cap c1 b _ HL0.out (by omega) HR.out HL.out).mono ?_
    rintro e w6 ⟨rfl, rfl⟩
    go_wp2_with fail
    refine (works6_any _ HH.out HB.out).mono ?_
    rintro e w6 ⟨rfl, hb2⟩
    have HBW := Lib.hid (HBW.out.trans (hb2.mono HBW.out.size))
    clear hb2
    go_wp2
    go_ret
    exact ⟨rfl, HBW.out⟩
end Go.Proofs.YtpipjkpjpkgmpaaDoor
