import Derived.Test.YtkghgfiindpcjaaDeW
namespace Go.Proofs.Ytkghgfiindpcjaa
open Go.RowKit

/-! DerItems. -/
set_option maxHeartbeats 4000000 in
set_option maxRecDepth 100000 in
theorem derItems_any (a : Option Addr) (len cap : Nat) (b : List Nat) (at' : Int) (w : World) (hl : b.length = len) (hcap : len ≤ cap) (hcm : cap ≤ 9223372036854775807) (hna : a = none → cap = 0) (h8 : B8 b) (hr : Rd .u8 w a b) (hz1 : -9223372036854775808 ≤ at') (hz2 : at' ≤ 9223372036854775807) :
    Calls Try.prog 3 #[.slice a len cap, .int .i64 at'] w fun e w' => e = .returned (.bool true) ∧ Below w.heap.size w w' := by
  by_cases hbig : 4096 < len
  · have hq : decide ((4096 : Int) < (len : Int)) = true := decide_eq_true (by omega)
    clear hr
    go_enter Try.func3, Try.ntmps3
    go_wp2
    go_ret
    exact ⟨rfl, Below.refl _ _⟩
  · have hq : decide ((4096 : Int) < (len : Int)) = false := decide_eq_false (by omega)
    have HLE := Lib.hid hl
    have HR := Lib.hid hr
    have H8 := Lib.hid h8
    clear hl hr h8 hna
    go_enter Try.func3, Try.ntmps3
    go_wp2_with fail
    refine (lentBytes_any a len cap b _ HLE.out (by omega) HR.out).mono ?_
    rintro e w1 ⟨g, c1, rfl, hown1, hgw, hb1⟩
    have hc1 : len ≤ c1 := by
      rcases hown1.2 with ⟨h, _⟩ | ⟨g', c', cur, h, _, _, hn, _⟩
      · cases h
      · cases h; omega
    have hc1m : c1 ≤ 9223372036854775807 := by
      rcases hown1.2 with ⟨h, _⟩ | ⟨g', c', cur, h, _, _, _, hm, _⟩
      · cases h
      · cases h; exact hm
    have HR1 := Lib.hid (HR.out.below hb1)
    have HBW1 := Lib.hid hb1
    have HL1 := Lib.hid hown1
    have HLR := Lib.hid (lent_rdD (xs := b) (show w1.ownsRow _ _ _ (.slice (some ⟨g, 0, none⟩) (len + 16) c1) (len + 16) _ from hown1) (by rw [HLE.out]; omega))
    clear hown1 hb1 hgw
    go_wp2_with fail
    refine (item_any (some ⟨g, 0, none⟩) len c1 b at' _ HLE.out (by omega) hc1 H8.out HLR.out hz1 hz2).mono ?_
    rintro e w2 ⟨hb, k, t, f, o, hi, rfl⟩
    have HI := Lib.hid hi
    have HX := Lib.hid hb
    clear hb hi
    go_wp2_with fail
    refine (integer_any (some ⟨g, 0, none⟩) len c1 b _ HLE.out (by omega) hc1 H8.out (HLR.out.below HX.out)).mono ?_
    rintro e w3 ⟨hb, a3, c3, k3, zs, rfl, ho, hz, hT⟩
    obtain ⟨n, hn⟩ : ∃ n, n = zs.length := ⟨_, rfl⟩
    have HN := Lib.hid hn
    have HT := Lib.hid hT
    have hsp : Sep w3 w1.heap.size [rw64 (.slice a3 zs.length c3) zs] := ⟨fun r hr => by
      obtain rfl : r = _ := by simpa using hr
      exact owns_base ho HX.out.size, List.pairwise_singleton _ _⟩
    have HS := Lib.hid hsp
    have HX := Lib.hid (HX.out.trans (hb.mono HX.out.size))
    rw [← hn] at HS hz ⊢
    clear hb ho hT hn hsp
    go_wp2_with fail
    refine (ritem_any a len cap b at' _ HLE.out (by omega) H8.out (HR1.out.below HX.out) hz1 hz2).mono ?_
    rintro e w4 ⟨rfl, k4, t4, f4, o4, hi, rfl⟩
    rw [HI.out] at hi
    simp only [Prod.mk.injEq] at hi
    obtain ⟨rfl, rfl, rfl, rfl⟩ := hi
    clear HI
    go_wp2_with fail
    refine (rinteger_any a len cap b _ HLE.out (by omega) H8.out (HR1.out.below HX.out)).mono ?_
    rintro e w5 ⟨hb, a5, c5, k5, ys, rfl, ho, -, hT⟩
    obtain ⟨rfl, rfl⟩ := hT.one HT.out
    have HO := Lib.hid (own64.rd ho).2
    have HS := Lib.hid (HS.out.belowS hb)
    have HX := Lib.hid (HX.out.trans (hb.mono HX.out.size))
    rw [← HN.out]
    clear hb ho hT
    have q1 : ((t : Int) != (t : Int)) = false := by simp
    have q2 : ((f : Int) != (f : Int)) = false := by simp
    have q3 : ((o : Int) != (o : Int)) = false := by simp
    have q4 : (k != k) = false := by simp
    have q5 : (k5 != k5) = false := by simp
    go_wp2_with fail
    refine (words_same _ _ n _ _ ys _ HN.out.symm (by omega) (own64.rd (HS.out.own (v := .slice a3 n c3) (zs := ys) (by simp))).2 HO.out).mono ?_
    rintro e w6 ⟨rfl, nq, hw⟩
    have hb7 : Below w5.heap.size w5 w6 := by rw [hw]; exact Below.drewM (Below.refl _ _) nq
    have HS := Lib.hid (HS.out.belowS hb7)
    have HX := Lib.hid (HX.out.trans (hb7.mono HX.out.size))
    clear hw hb7 HO
    have hsep : Sep w6 w1.heap.size (rwNo :: rwNo8 :: ([rw64 (.slice a3 n c3) ys] ++ [])) := ((Sep.perm HS.out (List.Perm.refl _)).nilRow _).nilRow _
    have hbok := Bok.start (T := 34) hsep HX.out.size rfl
    have hb7 := (Below.refl w6.heap.size w6).alloc (Nat.le_refl _) (.cells #[.slice none 0 0, .slice none 0 0] 34)
    have HK := Lib.hid hbok
    have HX7 := Lib.hid (HX.out.trans (hb7.mono HX.out.size))
    have hszX := HX.out.size
    clear hbok hsep hb7 HS
    go_wp2_with fail
    refine (HK.out.words a3 n c3 (by decide)).mono ?_
    rintro e w7 ⟨rfl, ⟨vb0, hbok⟩, hb7⟩
    have HK := Lib.hid hbok
    have HX8 := Lib.hid (HX7.out.trans (hb7.mono hszX))
    clear hbok hb7
    go_wp2_with fail
    refine (Bok.apart (WL := [rw64 (.slice a3 n c3) ys]) (BL := []) HK.out (fun s hs => ?_) (fun s hs => by cases hs) (by simp) (by decide)).mono ?_
    · obtain rfl : s = _ := by simpa using hs
      exact ⟨rfl, by simp only [rw64]; have := HN.out; omega⟩
    rintro e w9 ⟨rfl, hb9⟩
    have HXF := Lib.hid (HX8.out.trans hb9)
    have HLF := Lib.hid ((Chg.of_below HXF.out).owns HL1.out (fun k hk => by have := (World.ownsRow.lt HL1.out k hk).2; omega))
    clear hb9 HK
    go_wp2_with fail
    refine (keptBytes_any a w.heap.size g len cap c1 b _ HLE.out (by omega) (HR1.out.below HXF.out) HLF.out).mono ?_
    rintro e w10 ⟨rfl, rfl⟩
    have HBF := Lib.hid (HBW1.out.trans (HXF.out.mono HBW1.out.size))
    go_wp2_with fail
    refine (works7_any _).mono ?_
    rintro e w11 ⟨rfl, hb⟩
    have HBG := Lib.hid (HBF.out.trans (hb.mono HBF.out.size))
    clear hb
    go_wp2
    go_ret
    exact ⟨rfl, HBG.out⟩
end Go.Proofs.Ytkghgfiindpcjaa
