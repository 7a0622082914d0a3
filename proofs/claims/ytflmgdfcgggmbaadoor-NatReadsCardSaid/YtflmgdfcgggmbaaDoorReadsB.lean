import Derived.Test.YtflmgdfcgggmbaaDoorBooks
namespace Go.Proofs.YtflmgdfcgggmbaaDoor
open Go.RowKit

set_option maxHeartbeats 1000000 in
set_option maxRecDepth 100000 in
theorem natReads_any (s : ByteArray) (a : Option Addr) (len cap : Nat) (xs : List Nat) (w : World) (hs : s.size ≤ 9223372036854775807) (hl : xs.length = len) (hbig : len ≤ 9223372036854775807) (hcap : len ≤ cap) (h8 : B8 xs) (hr : Rd .u8 w a xs) :
    Calls Tryd.prog 4 #[.string s, .slice a len cap] w fun e w' => e = .returned (.bool true) ∧ Below w.heap.size w w' := by
  go_enter Tryd.func4, Tryd.ntmps4
  by_cases hsb : 4096 < s.size
  · have hq : decide ((4096 : Int) < (s.size : Int)) = true := by rw [decide_eq_true_iff]; omega
    have h1 := Lib.hid hsb
    clear hsb
    go_wp2
    go_ret
    exact ⟨rfl, Below.refl _ _⟩
  have hq : decide ((4096 : Int) < (s.size : Int)) = false := by rw [decide_eq_false_iff_not]; omega
  by_cases hlb : 4096 < len
  · have hq : decide ((4096 : Int) < (len : Int)) = true := by rw [decide_eq_true_iff]; omega
    have h1 := Lib.hid hlb
    clear hlb
    go_wp2
    go_ret
    exact ⟨rfl, Below.refl _ _⟩
  have hq : decide ((4096 : Int) < (len : Int)) = false := by rw [decide_eq_false_iff_not]; omega
  have hl4 : len ≤ 4096 := by omega
  clear hsb hlb hbig
  go_wp2_with fail
  refine (lentBytes_any a len cap xs _ hl (by omega) hr).mono ?_
  rintro e w1 ⟨g, c1, rfl, hox, hBg, hb1⟩
  have HOX := Lib.hid hox
  have HB1 := Lib.hid hb1
  clear hox hb1
  go_wp2_with fail
  refine (parse_any s _ hs).mono ?_
  intro e w2 hp
  obtain ⟨hb2, al, cl, kl, zs, rfl, hol, hzl, htl⟩ := hp.told
  clear hp
  have HOL := Lib.hid hol
  have HLT := Lib.hid fun k hk => (World.ownsRow.lt hol k hk).2
  have HBS := Lib.hid (And.intro HB1.out.size hb2.size)
  have HTL := Lib.hid htl
  have HOX := Lib.hid (owns_below HOX.out hb2)
  have HB2 := Lib.hid (HB1.out.trans (hb2.mono HB1.out.size))
  have S12 := hb2.size
  clear hol htl hb2
  go_wp2_with fail
  refine (from_any (some ⟨g, 0, none⟩) len c1 xs _ hl (by omega) (by have := own_room HOX.out; omega) h8 (rd8_of HOX.out (List.take_left' (u8s_len xs)) (by omega))).mono ?_
  intro e w3 hp
  obtain ⟨hb3, am, cm, km, ms, rfl, hom, hml, htm⟩ := hp.told
  clear hp
  have HOM := Lib.hid hom
  have HTM := Lib.hid htm
  have S23 := hb3.size
  have HOX := Lib.hid (owns_below HOX.out hb3)
  have HOL := Lib.hid (own64.below HOL.out hb3)
  have HB3 := Lib.hid (HB2.out.trans (hb3.mono HB2.out.size))
  clear hom htm hb3
  go_wp2_with fail
  refine (rparse_any s _ hs).mono ?_
  intro e w4 hp
  have hp : ParsePost s.data.toList w3 e w4 := hp
  obtain ⟨hb4, al', cl', kl', zs', rfl, hol', -, htl'⟩ := hp.told
  clear hp
  obtain ⟨rfl, rfl⟩ := HTL.out.one htl'
  have HOL' := Lib.hid hol'
  have S34 := hb4.size
  have HOX := Lib.hid (owns_below HOX.out hb4)
  have HOL := Lib.hid (own64.below HOL.out hb4)
  have HOM := Lib.hid (own64.below HOM.out hb4)
  have HB4 := Lib.hid (HB3.out.trans (hb4.mono HB3.out.size))
  clear hol' htl' hb4
  go_wp2_with fail
  refine (rfrom_any a len cap xs _ hl (by omega) h8 (hr.below HB4.out)).mono ?_
  intro e w5 hp
  obtain ⟨hb5, am', cm', km', ms', rfl, hom', -, htm'⟩ := hp.told
  clear hp
  obtain ⟨rfl, rfl⟩ := HTM.out.one htm'
  have HOM' := Lib.hid hom'
  have S45 := hb5.size
  have HOX := Lib.hid (owns_below HOX.out hb5)
  have HOL := Lib.hid (own64.below HOL.out hb5)
  have HOM := Lib.hid (own64.below HOM.out hb5)
  have HOL' := Lib.hid (own64.below HOL'.out hb5)
  have HB5 := Lib.hid (HB4.out.trans (hb5.mono HB4.out.size))
  clear hom' htm' hb5 HB1 HB2 HB3 HB4
  have S01 := HB5.out.size
  go_wp2_with fail
  have hsep : Sep w5 w.heap.size (rwNo :: rwNo8 :: ([rw64 (.slice al zs.length cl) zs, rw64 (.slice am ms.length cm) ms] ++ [])) := by
    refine (Sep.nilRow ?_ _).nilRow _
    refine ⟨fun r hr => ?_, ?_⟩
    · rcases List.mem_cons.1 hr with rfl | hr
      · exact owns_base HOL.out (by have := HBS.out; omega)
      · obtain rfl : r = rw64 (.slice am ms.length cm) ms := by simpa using hr
        exact owns_base HOM.out (by have := HBS.out; omega)
    · refine List.pairwise_cons.2 ⟨fun r hr k hk hk2 => ?_, List.pairwise_cons.2 ⟨(fun r hr => by cases hr), List.Pairwise.nil⟩⟩
      obtain rfl : r = rw64 (.slice am ms.length cm) ms := by simpa using hr
      have h1 := (World.ownsRow.lt HOM.out k hk2).1
      have h2 := HLT.out k hk
      omega
  have hbok := Bok.start (T := 35) hsep S01 rfl
  go_wp2_with fail
  refine (hbok.words al zs.length cl (by simp)).mono ?_
  rintro e w7 ⟨rfl, ⟨vw7, hbok7⟩, hb7⟩
  have HK7 := Lib.hid hbok7
  have HB57 := Lib.hid (((Below.refl w5.heap.size w5).alloc (Nat.le_refl _) _).trans hb7)
  clear hbok7 hb7 hbok hsep
  go_wp2_with fail
  refine (HK7.out.words am ms.length cm (by simp)).mono ?_
  rintro e w8 ⟨rfl, ⟨vw8, hbok8⟩, hb8⟩
  have HK8 := Lib.hid hbok8
  have HB58 := Lib.hid (HB57.out.trans hb8)
  clear hbok8 hb8 HK7 HB57
  have HOX := Lib.hid (owns_below HOX.out HB58.out)
  have HOL := Lib.hid (own64.below HOL.out HB58.out)
  have HOL' := Lib.hid (own64.below HOL'.out HB58.out)
  have HOM := Lib.hid (own64.below HOM.out HB58.out)
  have HOM' := Lib.hid (own64.below HOM'.out HB58.out)
  have HB8 := Lib.hid (HB5.out.trans (HB58.out.mono HB5.out.size))
  clear HB5 HB58
  go_wp2_with fail
  refine (lsame_any al al' zs.length cl cl' kl zs _ rfl (by omega) (own64.rd HOL.out).2 (own64.rd HOL'.out).2).mono ?_
  rintro e w9 ⟨rfl, n9, hw9⟩
  have hb9 : Below w8.heap.size w8 w9 := by rw [hw9]; exact Below.drewM (Below.refl _ _) n9
  have HK9 := Lib.hid (HK8.out.below hb9)
  have HOX := Lib.hid (owns_below HOX.out hb9)
  have HOM := Lib.hid (own64.below HOM.out hb9)
  have HOM' := Lib.hid (own64.below HOM'.out hb9)
  have HB9 := Lib.hid (HB8.out.trans (hb9.mono HB8.out.size))
  clear hb9 hw9 HK8 HB8
  go_wp2_with fail
  refine (lsame_any am am' ms.length cm cm' km ms _ rfl (by omega) (own64.rd HOM.out).2 (own64.rd HOM'.out).2).mono ?_
  rintro e w10 ⟨rfl, n10, hw10⟩
  have hb10 : Below w9.heap.size w9 w10 := by rw [hw10]; exact Below.drewM (Below.refl _ _) n10
  have HK10 := Lib.hid (HK9.out.below hb10)
  have HOX := Lib.hid (owns_below HOX.out hb10)
  have HB10 := Lib.hid (HB9.out.trans (hb10.mono HB9.out.size))
  clear hb10 hw10 HK9 HB9
  go_wp2_with fail
  refine (keptBytes_any a w.heap.size g len cap c1 xs _ hl (by omega) (hr.below HB10.out) HOX.out).mono ?_
  rintro e w11 ⟨rfl, rfl⟩
  go_wp2_with fail
  refine (Bok.apart (WL := [rw64 (.slice al zs.length cl) zs, rw64 (.slice am ms.length cm) ms]) (BL := []) HK10.out ?_ (fun s hs => by cases hs) (by simp) (by simp)).mono ?_
  · intro s hs
    rcases List.mem_cons.1 hs with rfl | hs
    · exact ⟨rfl, by show zs.length ≤ _; omega⟩
    · obtain rfl : s = rw64 (.slice am ms.length cm) ms := by simpa using hs
      exact ⟨rfl, by show ms.length ≤ _; omega⟩
  rintro e w12 ⟨rfl, hb12⟩
  have HB12 := Lib.hid (HB10.out.trans hb12)
  clear hb12 HB10 HK10
  go_wp2_with fail
  refine (works_any _).mono ?_
  rintro e w13 ⟨rfl, hb13⟩
  have HB13 := Lib.hid (HB12.out.trans (hb13.mono HB12.out.size))
  clear hb13 HB12
  go_wp2
  go_ret
  exact ⟨rfl, HB13.out⟩
end Go.Proofs.YtflmgdfcgggmbaaDoor
