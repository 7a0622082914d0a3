import Derived.Test.YtpipjkpjpkgmpaaDoorShQ
import Derived.Test.YtpipjkpjpkgmpaaDoorMoves
namespace Go.Proofs.YtpipjkpjpkgmpaaDoor
open Go.RowKit

def rwp (v : Value) (n : Nat) : Rw := ⟨v, 5, padN n + 9, u8s (padI n)⟩

set_option maxHeartbeats 1600000 in
set_option maxRecDepth 100000 in
theorem shaPads_any (n : Nat) (w : World) (hn : n < 18446744073709551616) (hF : Five w) : Calls Tryd.prog 21 #[.int .u64 (n : Nat)] w fun e w' => e = .returned (.bool true) ∧ Below w.heap.size w w' := by
  have hp := padN_lt n
  have HF := Lib.hid hF
  have hGS : (0 : Nat) < w.heap.size := hF.lt
  clear hF
  go_enter Tryd.func21, Tryd.ntmps21
  go_wp2_with fail
  refine (spad_any n _ hn).mono ?_
  rintro e w1 ⟨g1, c1, rfl, hown1, hb1⟩
  have HF := Lib.hid (HF.out.below hb1)
  have HB := Lib.hid hb1
  have hs1 := hb1.size
  have hg1 : g1 < w1.heap.size := (hown1.lt g1 rfl).2
  go_wp2_with fail
  refine (spad_any n _ hn).mono ?_
  rintro e w2 ⟨g2, c2, rfl, hown2, hb2⟩
  have HF := Lib.hid (HF.out.below hb2)
  have HB := Lib.hid (HB.out.trans (hb2.mono HB.out.size))
  have hown1 := (Chg.of_below hb2).owns hown1 (fun k hk => by have := (hown1.lt k hk).2; omega)
  have hl1 := hown1.lt g1 rfl
  have hl2 := hown2.lt g2 rfl
  have h12 : g1 ≠ g2 := by
    omega
  go_wp2_with fail
  refine (rpad_any n _ hn).mono ?_
  rintro e w3 ⟨g3, c3, rfl, hown3, hb3⟩
  have HF := Lib.hid (HF.out.below hb3)
  have HB := Lib.hid (HB.out.trans (hb3.mono HB.out.size))
  have hown1 := (Chg.of_below hb3).owns hown1 (fun k hk => by have := (hown1.lt k hk).2; omega)
  have hown2 := (Chg.of_below hb3).owns hown2 (fun k hk => by have := (hown2.lt k hk).2; omega)
  have HR1 := Lib.hid (own_rdw hown1)
  have HR2 := Lib.hid (own_rdw hown2)
  have HR3 := Lib.hid (own_rdw hown3)
  have hs2 := hb2.size
  have hs3 := hb3.size
  have HO1 := Lib.hid hown1
  have HO2 := Lib.hid hown2
  clear hown1 hown2 hown3 hb1 hb2 hb3
  have HPL : Hid ((padI n).length = padN n + 9) := padI_len n
  go_wp2_with fail
  refine (bytes_same (some ⟨g1, 0, none⟩) (some ⟨g3, 0, none⟩) (padN n + 9) c1 c3 (padI n) _ HPL.out (by omega) HR1.out HR3.out).mono ?_
  rintro e w4 ⟨rfl, n4, hw4⟩
  have hb4 : Below w3.heap.size w3 w4 := by rw [hw4]; exact Below.drewM (Below.refl _ _) n4
  clear hw4
  have HF := Lib.hid (HF.out.below hb4)
  have HB := Lib.hid (HB.out.trans (hb4.mono HB.out.size))
  have HO1 := Lib.hid ((Chg.of_below hb4).owns HO1.out (fun k hk => by have := (HO1.out.lt k hk).2; omega))
  have HO2 := Lib.hid ((Chg.of_below hb4).owns HO2.out (fun k hk => by have := (HO2.out.lt k hk).2; omega))
  have HR2 := Lib.hid (HR2.out.below hb4)
  have HR3 := Lib.hid (HR3.out.below hb4)
  have hs4 := hb4.size
  clear hb4 HR1
  go_wp2_with fail
  refine (bytes_same (some ⟨g2, 0, none⟩) (some ⟨g3, 0, none⟩) (padN n + 9) c2 c3 (padI n) _ HPL.out (by omega) HR2.out HR3.out).mono ?_
  rintro e w5 ⟨rfl, n5, hw5⟩
  have hb5 : Below w4.heap.size w4 w5 := by rw [hw5]; exact Below.drewM (Below.refl _ _) n5
  clear hw5
  have HF := Lib.hid (HF.out.below hb5)
  have HB := Lib.hid (HB.out.trans (hb5.mono HB.out.size))
  have HO1 := Lib.hid ((Chg.of_below hb5).owns HO1.out (fun k hk => by have := (HO1.out.lt k hk).2; omega))
  have HO2 := Lib.hid ((Chg.of_below hb5).owns HO2.out (fun k hk => by have := (HO2.out.lt k hk).2; omega))
  have hs5 := hb5.size
  clear hb5 HR2 HR3
  have hsep : Sep w5 w.heap.size (rwNo :: rwNo8 :: ([] ++ [rwp (.slice (some ⟨g1, 0, none⟩) (padN n + 9) c1) n, rwp (.slice (some ⟨g2, 0, none⟩) (padN n + 9) c2) n])) := by
    refine (Sep.nilRow ?_ _).nilRow _
    refine ⟨fun r hr => ?_, ?_⟩
    · rcases List.mem_cons.1 hr with rfl | hr
      · exact HO1.out
      · obtain rfl : r = rwp (.slice (some ⟨g2, 0, none⟩) (padN n + 9) c2) n := by simpa using hr
        exact owns_base HO2.out hs1
    · refine List.pairwise_cons.2 ⟨fun r hr k hk hk2 => ?_, List.pairwise_cons.2 ⟨(fun r hr => by cases hr), List.Pairwise.nil⟩⟩
      obtain rfl : r = rwp (.slice (some ⟨g2, 0, none⟩) (padN n + 9) c2) n := by simpa using hr
      have e1 : g1 = k := Option.some.inj hk
      have e2 : g2 = k := Option.some.inj hk2
      omega
  have hbok := Bok.start (T := 49) hsep (by omega) rfl
  go_wp2_with fail
  refine (hbok.bytes (some ⟨g1, 0, none⟩) (padN n + 9) c1 (by simp)).mono ?_
  rintro e w8 ⟨rfl, ⟨vb8, hbok8⟩, hb8⟩
  have HK8 := Lib.hid hbok8
  have HB58 := Lib.hid (((Below.refl w5.heap.size w5).alloc (Nat.le_refl _) _).trans hb8)
  clear hbok8 hb8 hbok hsep
  go_wp2_with fail
  refine (HK8.out.bytes (some ⟨g2, 0, none⟩) (padN n + 9) c2 (by simp)).mono ?_
  rintro e w9 ⟨rfl, ⟨vb9, hbok9⟩, hb9⟩
  have HK9 := Lib.hid hbok9
  have HB59 := Lib.hid (HB58.out.trans hb9)
  have HF := Lib.hid (HF.out.below HB59.out)
  have HB := Lib.hid (HB.out.trans (HB59.out.mono HB.out.size))
  have hs9 := HB59.out.size
  clear hbok9 hb9 HK8 HB58 HB59 HO1 HO2
  go_wp2_with fail
  refine (Bok.apart (WL := []) (BL := [rwp (.slice (some ⟨g1, 0, none⟩) (padN n + 9) c1) n, rwp (.slice (some ⟨g2, 0, none⟩) (padN n + 9) c2) n]) HK9.out (fun s hs => by cases hs) (fun s hs => ?_) (by decide) (by simp)).mono ?_
  · rcases List.mem_cons.1 hs with rfl | hs
    · exact ⟨rfl, by show padN n + 9 ≤ _; omega⟩
    · obtain rfl : s = rwp (.slice (some ⟨g2, 0, none⟩) (padN n + 9) c2) n := by simpa using hs
      exact ⟨rfl, by show padN n + 9 ≤ _; omega⟩
  rintro e w10 ⟨rfl, hb10⟩
  have HF2 : Hid (Five w10) := fun i hi => (hb10.cell (p := ⟨0, i, none⟩) (show (0 : Nat) < w.heap.size from hGS)).trans (HF.out i hi)
  have HB10 := Lib.hid (HB.out.trans hb10)
  clear hb10 HK9
  go_wp2_with fail
  refine (works5_any _ HF2.out).mono ?_
  rintro e w11 ⟨rfl, hb11⟩
  have HB11 := Lib.hid (HB10.out.trans (hb11.mono HB10.out.size))
  clear hb11
  go_wp2
  go_ret
  exact ⟨rfl, HB11.out⟩
end Go.Proofs.YtpipjkpjpkgmpaaDoor
