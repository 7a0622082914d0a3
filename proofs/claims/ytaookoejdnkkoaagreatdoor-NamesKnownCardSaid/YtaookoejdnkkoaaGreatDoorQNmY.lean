import Derived.Test.YtaookoejdnkkoaaGreatDoorQ19
import Derived.Test.YtaookoejdnkkoaaGreatDoorQNmU
namespace Go.Proofs.YtaookoejdnkkoaaGreatDoor
open Go.RowKit

/-! NamesSigned, NamesTell. -/
theorem HT.low {B : Nat} {w w' : World} (h : HT w) (hB : (2 : Nat) < B) (hb : Below B w w') : HT w' := fun i hi => (hb.cell (p := ⟨2, i, none⟩) hB).trans (h i hi)
theorem BT.low {B : Nat} {w w' : World} (h : BT w) (hB : (3 : Nat) < B) (hb : Below B w w') : BT w' := fun i hi => (hb.cell (p := ⟨3, i, none⟩) hB).trans (h i hi)
set_option maxHeartbeats 4000000 in
set_option maxRecDepth 100000 in
theorem namesSigned_any (s : ByteArray) (w : World) (hs : s.size ≤ 9223372036854775807) (hH : HT w) (hB : BT w) :
    Calls Tryz.prog 5 #[.string s] w fun e w' => e = .returned (.bool true) ∧ Below w.heap.size w w' := by
  obtain ⟨n, hn⟩ : ∃ n, n = s.size := ⟨_, rfl⟩
  have hsn : s.size = n := hn.symm
  by_cases hbig : 8192 < n
  · have hq : decide ((8192 : Int) < (n : Int)) = true := decide_eq_true (by omega)
    clear hH hB hn
    go_enter Tryz.func5, Tryz.ntmps5
    go_wp2
    go_ret
    exact ⟨rfl, Below.refl _ _⟩
  · have hq : decide ((8192 : Int) < (n : Int)) = false := decide_eq_false (by omega)
    have hnb : n ≤ 1099511627776 := by omega
    have hGH := hH.lt
    have hGB := hB.lt
    have NS := Lib.hid (NE.start hH hB)
    have HN := Lib.hid hsn
    clear hH hB hn hs
    go_enter Tryz.func5, Tryz.ntmps5
    go_wp2_with fail
    refine (p_sig s n _ HN.out hnb NS.out.hh NS.out.bb).mono ?_
    rintro e w1 ⟨hb, a1, c1, k, p, b, rfl, ho, ht, hp8, hbl, -, -, -, -⟩
    have NS := Lib.hid (NS.out.bytes hb ho)
    have HT1 := Lib.hid ht
    have HP8 := Lib.hid hp8
    have hml : b.length ≤ n := by rw [← HN.out, ← bsN_len]; exact hbl
    obtain ⟨P, hP⟩ : ∃ P, P = strN p := ⟨_, rfl⟩
    have HP := Lib.hid hP
    obtain ⟨m, hm⟩ : ∃ m, m = b.length := ⟨_, rfl⟩
    have HM := Lib.hid hm
    rw [← hm] at NS hml ⊢
    rw [← hP]
    clear hb ho ht hp8 hP hm hbl
    go_wp2_with fail
    refine (p_sig s n _ HN.out hnb NS.out.hh NS.out.bb).mono ?_
    rintro e w2 ⟨hb, a2, c2, k', p', b', rfl, ho, ht, -, -, -, -, -, -⟩
    obtain ⟨rfl, rfl, rfl⟩ := ht.one HT1.out
    have NS := Lib.hid (NS.out.bytes hb ho)
    rw [← HM.out] at NS ⊢
    rw [← HP.out]
    clear hb ho ht
    go_wp2_with fail
    refine (r9sig s n _ HN.out hnb).mono ?_
    rintro e w3 ⟨hb, a3, c3, k', p'', b'', rfl, ho, ht, -, -, hr3, -, -, -⟩
    obtain ⟨rfl, rfl, rfl⟩ := ht.one HT1.out
    have NS := Lib.hid (NS.out.below hb)
    have HR3 := Lib.hid hr3
    rw [← HM.out]
    rw [← HP.out]
    have e1 : (k' != k') = false := by simp
    have e2 : (P.toList == P.toList) = true := by simp
    clear hb ho ht hr3
    go_wp2_with fail
    refine (bytes_same a1 a3 m c1 c3 b'' _ HM.out.symm (by omega) (NS.out.sp.rdb (n := m) (c := c1) (by simp)) HR3.out).mono ?_
    rintro e w4 ⟨rfl, nq, hw⟩
    have hb7 : Below w3.heap.size w3 w4 := by rw [hw]; exact Below.drewM (Below.refl _ _) nq
    have NS := Lib.hid (NS.out.below hb7)
    have HR3 := Lib.hid (HR3.out.below hb7)
    clear hw hb7
    go_wp2_with fail
    refine (bytes_same a2 a3 m c2 c3 b'' _ HM.out.symm (by omega) (NS.out.sp.rdb (n := m) (c := c2) (by simp)) HR3.out).mono ?_
    rintro e w5 ⟨rfl, nq, hw⟩
    have hb7 : Below w4.heap.size w4 w5 := by rw [hw]; exact Below.drewM (Below.refl _ _) nq
    have NS := Lib.hid (NS.out.below hb7)
    have HR3 := Lib.hid (HR3.out.below hb7)
    clear hw hb7
    have hsp := NS.out.sp
    rw [show rwb (.slice a2 m c2) b'' = rwb (.slice a2 m c2) b'' from rfl] at hsp
    have hsep : Sep w5 w.heap.size (rwNo :: rwNo8 :: ([] ++ [rwb (.slice a1 m c1) b'', rwb (.slice a2 m c2) b''])) := ((Sep.perm hsp (List.Perm.swap _ _ _)).nilRow _).nilRow _
    have hbok := Bok.start (T := 38) hsep NS.out.bl.size rfl
    have HK := Lib.hid hbok
    have HBK := Lib.hid ((Below.refl w5.heap.size w5).alloc (Nat.le_refl _) (.cells #[.slice none 0 0, .slice none 0 0] 38))
    clear hbok hsep hsp
    go_wp2_with fail
    refine (HK.out.bytes a1 m c1 (by simp)).mono ?_
    rintro e w11 ⟨rfl, ⟨vb0, hbok⟩, hb7⟩
    have HK := Lib.hid hbok
    have HBK := Lib.hid (HBK.out.trans hb7)
    clear hbok hb7
    go_wp2_with fail
    refine (HK.out.bytes a2 m c2 (by simp)).mono ?_
    rintro e w12 ⟨rfl, ⟨vb1, hbok⟩, hb7⟩
    have HK := Lib.hid hbok
    have HBK := Lib.hid (HBK.out.trans hb7)
    have NS := Lib.hid (NS.out.below HBK.out)
    clear hbok hb7
    go_wp2_with fail
    refine (Bok.apart (WL := []) (BL := [rwb (.slice a1 m c1) b'', rwb (.slice a2 m c2) b'']) HK.out (fun s hs => by cases hs) (fun s hs => ?_) (by decide) (by simp)).mono ?_
    · simp only [List.mem_cons, List.mem_nil_iff, or_false] at hs
      rcases hs with rfl | rfl <;> exact ⟨rfl, by simp only [rwb]; have := HM.out; omega⟩
    rintro e w16 ⟨rfl, hb16⟩
    have HW := Lib.hid (NS.out.bl.trans hb16)
    have HTB := Lib.hid (And.intro (NS.out.hh.low hGH hb16) (NS.out.bb.low hGB hb16))
    clear hb16 HK
    go_wp2_with fail
    refine (works9 _ HTB.out.1 HTB.out.2).mono ?_
    rintro e w17 ⟨rfl, hb17⟩
    have HW := Lib.hid (HW.out.trans (hb17.mono HW.out.size))
    clear hb17
    go_wp2
    go_ret
    exact ⟨rfl, HW.out⟩
end Go.Proofs.YtaookoejdnkkoaaGreatDoor
