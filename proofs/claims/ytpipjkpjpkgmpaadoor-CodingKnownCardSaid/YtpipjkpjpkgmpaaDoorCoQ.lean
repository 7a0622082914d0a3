import Derived.Test.YtpipjkpjpkgmpaaDoorCoO
import Derived.Test.YtpipjkpjpkgmpaaDoorMoves
namespace Go.Proofs.YtpipjkpjpkgmpaaDoor
open Go.RowKit

def rwb (v : Value) (b : List Nat) : Rw := ⟨v, 5, b.length, u8s b⟩
theorem Sep.belowS {w w' : World} {B : Nat} {R : List Rw} (h : Sep w B R) (hb : Below w.heap.size w w') : Sep w' B R :=
  h.chg (Chg.of_below hb) (fun r hr k hk => by have := World.ownsRow.lt (h.1 r hr) k hk; omega)
theorem Sep.new {w w' : World} {B : Nat} {R : List Rw} (h : Sep w B R) (hB : B ≤ w.heap.size) (hb : Below w.heap.size w w') {v : Value} {b : List Nat} (ho : own8 w' w.heap.size v b) : Sep w' B (rwb v b :: R) := by
  have h2 := h.belowS hb
  refine ⟨fun r hr => ?_, List.pairwise_cons.2 ⟨fun r hr k hk hk2 => ?_, h2.2⟩⟩
  · rcases List.mem_cons.1 hr with rfl | hr
    · exact owns_base ho hB
    · exact h2.1 r hr
  · have h3 := World.ownsRow.lt ho k hk
    have h4 := World.ownsRow.lt (h.1 r hr) k hk2
    omega
theorem Sep.rdb {w : World} {B : Nat} {R : List Rw} (h : Sep w B R) {a : Option Addr} {n c : Nat} {b : List Nat} (hm : rwb (.slice a n c) b ∈ R) : Rd .u8 w a b := by
  obtain ⟨a', c', hv, _, hr, _, _⟩ := own8_open (h.1 _ hm)
  have : Value.slice a n c = .slice a' b.length c' := hv
  cases this
  exact hr

set_option maxHeartbeats 4000000 in
set_option maxRecDepth 100000 in
theorem codingReads_any (s : ByteArray) (w : World) (hs : s.size ≤ 9223372036854775807) (hH : HT w) (hB : BT w) :
    Calls Tryd.prog 6 #[.string s] w fun e w' => e = .returned (.bool true) ∧ Below w.heap.size w w' := by
  obtain ⟨n, hn⟩ : ∃ n, n = s.size := ⟨_, rfl⟩
  have hsn : s.size = n := hn.symm
  have HN := Lib.hid hsn
  by_cases hbig : 4096 < n
  · have hq : decide ((4096 : Int) < (n : Int)) = true := decide_eq_true (by omega)
    clear hH hB hn
    go_enter Tryd.func6, Tryd.ntmps6
    go_wp2
    go_ret
    exact ⟨rfl, Below.refl _ _⟩
  · have hq : decide ((4096 : Int) < (n : Int)) = false := decide_eq_false (by omega)
    have HH := Lib.hid hH
    have HB := Lib.hid hB
    have hll : (bsN s).length ≤ 4096 := by rw [bsN_len]; omega
    have HLL := Lib.hid hll
    have hS : Sep w w.heap.size [] := Sep.nil _ _
    have HS := Lib.hid hS
    have HW := Lib.hid (Below.refl w.heap.size w)
    have hw0 : w.heap.size ≤ w.heap.size := Nat.le_refl _
    have hGH := HH.out.lt
    have hGB := HB.out.lt
    clear hH hB hn hll hS hs
    go_enter Tryd.func6, Tryd.ntmps6
    go_wp2_with fail
    refine (unhex_any s n _ HN.out (by omega) HH.out).mono ?_
    intro e w1 hp
    obtain ⟨a1, c1, k1, b1, rfl, hb1, ho1, ht1, hl1, -, -, -, -⟩ := hp.opens
    have HT1 := Lib.hid ht1
    have hl1 : b1.length ≤ 4096 := Nat.le_trans hl1 HLL.out
    have HS := Lib.hid (HS.out.new HW.out.size hb1 ho1)
    have HH := Lib.hid (HH.out.below hb1)
    have HB := Lib.hid (HB.out.below hb1)
    have HW := Lib.hid (HW.out.trans (hb1.mono HW.out.size))
    clear hp hb1 ho1 ht1
    go_wp2_with fail
    refine (un64_any s n _ HN.out (by omega) HB.out).mono ?_
    intro e w2 hp
    obtain ⟨a2, c2, k2, b2, rfl, hb2, ho2, ht2, hl2, -, -, -, -⟩ := hp.opens
    have HT2 := Lib.hid ht2
    have hl2 : b2.length ≤ 4096 := Nat.le_trans hl2 HLL.out
    have HS := Lib.hid (HS.out.new HW.out.size hb2 ho2)
    have HH := Lib.hid (HH.out.below hb2)
    have HB := Lib.hid (HB.out.below hb2)
    have HW := Lib.hid (HW.out.trans (hb2.mono HW.out.size))
    clear hp hb2 ho2 ht2
    go_wp2_with fail
    refine (unhex_any s n _ HN.out (by omega) HH.out).mono ?_
    intro e w3 hp
    obtain ⟨a3, c3, k3, b3, rfl, hb3, ho3, ht3, -, -, -, -, -⟩ := hp.opens
    obtain ⟨rfl, rfl⟩ := ht3.one HT1.out
    have HS := Lib.hid (HS.out.new HW.out.size hb3 ho3)
    have HH := Lib.hid (HH.out.below hb3)
    have HB := Lib.hid (HB.out.below hb3)
    have HW := Lib.hid (HW.out.trans (hb3.mono HW.out.size))
    clear hp hb3 ho3 ht3
    go_wp2_with fail
    refine (un64_any s n _ HN.out (by omega) HB.out).mono ?_
    intro e w4 hp
    obtain ⟨a4, c4, k4, b4, rfl, hb4, ho4, ht4, -, -, -, -, -⟩ := hp.opens
    obtain ⟨rfl, rfl⟩ := ht4.one HT2.out
    have HS := Lib.hid (HS.out.new HW.out.size hb4 ho4)
    have HH := Lib.hid (HH.out.below hb4)
    have HB := Lib.hid (HB.out.below hb4)
    have HW := Lib.hid (HW.out.trans (hb4.mono HW.out.size))
    clear hp hb4 ho4 ht4
    go_wp2_with fail
    refine (runhex_any s n _ HN.out (by omega)).mono ?_
    intro e w5 hp
    obtain ⟨a5, c5, k5, b5, rfl, hb5, ho5, ht5, -, -, -, -, -⟩ := hp.opens
    obtain ⟨rfl, rfl⟩ := ht5.one HT1.out
    have HS := Lib.hid (HS.out.new HW.out.size hb5 ho5)
    have HH := Lib.hid (HH.out.below hb5)
    have HB := Lib.hid (HB.out.below hb5)
    have HW := Lib.hid (HW.out.trans (hb5.mono HW.out.size))
    clear hp hb5 ho5 ht5
    go_wp2_with fail
    refine (run64_any s n _ HN.out (by omega)).mono ?_
    intro e w6 hp
    obtain ⟨a6, c6, k6, b6, rfl, hb6, ho6, ht6, -, -, -, -, -⟩ := hp.opens
    obtain ⟨rfl, rfl⟩ := ht6.one HT2.out
    have HS := Lib.hid (HS.out.new HW.out.size hb6 ho6)
    have HH := Lib.hid (HH.out.below hb6)
    have HB := Lib.hid (HB.out.below hb6)
    have HW := Lib.hid (HW.out.trans (hb6.mono HW.out.size))
    clear hp hb6 ho6 ht6 HT1 HT2
    have hk5 : (k5 != k5) = false := by simp
    have hk6 : (k6 != k6) = false := by simp
    go_wp2_with fail
    refine (bytes_same a1 a5 b5.length c1 c5 b5 _ rfl (by omega) (HS.out.rdb (n := b5.length) (c := c1) (by simp)) (HS.out.rdb (n := b5.length) (c := c5) (by simp))).mono ?_
    rintro e w7 ⟨rfl, nq, hw⟩
    have hb7 : Below w6.heap.size w6 w7 := by rw [hw]; exact Below.drewM (Below.refl _ _) nq
    clear hw
    have HS := Lib.hid (HS.out.belowS hb7)
    have HH := Lib.hid (HH.out.below hb7)
    have HB := Lib.hid (HB.out.below hb7)
    have HW := Lib.hid (HW.out.trans (hb7.mono HW.out.size))
    clear hb7
    go_wp2_with fail
    refine (bytes_same a2 a6 b6.length c2 c6 b6 _ rfl (by omega) (HS.out.rdb (n := b6.length) (c := c2) (by simp)) (HS.out.rdb (n := b6.length) (c := c6) (by simp))).mono ?_
    rintro e w8 ⟨rfl, nq, hw⟩
    have hb7 : Below w7.heap.size w7 w8 := by rw [hw]; exact Below.drewM (Below.refl _ _) nq
    clear hw
    have HS := Lib.hid (HS.out.belowS hb7)
    have HH := Lib.hid (HH.out.below hb7)
    have HB := Lib.hid (HB.out.below hb7)
    have HW := Lib.hid (HW.out.trans (hb7.mono HW.out.size))
    clear hb7
    go_wp2_with fail
    refine (bytes_same a3 a5 b5.length c3 c5 b5 _ rfl (by omega) (HS.out.rdb (n := b5.length) (c := c3) (by simp)) (HS.out.rdb (n := b5.length) (c := c5) (by simp))).mono ?_
    rintro e w9 ⟨rfl, nq, hw⟩
    have hb7 : Below w8.heap.size w8 w9 := by rw [hw]; exact Below.drewM (Below.refl _ _) nq
    clear hw
    have HS := Lib.hid (HS.out.belowS hb7)
    have HH := Lib.hid (HH.out.below hb7)
    have HB := Lib.hid (HB.out.below hb7)
    have HW := Lib.hid (HW.out.trans (hb7.mono HW.out.size))
    clear hb7
    go_wp2_with fail
    refine (bytes_same a4 a6 b6.length c4 c6 b6 _ rfl (by omega) (HS.out.rdb (n := b6.length) (c := c4) (by simp)) (HS.out.rdb (n := b6.length) (c := c6) (by simp))).mono ?_
    rintro e w10 ⟨rfl, nq, hw⟩
    have hb7 : Below w9.heap.size w9 w10 := by rw [hw]; exact Below.drewM (Below.refl _ _) nq
    clear hw
    have HS := Lib.hid (HS.out.belowS hb7)
    have HH := Lib.hid (HH.out.below hb7)
    have HB := Lib.hid (HB.out.below hb7)
    have HW := Lib.hid (HW.out.trans (hb7.mono HW.out.size))
    clear hb7
    have hsep : Sep w10 w.heap.size (rwNo :: rwNo8 :: ([] ++ [rwb (.slice a1 b5.length c1) b5, rwb (.slice a2 b6.length c2) b6, rwb (.slice a3 b5.length c3) b5, rwb (.slice a4 b6.length c4) b6])) :=
      ((Sep.perm HS.out.tail.tail (List.reverse_perm _).symm).nilRow _).nilRow _
    have hbok := Bok.start (T := 49) hsep HW.out.size rfl
    have HK := Lib.hid hbok
    have HBK := Lib.hid ((Below.refl w10.heap.size w10).alloc (Nat.le_refl _) (.cells #[.slice none 0 0, .slice none 0 0] 49))
    have hsz10 := HW.out.size
    clear hbok hsep
    go_wp2_with fail
    refine (HK.out.bytes a1 b5.length c1 (by simp)).mono ?_
    rintro e w11 ⟨rfl, ⟨vb0, hbok⟩, hb7⟩
    have HK := Lib.hid hbok
    have HBK := Lib.hid (HBK.out.trans hb7)
    clear hbok hb7
    go_wp2_with fail
    refine (HK.out.bytes a2 b6.length c2 (by simp)).mono ?_
    rintro e w12 ⟨rfl, ⟨vb1, hbok⟩, hb7⟩
    have HK := Lib.hid hbok
    have HBK := Lib.hid (HBK.out.trans hb7)
    clear hbok hb7
    go_wp2_with fail
    refine (HK.out.bytes a3 b5.length c3 (by simp)).mono ?_
    rintro e w13 ⟨rfl, ⟨vb2, hbok⟩, hb7⟩
    have HK := Lib.hid hbok
    have HBK := Lib.hid (HBK.out.trans hb7)
    clear hbok hb7
    go_wp2_with fail
    refine (HK.out.bytes a4 b6.length c4 (by simp)).mono ?_
    rintro e w14 ⟨rfl, ⟨vb3, hbok⟩, hb7⟩
    have HK := Lib.hid hbok
    have HBK := Lib.hid (HBK.out.trans hb7)
    clear hbok hb7
    have HH := Lib.hid (HH.out.below HBK.out)
    have HB := Lib.hid (HB.out.below HBK.out)
    have HW := Lib.hid (HW.out.trans (HBK.out.mono HW.out.size))
    go_wp2_with fail
    refine (Bok.apart (WL := []) (BL := [rwb (.slice a1 b5.length c1) b5, rwb (.slice a2 b6.length c2) b6, rwb (.slice a3 b5.length c3) b5, rwb (.slice a4 b6.length c4) b6]) HK.out (fun s hs => by cases hs) (fun s hs => ?_) (by decide) (by simp)).mono ?_
    · simp only [List.mem_cons, List.mem_nil_iff, or_false] at hs
      rcases hs with rfl | rfl | rfl | rfl <;> exact ⟨rfl, by simp only [rwb]; omega⟩
    rintro e w16 ⟨rfl, hb16⟩
    have HH2 : Hid (HT w16) := fun i hi => (hb16.cell (p := ⟨1, i, none⟩) hGH).trans (HH.out i hi)
    have HB2 : Hid (BT w16) := fun i hi => (hb16.cell (p := ⟨2, i, none⟩) hGB).trans (HB.out i hi)
    have HW2 := Lib.hid (HW.out.trans hb16)
    clear hb16 HK
    go_wp2_with fail
    refine (works6_any _ HH2.out HB2.out).mono ?_
    rintro e w17 ⟨rfl, hb17⟩
    have HW3 := Lib.hid (HW2.out.trans (hb17.mono HW2.out.size))
    clear hb17
    go_wp2
    go_ret
    exact ⟨rfl, HW3.out⟩
end Go.Proofs.YtpipjkpjpkgmpaaDoor
