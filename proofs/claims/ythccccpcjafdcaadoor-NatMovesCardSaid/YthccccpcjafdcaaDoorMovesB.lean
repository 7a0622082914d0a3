import Derived.Test.YthccccpcjafdcaaDoorMoves
namespace Go.Proofs.YthccccpcjafdcaaDoor
open Go.RowKit

theorem rd64_of {w : World} {B g n c : Nat} {xs : List Nat} {L : List Value} (h : w.ownsRow B 57 1 (.slice (some ⟨g, 0, none⟩) n c) n L) (hL : L.take xs.length = u64s xs) (hn : xs.length ≤ n) : Rd .u64 w (some ⟨g, 0, none⟩) xs := by
  intro j hj
  refine ⟨g, 0, rfl, fun i hi => ?_⟩
  rw [Nat.zero_add, World.ownsRow.cellAt h i (by omega)]
  have h1 := u64s_get xs i hi
  rw [← hL, List.getElem?_take, if_pos hi] at h1
  exact h1
theorem TextTells.form {P : Prop} {n : Nat} {w w' : World} {e : Ending} (h : TextTells P n w e w') : ∃ T k, e = .returned (.tuple #[.string T, .int .i64 k]) := by
  rcases h.2 with ⟨_, rfl⟩ | ⟨_, l, _, rfl⟩
  · exact ⟨_, _, rfl⟩
  · exact ⟨_, _, rfl⟩
/-- A list of bytes as a row. -/
def rw8 (v : Value) (zs : List Nat) : Rw := ⟨v, 5, zs.length, u8s zs⟩

set_option maxHeartbeats 2000000 in
set_option maxRecDepth 100000 in
theorem natMoves_any (a : Option Addr) (len cap : Nat) (n : Int) (xs : List Nat) (w : World) (hl : xs.length = len) (hbig : len ≤ 9223372036854775807) (hn1 : -9223372036854775808 ≤ n) (hn2 : n ≤ 9223372036854775807) (hr : Rd .u64 w a xs) (bx : Bd xs) :
    Calls Tryd.prog 3 #[.slice a len cap, .int .i64 n] w fun e w' => e = .returned (.bool true) ∧ Below w.heap.size w w' := by
  have HBX := Lib.hid bx
  have HN12 : Hid (-9223372036854775808 ≤ n ∧ n ≤ 9223372036854775807) := ⟨hn1, hn2⟩
  clear bx hn1 hn2
  go_enter Tryd.func3, Tryd.ntmps3
  by_cases hlb : 300 < len
  · have hq : decide ((300 : Int) < (len : Int)) = true := by rw [decide_eq_true_iff]; omega
    have h1 := Lib.hid hlb
    clear hlb
    go_wp2
    go_ret
    exact ⟨rfl, Below.refl _ _⟩
  have hq : decide ((300 : Int) < (len : Int)) = false := by rw [decide_eq_false_iff_not]; omega
  have hl4 : len ≤ 300 := by omega
  clear hlb hbig
  go_wp2_with fail
  refine (lentWords_any a len cap xs _ hl (by omega) hr).mono ?_
  rintro e w1 ⟨g, c1, rfl, hox, hBg, hb1⟩
  have HOX := Lib.hid hox
  have HB1 := Lib.hid hb1
  have hc16 : len + 16 ≤ c1 := own_room hox
  have HGX := Lib.hid fun k hk => (World.ownsRow.lt hox k hk).2
  clear hox hb1
  have hrx : ∀ W : World, W.ownsRow w.heap.size 57 1 (.slice (some ⟨g, 0, none⟩) (len + 16) c1) (len + 16) (u64s xs ++ mksw 16) → Rd .u64 W (some ⟨g, 0, none⟩) xs := fun W h => rd64_of h (List.take_left' (u64s_len xs)) (by omega)
  have HRX := Lib.hid hrx
  clear hrx
  go_wp2_with fail
  refine (shift_any (some ⟨g, 0, none⟩) len c1 n xs _ hl (by omega) (by omega) (fun h => by cases h) HN12.out.1 HN12.out.2 (HRX.out _ HOX.out) HBX.out).mono ?_
  rintro e w2 ⟨hb2, al, cl, kl, zs, rfl, hol, hzl, htl⟩
  have HOL := Lib.hid hol
  have HLT := Lib.hid fun k hk => (World.ownsRow.lt hol k hk).2
  have HBS := Lib.hid (And.intro HB1.out.size hb2.size)
  have HTL := Lib.hid htl
  have HOX := Lib.hid (owns_below HOX.out hb2)
  have HB2 := Lib.hid (HB1.out.trans (hb2.mono HB1.out.size))
  clear hol htl hb2
  go_wp2_with fail
  refine (text_any (some ⟨g, 0, none⟩) len c1 xs _ hl (by omega) (by omega) (fun h => by cases h) (HRX.out _ HOX.out) HBX.out).mono ?_
  intro e w3 hp
  have hts := hp.tells HBX.out
  obtain ⟨T, kt, rfl⟩ := hts.form
  have HTS := Lib.hid hts
  have hb3 := hts.1
  have HOX := Lib.hid (owns_below HOX.out hb3)
  have HOL := Lib.hid (own64.below HOL.out hb3)
  have HB3 := Lib.hid (HB2.out.trans (hb3.mono HB2.out.size))
  have HS3 := Lib.hid hb3.size
  clear hp hts hb3
  go_wp2_with fail
  refine (bytes_any (some ⟨g, 0, none⟩) len c1 xs _ hl (by omega) (by omega) (HRX.out _ HOX.out) HBX.out).mono ?_
  rintro e w4 ⟨hb4, ab, cb, kb, bs, rfl, hob, hbl, htb⟩
  have HOB := Lib.hid hob
  have HTB := Lib.hid htb
  have HOX := Lib.hid (owns_below HOX.out hb4)
  have HOL := Lib.hid (own64.below HOL.out hb4)
  have HB4 := Lib.hid (HB3.out.trans (hb4.mono HB3.out.size))
  have HS4 := Lib.hid hb4.size
  clear hob htb hb4
  go_wp2_with fail
  refine (rshift_any a len cap n xs _ hl (by omega) HN12.out.1 HN12.out.2 (hr.below HB4.out) HBX.out).mono ?_
  rintro e w5 ⟨hb5, al', cl', kl', zs', rfl, hol', -, htl'⟩
  obtain ⟨rfl, rfl⟩ := HTL.out.one htl'
  have HOL' := Lib.hid hol'
  have HOX := Lib.hid (owns_below HOX.out hb5)
  have HOL := Lib.hid (own64.below HOL.out hb5)
  have HOB := Lib.hid (owns_below HOB.out hb5)
  have HB5 := Lib.hid (HB4.out.trans (hb5.mono HB4.out.size))
  have HS5 := Lib.hid hb5.size
  clear hol' htl' hb5
  go_wp2_with fail
  refine (rtext_any a len cap xs _ hl (by omega) (hr.below HB5.out) HBX.out).mono ?_
  intro e w6 hp
  obtain rfl := HTS.out.one hp
  have hb6 := hp.1
  have HOX := Lib.hid (owns_below HOX.out hb6)
  have HOL := Lib.hid (own64.below HOL.out hb6)
  have HOL' := Lib.hid (own64.below HOL'.out hb6)
  have HOB := Lib.hid (owns_below HOB.out hb6)
  have HB6 := Lib.hid (HB5.out.trans (hb6.mono HB5.out.size))
  have HS6 := Lib.hid hb6.size
  clear hp hb6
  go_wp2_with fail
  refine (rbytes_any a len cap xs _ hl (by omega) (hr.below HB6.out) HBX.out).mono ?_
  rintro e w7 ⟨hb7, ab', cb', kb', bs', rfl, hob', -, htb'⟩
  obtain ⟨rfl, rfl⟩ := HTB.out.one htb'
  have HOB' := Lib.hid hob'
  have HOX := Lib.hid (owns_below HOX.out hb7)
  have HOL := Lib.hid (own64.below HOL.out hb7)
  have HOL' := Lib.hid (own64.below HOL'.out hb7)
  have HOB := Lib.hid (owns_below HOB.out hb7)
  have HB7 := Lib.hid (HB6.out.trans (hb7.mono HB6.out.size))
  have HS7 : Hid (w3.heap.size ≤ w7.heap.size) := by have := HS4.out; have := HS5.out; have := HS6.out; have := hb7.size; show _ ≤ _; omega
  clear hob' htb' hb7 HB1 HB2 HB3 HB4 HB5 HB6
  have S01 : w1.heap.size ≤ w7.heap.size := by have := HBS.out; have := HS3.out; have := HS7.out; omega
  have hsep : Sep w7 w1.heap.size (rwNo :: rwNo8 :: ([rw64 (.slice al zs.length cl) zs] ++ [rw8 (.slice ab bs.length cb) bs])) := by
    refine (Sep.nilRow ?_ _).nilRow _
    refine ⟨fun r hr => ?_, ?_⟩
    · rcases List.mem_cons.1 hr with rfl | hr
      · exact HOL.out
      · obtain rfl : r = rw8 (.slice ab bs.length cb) bs := by simpa using hr
        exact owns_base HOB.out (by have := HBS.out; have := HS3.out; omega)
    · refine List.pairwise_cons.2 ⟨fun r hr k hk hk2 => ?_, List.pairwise_cons.2 ⟨(fun r hr => by cases hr), List.Pairwise.nil⟩⟩
      obtain rfl : r = rw8 (.slice ab bs.length cb) bs := by simpa using hr
      have h1 := (World.ownsRow.lt HOB.out k hk2).1
      have h2 := HLT.out k hk
      have h3 := HS3.out
      omega
  have hbok := Bok.start (T := 35) hsep S01 rfl
  go_wp2_with fail
  refine (hbok.words al zs.length cl (by simp)).mono ?_
  rintro e w8 ⟨rfl, ⟨vw8, hbok8⟩, hb8⟩
  have HK8 := Lib.hid hbok8
  have HB78 := Lib.hid (((Below.refl w7.heap.size w7).alloc (Nat.le_refl _) _).trans hb8)
  clear hbok8 hb8 hbok hsep
  go_wp2_with fail
  refine (HK8.out.bytes ab bs.length cb (by simp)).mono ?_
  rintro e w9 ⟨rfl, ⟨vb9, hbok9⟩, hb9⟩
  have HK9 := Lib.hid hbok9
  have HB79 := Lib.hid (HB78.out.trans hb9)
  clear hbok9 hb9 HK8 HB78
  have HOX := Lib.hid (owns_below HOX.out HB79.out)
  have HOL := Lib.hid (own64.below HOL.out HB79.out)
  have HOL' := Lib.hid (own64.below HOL'.out HB79.out)
  have HOB := Lib.hid (owns_below HOB.out HB79.out)
  have HOB' := Lib.hid (owns_below HOB'.out HB79.out)
  have HB9 := Lib.hid (HB7.out.trans (HB79.out.mono HB7.out.size))
  clear HB7 HB79
  go_wp2_with fail
  refine (keptWords_any a w.heap.size g len cap c1 xs _ hl (by omega) (hr.below HB9.out) HOX.out).mono ?_
  rintro e w10 ⟨rfl, rfl⟩
  go_wp2_with fail
  refine (lsame_any al al' zs.length cl cl' kl zs _ rfl (by omega) (own64.rd HOL.out).2 (own64.rd HOL'.out).2).mono ?_
  rintro e w11 ⟨rfl, n11, hw11⟩
  have hb11 : Below w9.heap.size w9 w11 := by rw [hw11]; exact Below.drewM (Below.refl _ _) n11
  have HK11 := Lib.hid (HK9.out.below hb11)
  have HOX := Lib.hid (owns_below HOX.out hb11)
  have HOB := Lib.hid (owns_below HOB.out hb11)
  have HOB' := Lib.hid (owns_below HOB'.out hb11)
  have HB11 := Lib.hid (HB9.out.trans (hb11.mono HB9.out.size))
  clear hb11 hw11 HK9 HB9
  have hqt : (T == T) = true := by first | exact beq_self_eq_true T | (cases T; exact beq_self_eq_true (α := Array UInt8) _) | (cases T; rw [beq_iff_eq])
  have hqk : (kt == kt) = true := by simp
  have hqb : (kb == kb) = true := by simp
  go_wp2_with fail
  refine (bytes_same ab ab' bs.length cb cb' bs _ rfl (by omega) (own8_rd2 HOB.out) (own8_rd2 HOB'.out)).mono ?_
  rintro e w12 ⟨rfl, n12, hw12⟩
  have hb12 : Below w11.heap.size w11 w12 := by rw [hw12]; exact Below.drewM (Below.refl _ _) n12
  have HK12 := Lib.hid (HK11.out.below hb12)
  have HOX := Lib.hid (owns_below HOX.out hb12)
  have HB12 := Lib.hid (HB11.out.trans (hb12.mono HB11.out.size))
  clear hb12 hw12 HK11 HB11
  have HS12 := Lib.hid HB12.out.size
  go_wp2_with fail
  refine (Bok.apart (WL := [rw64 (.slice al zs.length cl) zs]) (BL := [rw8 (.slice ab bs.length cb) bs]) HK12.out ?_ ?_ (by simp) (by simp)).mono ?_
  · intro s hs
    obtain rfl : s = rw64 (.slice al zs.length cl) zs := by simpa using hs
    exact ⟨rfl, by show zs.length ≤ _; omega⟩
  · intro s hs
    obtain rfl : s = rw8 (.slice ab bs.length cb) bs := by simpa using hs
    exact ⟨rfl, by show bs.length ≤ _; omega⟩
  rintro e w13 ⟨rfl, hb13⟩
  have HB13 := Lib.hid (HB12.out.trans (hb13.mono HBS.out.1))
  have HOX := Lib.hid ((Chg.of_below hb13).owns HOX.out fun k hk hk2 => by have := HGX.out k hk; omega)
  clear hb13 HB12 HK12
  go_wp2_with fail
  refine (keptWords_any a w.heap.size g len cap c1 xs _ hl (by omega) (hr.below HB13.out) HOX.out).mono ?_
  rintro e w14 ⟨rfl, rfl⟩
  go_wp2_with fail
  refine (works_any _).mono ?_
  rintro e w15 ⟨rfl, hb15⟩
  have HB15 := Lib.hid (HB13.out.trans (hb15.mono HB13.out.size))
  clear hb15 HB13
  go_wp2
  go_ret
  exact ⟨rfl, HB15.out⟩
end Go.Proofs.YthccccpcjafdcaaDoor
