import Derived.Test.YtaookoejdnkkoaaGreatDoorQNmSgA
import Derived.Test.YtaookoejdnkkoaaGreatDoorQNmOnce
import Derived.BigQuiet
namespace Go.Proofs.YtaookoejdnkkoaaGreatDoor
open Go.RowKit

/-! NamesKnown: texts about the limit. -/
def strSz : Value → Nat | .string s => s.size | _ => 0
theorem as_col {n : Nat} {l : List Nat} (h : l = List.replicate n 97) : 58 ∉ l := by
  subst h
  intro hm
  have := (List.mem_replicate.1 hm).2
  omega
theorem of_top {s : ByteArray} (h : bsN s = List.replicate 65536 97) : OfTells (bsN s) 0 1 (bsN s) [] [] :=
  of_opaque (by rw [h, List.length_replicate]; exact Nat.le_refl _) (fun e => by
    have := congrArg List.length e
    rw [h, List.length_replicate] at this
    have : polW.length = 6 := rfl
    omega) (as_col h)
theorem of_past {s : ByteArray} {n : Nat} (h : s.size = n) (hn : 65536 < n) : OfTells (bsN s) 3 0 [] [] [] := .inl ⟨by rw [bsN_len, h]; exact hn, rfl, rfl, rfl, rfl, rfl⟩
theorem sg_past {s : ByteArray} {n : Nat} (h : s.size = n) (hn : 65536 < n) : SigTells (bsN s) 3 [] [] := .inl ⟨by rw [bsN_len, h]; exact hn, rfl, rfl, rfl⟩
theorem sg_top {s : ByteArray} (h : bsN s = List.replicate 65536 97) : SigTells (bsN s) 90 [] [] :=
  .inr (.inl ⟨by rw [h, List.length_replicate]; exact Nat.le_refl _, fun f e d hn => as_col h hn.nocol, rfl, rfl, rfl⟩)
theorem self_past {s : ByteArray} {n : Nat} (h : s.size = n) (hn : 65536 < n) : SameT (bsN s) (bsN s) false := same_self (of_past h hn) (by decide)
theorem self_top {s : ByteArray} (h : bsN s = List.replicate 65536 97) : SameT (bsN s) (bsN s) true := same_normal (of_top h)
theorem as_dbl {s : ByteArray} {n : Nat} (h : bsN s = List.replicate n 97) : bsN (s ++ s) = List.replicate (n + n) 97 := by
  rw [bsN_app2, h, List.replicate_append_replicate]
theorem as_ext {s : ByteArray} {n m : Nat} (h : bsN s = List.replicate n 97) (hm : m ≤ n) : bsN (s.extract 0 m) = List.replicate m 97 := by
  rw [bsN_extract, h, List.drop_zero, List.take_replicate, Nat.sub_zero, Nat.min_eq_left hm]
set_option maxHeartbeats 2000000 in
set_option maxRecDepth 100000 in
theorem limit_any (w : World) (hH : HT w) (hB : BT w) :
    Calls Tryz.prog 26 #[] w fun e w' => e = .returned (.bool true) ∧ Below w.heap.size w w' := by
  have NS := Lib.hid (NE.start hH hB)
  clear hH hB
  go_enter Tryz.func26, Tryz.ntmps26
  go_wp2
  go_loopw [1] (fun iv wr => ∃ (S : ByteArray) (n : Nat), iv = .string S ∧ S.size = n ∧ 0 < n ∧ n ≤ 131072 ∧ Hid (bsN S = List.replicate n 97) ∧ Hid (NE w [] [] wr)) (fun iv _ => 131073 - strSz iv)
  case atStart => exact ⟨_, 1, rfl, rfl, by decide, by decide, rfl, NS.out⟩
  case round =>
    obtain ⟨S, n, rfl, hn, hn0, hnb, HS, NS⟩ := hrel
    by_cases hc : n ≤ 65536
    · have hq : decide ((n : Int) ≤ 65536) = true := decide_eq_true (by omega)
      have hd := as_dbl HS.out
      have hz : (S ++ S).size = n + n := by rw [ByteArray.size_append, hn]
      have HD := Lib.hid hd
      have HZ := Lib.hid hz
      clear hd hz
      go_wp2
      go_roundw
      case rel => exact ⟨_, _, rfl, HZ.out, by omega, by omega, HD.out, NS.out⟩
      case measure => show _ < _; simp only [strSz]; rw [HZ.out, hn]; omega
    · have hq : decide ((n : Int) ≤ 65536) = false := decide_eq_false (by omega)
      obtain ⟨t, ht⟩ : ∃ t, t = S.extract 0 65536 := ⟨_, rfl⟩
      obtain ⟨p, hp⟩ : ∃ p, p = S.extract 0 65537 := ⟨_, rfl⟩
      have HT : Hid (bsN t = List.replicate 65536 97) := by show _ = _; rw [ht]; exact as_ext HS.out (by omega)
      have HTS : Hid (t.size = 65536) := by show _ = _; rw [← bsN_len, HT.out, List.length_replicate]
      have hps : p.size = 65537 := by rw [← bsN_len, hp, as_ext HS.out (by omega), List.length_replicate]
      have ht' := ht.symm
      have hp' := hp.symm
      have k1 : (65536 : Int) ≤ (n : Int) := by omega
      have k2 : (65537 : Int) ≤ (n : Int) := by omega
      clear ht hp HS hnb hn0 hc
      have e1 : (t.toList == t.toList) = true := by simp
      have hds : (⟨#[100, 115, 97, 45, 104, 101, 120, 58]⟩ ++ p : ByteArray).size = 65545 := by rw [ByteArray.size_append, hps]; rfl
      obtain ⟨q, hq2⟩ : ∃ q, q = (⟨#[100, 115, 97, 45, 104, 101, 120, 58]⟩ ++ p : ByteArray) := ⟨_, rfl⟩
      have HQS : Hid (q.size = 65545) := by show _ = _; rw [hq2]; exact hds
      have hq3 := hq2.symm
      clear hds hq2
      have HPS := Lib.hid hps
      go_wp2_with fail
      go_quiet (fail)
      have NS := Lib.hid (NS.out.below (Below.drewM (Below.refl _ _) nq))
      go_wp2_with fail
      refine (p_of_is t 65536 _ HTS.out (by decide) NS.out.hh NS.out.bb (of_top HT.out)).mono ?_
      rw [strN_bsN]
      rintro e w1 ⟨hb, a1, c1, a2, c2, rfl, -⟩
      have NS := Lib.hid ((NS.out.below hb).box [.int .i64 1, .string t, .slice a1 0 c1, .slice a2 0 c2])
      clear hb
      go_wp2_with fail
      refine (p_of_is p 65537 _ HPS.out (by decide) NS.out.hh NS.out.bb (of_past HPS.out (by decide))).mono ?_
      rw [show strN [] = ⟨#[]⟩ from rfl]
      rintro e w2 ⟨hb, a3, c3, a4, c4, rfl, -⟩
      have NS := Lib.hid ((NS.out.below hb).box [.int .i64 0, .string ⟨#[]⟩, .slice a3 0 c3, .slice a4 0 c4])
      clear hb
      go_wp2_with fail
      refine (p_of_is q 65545 _ HQS.out (by decide) NS.out.hh NS.out.bb (of_past HQS.out (by decide))).mono ?_
      rw [show strN [] = ⟨#[]⟩ from rfl]
      rintro e w3 ⟨hb, a5, c5, a6, c6, rfl, -⟩
      have NS := Lib.hid ((NS.out.below hb).box [.int .i64 0, .string ⟨#[]⟩, .slice a5 0 c5, .slice a6 0 c6])
      clear hb
      go_wp2_with fail
      refine (p_sig_is p 65537 _ HPS.out (by decide) NS.out.hh NS.out.bb (sg_past HPS.out (by decide))).mono ?_
      rintro e w4 ⟨hb, a7, c7, rfl, -, -⟩
      have NS := Lib.hid (NS.out.below hb)
      clear hb
      go_wp2_with fail
      refine (p_sig_is t 65536 _ HTS.out (by decide) NS.out.hh NS.out.bb (sg_top HT.out)).mono ?_
      rintro e w5 ⟨hb, a8, c8, rfl, -, -⟩
      have NS := Lib.hid (NS.out.below hb)
      clear hb
      obtain ⟨x0, x1, x2, x3⟩ := NS.out.get (g := w1.heap.size) (a := .int .i64 1) (b := .string t) (c := .slice a1 0 c1) (d := .slice a2 0 c2) (by simp)
      go_wp2_with fail
      refine (p_same_is p p 65537 65537 _ HPS.out (by decide) HPS.out (by decide) NS.out.hh NS.out.bb (self_past HPS.out (by decide))).mono ?_
      rintro e w6 ⟨rfl, hb⟩
      have NS := Lib.hid (NS.out.below hb)
      clear hb x0 x1 x2 x3
      go_wp2_with fail
      refine (p_same_is t t 65536 65536 _ HTS.out (by decide) HTS.out (by decide) NS.out.hh NS.out.bb (self_top HT.out)).mono ?_
      rintro e w7 ⟨rfl, hb⟩
      have NS := Lib.hid (NS.out.below hb)
      clear hb
      go_wp2
      go_ret
      exact ⟨rfl, NS.out.bl⟩
end Go.Proofs.YtaookoejdnkkoaaGreatDoor
