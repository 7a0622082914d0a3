import Derived.Test.YtaookoejdnkkoaaGreatDoorQNmV
import Derived.Test.YtaookoejdnkkoaaGreatDoorQ21
import Derived.Test.YtaookoejdnkkoaaGreatDoorQNmY
namespace Go.Proofs.YtaookoejdnkkoaaGreatDoor
open Go.RowKit

/-! NamesTell. -/
abbrev priV (kind : Int) (T : ByteArray) (a1 : Option Addr) (p c1 : Nat) (a2 : Option Addr) (q c2 : Nat) : List Value := [.int .i64 kind, .string T, .slice a1 p c1, .slice a2 q c2]
set_option maxHeartbeats 4000000 in
set_option maxRecDepth 100000 in
theorem namesTell_any (s t : ByteArray) (w : World) (hs : s.size ≤ 9223372036854775807) (ht : t.size ≤ 9223372036854775807) (hH : HT w) (hB : BT w) :
    Calls Tryz.prog 4 #[.string s, .string t] w fun e w' => e = .returned (.bool true) ∧ Below w.heap.size w w' := by
  obtain ⟨n, hn⟩ : ∃ n, n = s.size := ⟨_, rfl⟩
  have hsn : s.size = n := hn.symm
  obtain ⟨m, hm⟩ : ∃ m, m = t.size := ⟨_, rfl⟩
  have htm : t.size = m := hm.symm
  by_cases hbig : 8192 < n
  · have hq : decide ((8192 : Int) < (n : Int)) = true := decide_eq_true (by omega)
    clear hH hB hn hm
    go_enter Tryz.func4, Tryz.ntmps4
    go_wp2
    go_ret
    exact ⟨rfl, Below.refl _ _⟩
  by_cases hbig2 : 8192 < m
  · have hq : decide ((8192 : Int) < (n : Int)) = false := decide_eq_false (by omega)
    have hq2 : decide ((8192 : Int) < (m : Int)) = true := decide_eq_true (by omega)
    clear hH hB hn hm
    go_enter Tryz.func4, Tryz.ntmps4
    go_wp2
    go_ret
    exact ⟨rfl, Below.refl _ _⟩
  have hq : decide ((8192 : Int) < (n : Int)) = false := decide_eq_false (by omega)
  have hq2 : decide ((8192 : Int) < (m : Int)) = false := decide_eq_false (by omega)
  have hnb : n ≤ 1099511627776 := by omega
  have hmb : m ≤ 1099511627776 := by omega
  have hGH := hH.lt
  have hGB := hB.lt
  have NS := Lib.hid (NE.start hH hB)
  have HN := Lib.hid hsn
  have HM := Lib.hid htm
  clear hH hB hn hm hs ht hbig hbig2
  go_enter Tryz.func4, Tryz.ntmps4
  go_wp2_with fail
  refine (p_of s n _ HN.out hnb NS.out.hh NS.out.bb).mono ?_
  rintro e w1 ⟨hb, kind, T, a1, c1, N, a2, c2, E, k, rfl, hsp, hn1, hn2, hT8, hTl, hQ⟩
  have NS := Lib.hid (NS.out.rows hb hsp)
  have HQ := Lib.hid hQ
  have HT8 := Lib.hid hT8
  obtain ⟨nN, hnN⟩ : ∃ n, n = N.length := ⟨_, rfl⟩
  obtain ⟨nE, hnE⟩ : ∃ n, n = E.length := ⟨_, rfl⟩
  obtain ⟨TS, hTS⟩ : ∃ TS, TS = strN T := ⟨_, rfl⟩
  have HNN := Lib.hid hnN
  have HNE := Lib.hid hnE
  have HTS := Lib.hid hTS
  rw [← hnN] at NS hn1
  rw [← hnE] at NS hn2
  rw [← hnN, ← hnE, ← hTS]
  have NS := Lib.hid (NS.out.box (priV kind TS a1 nN c1 a2 nE c2))
  clear hb hsp hQ hT8 hnN hnE hTS
  go_wp2_with fail
  refine (p_of s n _ HN.out hnb NS.out.hh NS.out.bb).mono ?_
  rintro e w2 ⟨hb, kd', T', a3, c3, N', a4, c4, E', k', rfl, hsp, -, -, -, -, hQ⟩
  obtain ⟨rfl, rfl, rfl, rfl, rfl⟩ := hQ.one HQ.out
  have NS := Lib.hid (NS.out.rows hb hsp)
  rw [← HNN.out, ← HNE.out] at NS
  rw [← HNN.out, ← HNE.out, ← HTS.out]
  have NS := Lib.hid (NS.out.box (priV kd' TS a3 nN c3 a4 nE c4))
  clear hb hsp hQ
  go_wp2_with fail
  refine (p_normal t m _ HM.out hmb NS.out.hh NS.out.bb).mono ?_
  rintro e w3 ⟨hb, U, u, ku, NU, EU, rfl, hU8, hUl, hQ2⟩
  have NS := Lib.hid (NS.out.below hb)
  have HQ2 := Lib.hid hQ2
  obtain ⟨US, hUS⟩ : ∃ US, US = strN U := ⟨_, rfl⟩
  have HUS := Lib.hid hUS
  rw [← hUS]
  clear hb hQ2 hU8 hUl hUS
  go_wp2_with fail
  refine (r9of s n _ HN.out hnb).mono ?_
  rintro e w4 ⟨hb, kd'', T'', a5, c5, N'', a6, c6, E'', k'', rfl, hsp, -, -, -, -, hQ⟩
  obtain ⟨rfl, rfl, rfl, rfl, rfl⟩ := hQ.one HQ.out
  have NS := Lib.hid (NS.out.rows hb hsp)
  rw [← HNN.out, ← HNE.out] at NS
  rw [← HNN.out, ← HNE.out, ← HTS.out]
  have NS := Lib.hid (NS.out.box (priV kd'' TS a5 nN c5 a6 nE c6))
  clear hb hsp hQ
  go_wp2_with fail
  refine (r9normal t m _ HM.out hmb).mono ?_
  rintro e w5 ⟨hb, U', u', ku', NU', EU', rfl, -, -, hQ⟩
  obtain ⟨rfl, rfl, rfl, rfl, rfl⟩ := hQ.one HQ2.out
  have NS := Lib.hid (NS.out.below hb)
  rw [← HUS.out]
  have e1 : (k'' != k'') = false := by simp
  have e2 : (u' != u') = false := by simp
  have e3 : (US.toList == US.toList) = true := by simp
  obtain ⟨x0, x1, x2, x3⟩ := NS.out.get (g := w1.heap.size) (a := .int .i64 kd'') (b := .string TS) (c := .slice a1 nN c1) (d := .slice a2 nE c2) (by simp)
  obtain ⟨z0, z1, z2, z3⟩ := NS.out.get (g := w4.heap.size) (a := .int .i64 kd'') (b := .string TS) (c := .slice a5 nN c5) (d := .slice a6 nE c6) (by simp)
  clear hb hQ
  go_wp2_with fail
  refine (samepri_any kd'' TS a1 nN c1 a2 nE c2 a5 c5 a6 c6 N'' E'' _ HNN.out.symm (by omega) HNE.out.symm (by omega) (NS.out.rd (n := nN) (c := c1) (by simp)) (NS.out.rd (n := nE) (c := c2) (by simp)) (NS.out.rd (n := nN) (c := c5) (by simp)) (NS.out.rd (n := nE) (c := c6) (by simp))).mono ?_
  rintro e w6 ⟨rfl, hb⟩
  have NS := Lib.hid (NS.out.below hb)
  clear hb x0 x1 x2 x3 z0 z1 z2 z3
  obtain ⟨y0, y1, y2, y3⟩ := NS.out.get (g := w2.heap.size) (a := .int .i64 kd'') (b := .string TS) (c := .slice a3 nN c3) (d := .slice a4 nE c4) (by simp)
  obtain ⟨z0, z1, z2, z3⟩ := NS.out.get (g := w4.heap.size) (a := .int .i64 kd'') (b := .string TS) (c := .slice a5 nN c5) (d := .slice a6 nE c6) (by simp)
  go_wp2_with fail
  refine (samepri_any kd'' TS a3 nN c3 a4 nE c4 a5 c5 a6 c6 N'' E'' _ HNN.out.symm (by omega) HNE.out.symm (by omega) (NS.out.rd (n := nN) (c := c3) (by simp)) (NS.out.rd (n := nE) (c := c4) (by simp)) (NS.out.rd (n := nN) (c := c5) (by simp)) (NS.out.rd (n := nE) (c := c6) (by simp))).mono ?_
  rintro e w7 ⟨rfl, hb⟩
  have NS := Lib.hid (NS.out.below hb)
  clear hb y0 y1 y2 y3 z0 z1 z2 z3
  go_wp2_with fail
  refine (p_same s t n m _ HN.out hnb HM.out hmb NS.out.hh NS.out.bb).mono ?_
  rintro e w8 ⟨⟨v, rfl, hv⟩, hb⟩
  have NS := Lib.hid (NS.out.below hb)
  have HV := Lib.hid hv
  clear hb hv
  go_wp2_with fail
  refine (r9same s t n m _ HN.out hnb HM.out hmb).mono ?_
  rintro e w9 ⟨⟨v', rfl, hv⟩, hb⟩
  obtain rfl := hv.one HV.out
  have NS := Lib.hid (NS.out.below hb)
  have e4 : (v' != v') = false := by simp
  have e5 : (v' ^^ v') = false := by simp
  clear hb hv
  have hsub : Sep w9 w.heap.size [rw64 (.slice a3 nN c3) N'', rw64 (.slice a4 nE c4) E'', rw64 (.slice a1 nN c1) N'', rw64 (.slice a2 nE c2) E''] := NS.out.sp.sub (by simp)
  have hsep : Sep w9 w.heap.size (rwNo :: rwNo8 :: ([rw64 (.slice a1 nN c1) N'', rw64 (.slice a2 nE c2) E'', rw64 (.slice a3 nN c3) N'', rw64 (.slice a4 nE c4) E''] ++ [])) :=
    ((Sep.perm hsub (List.perm_append_comm (l₁ := [rw64 (.slice a3 nN c3) N'', rw64 (.slice a4 nE c4) E'']) (l₂ := [rw64 (.slice a1 nN c1) N'', rw64 (.slice a2 nE c2) E'']))).nilRow _).nilRow _
  have hbok := Bok.start (T := 38) hsep NS.out.bl.size rfl
  have HK := Lib.hid hbok
  have HBK := Lib.hid ((Below.refl w9.heap.size w9).alloc (Nat.le_refl _) (.cells #[.slice none 0 0, .slice none 0 0] 38))
  have NS9 := NS
  have NS := Lib.hid (NS.out.below HBK.out)
  clear hbok hsep hsub
  obtain ⟨x0, x1, x2, x3⟩ := NS.out.get (g := w1.heap.size) (a := .int .i64 kd'') (b := .string TS) (c := .slice a1 nN c1) (d := .slice a2 nE c2) (by simp)
  go_wp2_with fail
  refine (bookKey_any HK.out a1 nN c1 a2 nE c2 (by decide)).mono ?_
  rintro e w10 ⟨rfl, ⟨vb0, hbok⟩, hb7⟩
  have HK := Lib.hid hbok
  have HBK2 := Lib.hid (HBK.out.trans hb7)
  have NS := Lib.hid (NS9.out.below HBK2.out)
  clear hbok hb7 x0 x1 x2 x3
  obtain ⟨y0, y1, y2, y3⟩ := NS.out.get (g := w2.heap.size) (a := .int .i64 kd'') (b := .string TS) (c := .slice a3 nN c3) (d := .slice a4 nE c4) (by simp)
  go_wp2_with fail
  refine (bookKey_any HK.out a3 nN c3 a4 nE c4 (by simp)).mono ?_
  rintro e w11 ⟨rfl, ⟨vb1, hbok⟩, hb7⟩
  have HK := Lib.hid hbok
  have HBK3 := Lib.hid (HBK2.out.trans hb7)
  have NS := Lib.hid (NS9.out.below HBK3.out)
  clear hbok hb7 y0 y1 y2 y3
  go_wp2_with fail
  refine (Bok.apart (WL := [rw64 (.slice a1 nN c1) N'', rw64 (.slice a2 nE c2) E'', rw64 (.slice a3 nN c3) N'', rw64 (.slice a4 nE c4) E'']) (BL := []) HK.out (fun s hs => ?_) (fun s hs => by cases hs) (by simp) (by decide)).mono ?_
  · simp only [List.mem_cons, List.mem_nil_iff, or_false] at hs
    rcases hs with rfl | rfl | rfl | rfl <;> exact ⟨rfl, by simp only [rw64]; have := HNN.out; have := HNE.out; omega⟩
  rintro e w12 ⟨rfl, hb16⟩
  have HW := Lib.hid (NS.out.bl.trans hb16)
  have HTB := Lib.hid (And.intro (NS.out.hh.low hGH hb16) (NS.out.bb.low hGB hb16))
  clear hb16 HK
  go_wp2_with fail
  refine (works9 _ HTB.out.1 HTB.out.2).mono ?_
  rintro e w17 ⟨rfl, hb17⟩
  have HW := Lib.hid (HW.out.trans (hb17.mono HW.out.size))
  clear hb17
  go_wp2
  go_ret
  exact ⟨rfl, HW.out⟩
end Go.Proofs.YtaookoejdnkkoaaGreatDoor
