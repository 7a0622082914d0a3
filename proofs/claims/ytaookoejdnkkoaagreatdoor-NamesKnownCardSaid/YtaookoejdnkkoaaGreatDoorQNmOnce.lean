import Derived.Test.YtaookoejdnkkoaaGreatDoorQ19
namespace Go.Proofs.YtaookoejdnkkoaaGreatDoor
open Go.RowKit

/-! NamesOnce. -/
theorem same_self {l T N E : List Nat} {k kind : Int} (h : OfTells l k kind T N E) (hk : k ≠ 0) : SameT l l false := .inl ⟨k, kind, T, N, E, h, hk, rfl⟩
theorem same_normal {l T N E : List Nat} {kind : Int} (h : OfTells l 0 kind T N E) : SameT l T true := .inr ⟨kind, T, N, E, 0, kind, T, N, E, h, h.again, by simp⟩
theorem rd_nil {w : World} {a : Option Addr} : Rd .u64 w a [] := fun j hj => absurd hj (by simp)
set_option maxHeartbeats 4000000 in
set_option maxRecDepth 100000 in
theorem namesOnce_any (s : ByteArray) (w : World) (hs : s.size ≤ 9223372036854775807) (hH : HT w) (hB : BT w) :
    Calls Tryz.prog 52 #[.string s] w fun e w' => e = .returned (.bool true) ∧ Below w.heap.size w w' := by
  obtain ⟨n, hn⟩ : ∃ n, n = s.size := ⟨_, rfl⟩
  have hsn : s.size = n := hn.symm
  by_cases hbig : 8192 < n
  · have hq : decide ((8192 : Int) < (n : Int)) = true := decide_eq_true (by omega)
    clear hH hB hn
    go_enter Tryz.func52, Tryz.ntmps52
    go_wp2
    go_ret
    exact ⟨rfl, Below.refl _ _⟩
  have hq : decide ((8192 : Int) < (n : Int)) = false := decide_eq_false (by omega)
  have hnb : n ≤ 1099511627776 := by omega
  have NS := Lib.hid (NE.start hH hB)
  have HN := Lib.hid hsn
  clear hH hB hn hs hbig
  go_enter Tryz.func52, Tryz.ntmps52
  go_wp2_with fail
  refine (p_of s n _ HN.out hnb NS.out.hh NS.out.bb).mono ?_
  rintro e w1 ⟨hb, kind, T, a1, c1, N, a2, c2, E, k, rfl, hsp, hn1, hn2, hT8, hTl, hQ⟩
  have NS := Lib.hid (NS.out.rows hb hsp)
  have HQ := Lib.hid hQ
  have HT8 := Lib.hid hT8
  obtain ⟨nN, hnN⟩ : ∃ n, n = N.length := ⟨_, rfl⟩
  obtain ⟨nE, hnE⟩ : ∃ n, n = E.length := ⟨_, rfl⟩
  obtain ⟨TS, hTS⟩ : ∃ TS, TS = strN T := ⟨_, rfl⟩
  have HNN := Lib.hid hnN
  have HNE := Lib.hid hnE
  have HTS := Lib.hid hTS
  rw [← hnN] at NS hn1
  rw [← hnE] at NS hn2
  rw [← hnN, ← hnE, ← hTS]
  have NS := Lib.hid (NS.out.box [.int .i64 kind, .string TS, .slice a1 nN c1, .slice a2 nE c2])
  clear hb hsp hQ hT8 hnN hnE hTS
  by_cases hk : k = 0
  · subst hk
    have hsz : TS.size = T.length := by rw [HTS.out, strN_size]
    have HTB : Hid (bsN TS = T) := by show _ = _; rw [HTS.out]; exact bsN_strN HT8.out
    obtain ⟨q, hqq⟩ : ∃ q, q = T.length := ⟨_, rfl⟩
    rw [← hqq] at hsz hTl
    have HTS' : Hid (strN T = TS) := HTS.out.symm
    have HSZ := Lib.hid hsz
    clear hqq hsz
    go_wp2_with fail
    refine (p_of_is (kind := kind) (k := 0) (T := T) (N := N) (E := E) TS q _ HSZ.out (by omega) NS.out.hh NS.out.bb (by rw [HTB.out]; exact HQ.out.again)).mono ?_
    rintro e w2 ⟨hb, a3, c3, a4, c4, rfl, hsp⟩
    have NS := Lib.hid (NS.out.rows hb hsp)
    rw [← HNN.out, ← HNE.out] at NS
    rw [← HNN.out, ← HNE.out, HTS'.out]
    have NS := Lib.hid (NS.out.box [.int .i64 kind, .string TS, .slice a3 nN c3, .slice a4 nE c4])
    obtain ⟨x0, x1, x2, x3⟩ := NS.out.get (g := w1.heap.size) (a := .int .i64 kind) (b := .string TS) (c := .slice a1 nN c1) (d := .slice a2 nE c2) (by simp)
    clear hb hsp
    go_wp2_with fail
    refine (p_normal TS q _ HSZ.out (by omega) NS.out.hh NS.out.bb).mono ?_
    rintro e w3 ⟨hb, U, u, ku, NU, EU, rfl, -, -, hQ2⟩
    rw [HTB.out] at hQ2
    obtain ⟨rfl, rfl, rfl, rfl, rfl⟩ := hQ2.one HQ.out.again
    have NS := Lib.hid (NS.out.below hb)
    rw [HTS'.out]
    clear hb hQ2 x0 x1 x2 x3
    obtain ⟨x0, x1, x2, x3⟩ := NS.out.get (g := w1.heap.size) (a := .int .i64 ku) (b := .string TS) (c := .slice a1 nN c1) (d := .slice a2 nE c2) (by simp)
    obtain ⟨y0, y1, y2, y3⟩ := NS.out.get (g := w2.heap.size) (a := .int .i64 ku) (b := .string TS) (c := .slice a3 nN c3) (d := .slice a4 nE c4) (by simp)
    go_wp2_with fail
    refine (samepri_any ku TS a1 nN c1 a2 nE c2 a3 c3 a4 c4 NU EU _ HNN.out.symm (by omega) HNE.out.symm (by omega) (NS.out.rd (n := nN) (c := c1) (by simp)) (NS.out.rd (n := nE) (c := c2) (by simp)) (NS.out.rd (n := nN) (c := c3) (by simp)) (NS.out.rd (n := nE) (c := c4) (by simp))).mono ?_
    rintro e w4 ⟨rfl, hb⟩
    have NS := Lib.hid (NS.out.below hb)
    have e3 : (TS.toList == TS.toList) = true := by simp
    clear hb x0 x1 x2 x3 y0 y1 y2 y3
    obtain ⟨x0, x1, x2, x3⟩ := NS.out.get (g := w1.heap.size) (a := .int .i64 ku) (b := .string TS) (c := .slice a1 nN c1) (d := .slice a2 nE c2) (by simp)
    go_wp2_with fail
    refine (p_same_is (v := true) s TS n q _ HN.out hnb HSZ.out (by omega) NS.out.hh NS.out.bb (by rw [HTB.out]; exact same_normal HQ.out)).mono ?_
    rintro e w5 ⟨rfl, hb⟩
    have NS := Lib.hid (NS.out.below hb)
    clear hb x0 x1 x2 x3
    obtain ⟨x0, x1, x2, x3⟩ := NS.out.get (g := w1.heap.size) (a := .int .i64 ku) (b := .string TS) (c := .slice a1 nN c1) (d := .slice a2 nE c2) (by simp)
    rcases HQ.out.kinds with ⟨h, _⟩ | ⟨_, hk, hl, hT, h1, h2⟩ | ⟨_, hk, hl, hT, h1, h2⟩ | ⟨_, hk, hl, h1, h2⟩
    · exact absurd rfl h
    · have y1 : (s.toList == [80, 79, 76, 73, 67, 89]) = true := by rw [beq_lit]; exact decide_eq_true hl
      have y2 : (TS.toList == s.toList) = true := by rw [beq_str, HTB.out]; exact decide_eq_true hT
      subst hk
      have z1 : nN = 0 := by rw [HNN.out, h1]; rfl
      have z2 : nE = 0 := by rw [HNE.out, h2]; rfl
      subst z1 z2
      clear hl hT h1 h2
      go_wp2_with fail
      refine (works9 _ NS.out.hh NS.out.bb).mono ?_
      rintro e w6 ⟨rfl, hb⟩
      have NS := Lib.hid (NS.out.below hb)
      clear hb
      go_wp2
      go_ret
      exact ⟨rfl, NS.out.bl⟩
    · have y1 : (s.toList == [80, 79, 76, 73, 67, 89]) = false := by rw [beq_lit]; exact decide_eq_false hl
      have y2 : (TS.toList == s.toList) = true := by rw [beq_str, HTB.out]; exact decide_eq_true hT
      subst hk
      have z1 : nN = 0 := by rw [HNN.out, h1]; rfl
      have z2 : nE = 0 := by rw [HNE.out, h2]; rfl
      subst z1 z2
      clear hl hT h1 h2
      go_wp2_with fail
      refine (works9 _ NS.out.hh NS.out.bb).mono ?_
      rintro e w6 ⟨rfl, hb⟩
      have NS := Lib.hid (NS.out.below hb)
      clear hb
      go_wp2
      go_ret
      exact ⟨rfl, NS.out.bl⟩
    · have y1 : (s.toList == [80, 79, 76, 73, 67, 89]) = false := by rw [beq_lit]; exact decide_eq_false hl
      subst hk
      obtain ⟨z, hz⟩ : ∃ z, z = nN + nE := ⟨_, rfl⟩
      have z1 : (nN : Int) + (nE : Int) = (z : Int) := by omega
      have z2 : IntKind.i64.wrap (z : Int) = (z : Int) := wrap_i64_nat _ (by omega)
      have z3 : ((z : Int) == 0) = false := by
        have := HNN.out
        have : z ≠ 0 := by omega
        simp [this]
      have HZ := Lib.hid hz
      clear hl h1 h2 hz
      go_wp2_with fail
      refine (works9 _ NS.out.hh NS.out.bb).mono ?_
      rintro e w6 ⟨rfl, hb⟩
      have NS := Lib.hid (NS.out.below hb)
      clear hb
      go_wp2
      go_ret
      exact ⟨rfl, NS.out.bl⟩
  · have hkk : (k != 0) = true := by simp [hk]
    rcases HQ.out.kinds with ⟨_, rfl, rfl, rfl, rfl⟩ | ⟨h, _⟩ | ⟨h, _⟩ | ⟨h, _⟩
    · obtain rfl : TS = ⟨#[]⟩ := HTS.out
      obtain rfl : nN = 0 := HNN.out
      obtain rfl : nE = 0 := HNE.out
      have HSF := Lib.hid (same_self HQ.out hk)
      clear hk
      go_wp2_with fail
      refine (samepri_any 0 ⟨#[]⟩ a1 0 c1 a2 0 c2 none 0 none 0 [] [] _ rfl (by decide) rfl (by decide) rd_nil rd_nil rd_nil rd_nil).mono ?_
      rintro e w2 ⟨rfl, hb⟩
      have NS := Lib.hid (NS.out.below hb)
      clear hb
      go_wp2_with fail
      refine (p_same_is s s n n _ HN.out hnb HN.out hnb NS.out.hh NS.out.bb HSF.out).mono ?_
      rintro e w3 ⟨rfl, hb⟩
      have NS := Lib.hid (NS.out.below hb)
      clear hb
      go_wp2_with fail
      refine (works9 _ NS.out.hh NS.out.bb).mono ?_
      rintro e w4 ⟨rfl, hb⟩
      have NS := Lib.hid (NS.out.below hb)
      clear hb
      go_wp2
      go_ret
      exact ⟨rfl, NS.out.bl⟩
    · exact absurd h hk
    · exact absurd h hk
    · exact absurd h hk
end Go.Proofs.YtaookoejdnkkoaaGreatDoor
