import Derived.Test.YtkghgfiindpcjaaDeP
namespace Go.Proofs.Ytkghgfiindpcjaa
open Go.RowKit

/-! DerOnce. -/
theorem pickn_any (i : Int) (n : Nat) (w : World) (_h1 : -9223372036854775808 ≤ i) (_h2 : i ≤ 9223372036854775807) (hn : 0 < n) (hn2 : n ≤ 1099511627776) :
    Calls Try.prog 32 #[.int .i64 i, .int .i64 (n : Nat)] w fun e w' => ∃ m : Nat, e = .returned (.int .i64 (m : Nat)) ∧ m < n ∧ w = w' := by
  have g1 : i.tmod n < n := Int.tmod_lt_of_pos _ (by omega)
  have g2 : -(n : Int) < i.tmod n := by
    have h : (-i).tmod n < n := Int.tmod_lt_of_pos _ (by omega)
    rw [Int.neg_tmod] at h
    omega
  have hq : decide ((n : Int) < 1) = false := decide_eq_false (by omega)
  have hn0 : ((n : Int) = 0) = False := by simp; omega
  go_enter Try.func32, Try.ntmps32
  obtain ⟨t, ht⟩ : ∃ t, i.tmod n = t := ⟨_, rfl⟩
  rw [ht] at g1 g2
  by_cases hneg : t < 0
  · have hd : decide (t < 0) = true := decide_eq_true hneg
    go_wp2_with (simp only [ht])
    go_ret
    exact ⟨(t + n).toNat, ret_int (by omega), by omega, rfl⟩
  · have hd : decide (t < 0) = false := decide_eq_false hneg
    go_wp2_with (simp only [ht])
    go_ret
    exact ⟨t.toNat, ret_int (by omega), by omega, rfl⟩

set_option maxHeartbeats 1600000 in
set_option maxRecDepth 100000 in
theorem derOnce_any (a : Option Addr) (len cap : Nat) (b : List Nat) (w : World) (hl : b.length = len) (hcap : len ≤ cap) (hcm : cap ≤ 9223372036854775807) (hna : a = none → cap = 0) (h8 : B8 b) (hr : Rd .u8 w a b) :
    Calls Try.prog 7 #[.slice a len cap] w fun e w' => e = .returned (.bool true) ∧ Below w.heap.size w w' := by
  by_cases hbig : 4096 < len
  · have hq : decide ((4096 : Int) < (len : Int)) = true := decide_eq_true (by omega)
    clear hr
    go_enter Try.func7, Try.ntmps7
    go_wp2
    go_ret
    exact ⟨rfl, Below.refl _ _⟩
  · have hq : decide ((4096 : Int) < (len : Int)) = false := decide_eq_false (by omega)
    have HL := Lib.hid hl
    have HR := Lib.hid hr
    have H8 := Lib.hid h8
    have HNA := Lib.hid hna
    clear hl hr h8 hna
    go_enter Try.func7, Try.ntmps7
    go_wp2_with fail
    refine (decode_any a len cap b _ HL.out (by omega) hcap hcm HNA.out H8.out HR.out).mono ?_
    rintro e w1 ⟨hb, a1, c1, N, a2, c2, E, k, rfl, hsp, hn1, hn2, hT⟩
    have HR := Lib.hid (HR.out.below hb)
    have HB := Lib.hid hb
    by_cases hk : k = 0
    · subst hk
      obtain ⟨h1, h2, -⟩ := hT
      obtain ⟨hN, hE⟩ := h2 rfl
      rcases hd : dec0 b with ⟨k0, n, m⟩
      rw [hd] at h1 hN hE
      simp only at h1 hN hE
      subst h1
      obtain ⟨hkey, hnb, hmb⟩ := dec0_ok H8.out hd
      have HKEY := Lib.hid hkey
      have HN := Lib.hid hN
      have HE := Lib.hid hE
      have HNB := Lib.hid hnb
      have HMB := Lib.hid hmb
      have HS := Lib.hid hsp
      clear hd h2 hkey hN hE hnb hmb hsp hb
      obtain ⟨p, hp⟩ : ∃ p, p = N.length := ⟨_, rfl⟩
      obtain ⟨q, hq2⟩ : ∃ q, q = E.length := ⟨_, rfl⟩
      have HPP := Lib.hid hp
      have HQQ := Lib.hid hq2
      rw [← hp] at hn1 ⊢
      rw [← hq2] at hn2 ⊢
      clear hp hq2
      go_wp2_with fail
      have hb := (Below.refl w1.heap.size w1).alloc (Nat.le_refl _) (KO (.slice a1 p c1) (.slice a2 q c2))
      have HR := Lib.hid (HR.out.below hb)
      have HS := Lib.hid (HS.out.belowS hb)
      have HB := Lib.hid (HB.out.trans (hb.mono HB.out.size))
      have o1 := HS.out.own (v := .slice a1 N.length c1) (zs := N) (by simp)
      have o2 := HS.out.own (v := .slice a2 E.length c2) (zs := E) (by simp)
      refine (encode_any a1 p c1 N a2 q c2 E _ HPP.out.symm (by omega) (by rw [HPP.out]; exact (own64.room o1).1) (own64.rd o1).2 HN.out.bd HQQ.out.symm (by omega) (by rw [HQQ.out]; exact (own64.room o2).1) (own64.rd o2).2 HE.out.bd).mono ?_
      clear o1 o2 hb
      rintro e w2 ⟨hb, a3, c3, k, y, rfl, ho, hT⟩
      rw [HN.out.vl, HE.out.vl] at hT
      obtain ⟨rfl, rfl⟩ := hT.one (.inl ⟨HNB.out, HMB.out, rfl, HKEY.out⟩)
      have hl := HL.out
      have HC := Lib.hid (own8_rd2 ho)
      have HR := Lib.hid (HR.out.below hb)
      have HB := Lib.hid (HB.out.trans (hb.mono HB.out.size))
      rw [hl]
      clear hb hT ho hl HS
      go_wp2_with fail
      refine (bytes_same _ _ len _ _ y _ HL.out (by omega) HR.out HC.out).mono ?_
      rintro e w5 ⟨rfl, nq, hw⟩
      have hb7 : Below w2.heap.size w2 w5 := by rw [hw]; exact Below.drewM (Below.refl _ _) nq
      have HBF := Lib.hid (HB.out.trans (hb7.mono HB.out.size))
      clear hw hb7
      go_wp2_with fail
      refine (works7_any _).mono ?_
      rintro e w6 ⟨rfl, hb⟩
      have HBG := Lib.hid (HBF.out.trans (hb.mono HBF.out.size))
      clear hb
      go_wp2
      go_ret
      exact ⟨rfl, HBG.out⟩
    · obtain ⟨rfl, rfl⟩ := hT.2.2 hk
      have hq2 : (k != 0) = true := by simpa using hk
      have hl4 : List.length ([] : List Nat) = 0 := rfl
      rw [hl4]
      clear hT hsp hb hk
      go_wp2_with fail
      refine (works7_any _).mono ?_
      rintro e w6 ⟨rfl, hb⟩
      have hbz := HB.out.alloc HB.out.size (KO (.slice a1 0 c1) (.slice a2 0 c2))
      have HBG := Lib.hid (hbz.trans (hb.mono hbz.size))
      clear hb hbz
      go_wp2
      go_ret
      exact ⟨rfl, HBG.out⟩
end Go.Proofs.Ytkghgfiindpcjaa
