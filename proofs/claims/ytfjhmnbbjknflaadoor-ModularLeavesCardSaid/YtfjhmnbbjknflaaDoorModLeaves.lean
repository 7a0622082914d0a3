import Derived.Test.YtfjhmnbbjknflaaDoorModE
namespace Go.Proofs.YtfjhmnbbjknflaaDoor
open Go.RowKit

set_option exponentiation.threshold 10000 in
theorem lims_l {A C M : Nat} (hA : A < 18446744073709551616 ^ 60) (hC : C < 18446744073709551616 ^ 60) (hM : M < 18446744073709551616 ^ 20) :
    A + M < 18446744073709551616 ^ 128 ∧ A + C < 18446744073709551616 ^ 128 ∧ A * C < 18446744073709551616 ^ 128 ∧ M < 18446744073709551616 ^ 64 := by
  have k1 : A * C ≤ 18446744073709551616 ^ 60 * 18446744073709551616 ^ 60 := Nat.mul_le_mul (Nat.le_of_lt hA) (Nat.le_of_lt hC)
  rw [← Nat.pow_add] at k1
  have p1 : (18446744073709551616 : Nat) ^ 60 * 4 ≤ 18446744073709551616 ^ 128 := by decide +kernel
  have p2 : (18446744073709551616 : Nat) ^ (60 + 60) < 18446744073709551616 ^ 128 := by decide +kernel
  have p3 : (18446744073709551616 : Nat) ^ 20 ≤ 18446744073709551616 ^ 60 := by decide +kernel
  have p4 : (18446744073709551616 : Nat) ^ 20 ≤ 18446744073709551616 ^ 64 := by decide +kernel
  generalize A * C = ac at *
  generalize (18446744073709551616 : Nat) ^ 60 = m60 at *
  generalize (18446744073709551616 : Nat) ^ 20 = m20 at *
  generalize (18446744073709551616 : Nat) ^ 64 = m64 at *
  generalize (18446744073709551616 : Nat) ^ (60 + 60) = m120 at *
  generalize (18446744073709551616 : Nat) ^ 128 = m at *
  refine ⟨by omega, by omega, by omega, by omega⟩
set_option maxHeartbeats 8000000 in
set_option maxRecDepth 100000 in
theorem mleaves_any (a1 a2 a3 : Option Addr) (l1 c1 l2 c2 l3 c3 : Nat) (xs1 xs2 xs3 : List Nat) (w : World) (hl1 : xs1.length = l1) (hb1 : l1 ≤ 9223372036854775807) (hr1 : Rd .u64 w a1 xs1) (bx1 : Bd xs1) (hl2 : xs2.length = l2) (hb2 : l2 ≤ 9223372036854775807) (hr2 : Rd .u64 w a2 xs2) (bx2 : Bd xs2) (hl3 : xs3.length = l3) (hb3 : l3 ≤ 9223372036854775807) (hr3 : Rd .u64 w a3 xs3) (bx3 : Bd xs3) (hT : Trig w) :
    Calls Tryd.prog 3 #[.slice a1 l1 c1, .slice a2 l2 c2, .slice a3 l3 c3] w fun e w' => e = .returned (.bool true) ∧ Below w.heap.size w w' := by
  have HT := Lib.hid (fun (W : World) (h : Below w.heap.size w W) => hT.below h)
  have HS1 := Lib.hid (fun (W : World) (h : Below w.heap.size w W) => msome_any a1 l1 c1 60 xs1 W hl1 hb1 (by decide) (hr1.below h) bx1)
  have HLA := Lib.hid (val_take_lt bx1 60)
  have HS2 := Lib.hid (fun (W : World) (h : Below w.heap.size w W) => msome_any a2 l2 c2 60 xs2 W hl2 hb2 (by decide) (hr2.below h) bx2)
  have HLC := Lib.hid (val_take_lt bx2 60)
  have HS3 := Lib.hid (fun (W : World) (h : Below w.heap.size w W) => msome_any a3 l3 c3 20 xs3 W hl3 hb3 (by decide) (hr3.below h) bx3)
  have HLM := Lib.hid (val_take_lt bx3 20)
  clear hT hl1 hb1 hr1 bx1 hl2 hb2 hr2 bx2 hl3 hb3 hr3 bx3
  generalize Go.Proofs.YtfjhmnbbjknflaaDoor.val (xs1.take 60) = A at *
  generalize Go.Proofs.YtfjhmnbbjknflaaDoor.val (xs2.take 60) = C at *
  generalize Go.Proofs.YtfjhmnbbjknflaaDoor.val (xs3.take 20) = M at *
  have HE : Hid (NEnv w.heap.size w [] ∧ Below w.heap.size w w) := ⟨⟨Nat.le_refl _, fun _ h => by cases h⟩, Below.refl _ _⟩
  go_enter Tryd.func3, Tryd.ntmps3
  go_wp2_with fail
  refine (HS1.out _ HE.out.2).mono ?_
  rintro e w1 ⟨vA, rfl, hI, hb⟩
  have hE := HE.out.1.add hb (hI.base HE.out.2.size)
  clear hI
  have HE := Lib.hid (And.intro hE (HE.out.2.trans (hb.mono HE.out.2.size)))
  clear hE hb
  go_wp2_with fail
  refine (HS2.out _ HE.out.2).mono ?_
  rintro e w2 ⟨vC, rfl, hI, hb⟩
  have hE := HE.out.1.add hb (hI.base HE.out.2.size)
  clear hI
  have HE := Lib.hid (And.intro hE (HE.out.2.trans (hb.mono HE.out.2.size)))
  clear hE hb
  go_wp2_with fail
  refine (HS3.out _ HE.out.2).mono ?_
  rintro e w3 ⟨vM, rfl, hI, hb⟩
  have hE := HE.out.1.add hb (hI.base HE.out.2.size)
  clear hI
  have HE := Lib.hid (And.intro hE (HE.out.2.trans (hb.mono HE.out.2.size)))
  clear hE hb
  have HLL := Lib.hid (lims_l HLA.out HLC.out HLM.out)
  clear HLA HLC HLM HS1 HS2 HS3
  by_cases h0 : M = 0
  · have H0 := Lib.hid h0
    clear h0
    go_wp2_with fail
    refine (m_bits (v1 := vM) HE.out.1 (by repeat first | exact List.mem_cons_self | apply List.mem_cons_of_mem)).mono ?_
    rintro e w4 ⟨k4, rfl, hk, hk2, rfl⟩
    have hkk : k4 = 0 := by
      rcases hk with ⟨_, h⟩ | ⟨_, h, _⟩
      · exact h
      · have := H0.out; have := Nat.two_pow_pos (k4 - 1); omega
    subst hkk
    clear hk hk2
    go_wp2_with fail
    refine (m_mul0 (vm := vM) (va := vA) (vb := vC) HE.out.1 (by repeat first | exact List.mem_cons_self | apply List.mem_cons_of_mem) (by repeat first | exact List.mem_cons_self | apply List.mem_cons_of_mem) (by repeat first | exact List.mem_cons_self | apply List.mem_cons_of_mem) H0.out).mono ?_
    rintro e w5 ⟨rfl, hE, hb⟩
    have HE := Lib.hid (And.intro hE (HE.out.2.trans (hb.mono HE.out.2.size)))
    clear hE hb
    go_wp2_with fail
    refine (mworks_any _ (HT.out _ HE.out.2)).mono ?_
    rintro e wz ⟨rfl, hbz⟩
    have HZ := Lib.hid (HE.out.2.trans (hbz.mono HE.out.2.size))
    clear hbz
    go_wp2
    go_ret
    exact ⟨rfl, HZ.out⟩
  · have H0 : Hid (0 < M) := Nat.pos_of_ne_zero h0
    clear h0
    go_wp2_with fail
    refine (m_bits (v1 := vM) HE.out.1 (by repeat first | exact List.mem_cons_self | apply List.mem_cons_of_mem)).mono ?_
    rintro e w7 ⟨k7, rfl, hk, hk2, rfl⟩
    have hkk : ((k7 : Int) == 0) = false := by
      have : k7 ≠ 0 := by
        rcases hk with ⟨h, _⟩ | ⟨h, _⟩
        · have := H0.out; omega
        · omega
      simp; omega
    clear hk hk2
    go_wp2_with fail
    refine (m_of (vm := vM) (va := vA) HE.out.1 (by repeat first | exact List.mem_cons_self | apply List.mem_cons_of_mem) (by repeat first | exact List.mem_cons_self | apply List.mem_cons_of_mem) H0.out HLL.out.2.2.2).mono ?_
    rintro e w8 ⟨vo, rfl, hE, hb⟩
    have HE := Lib.hid (And.intro hE (HE.out.2.trans (hb.mono HE.out.2.size)))
    clear hE hb
    go_wp2_with fail
    refine (n_add (v1 := vA) (v2 := vM) HE.out.1 (by repeat first | exact List.mem_cons_self | apply List.mem_cons_of_mem) (by repeat first | exact List.mem_cons_self | apply List.mem_cons_of_mem) HLL.out.1).mono ?_
    rintro e w9 ⟨vc, rfl, hE, hb⟩
    have HE := Lib.hid (And.intro hE (HE.out.2.trans (hb.mono HE.out.2.size)))
    clear hE hb
    go_wp2_with fail
    refine (n_cmp (v1 := vo) (v2 := vM) HE.out.1 (by repeat first | exact List.mem_cons_self | apply List.mem_cons_of_mem) (by repeat first | exact List.mem_cons_self | apply List.mem_cons_of_mem)).mono ?_
    rintro e w10 ⟨rfl, hE, hb⟩
    have HE := Lib.hid (And.intro hE (HE.out.2.trans (hb.mono HE.out.2.size)))
    clear hE hb
    rw [show cmpI (A % M) M = -1 by unfold cmpI; rw [if_pos (Nat.mod_lt _ H0.out)]]
    go_wp2_with fail
    refine (m_add (vm := vM) (va := vA) (vb := vC) HE.out.1 (by repeat first | exact List.mem_cons_self | apply List.mem_cons_of_mem) (by repeat first | exact List.mem_cons_self | apply List.mem_cons_of_mem) (by repeat first | exact List.mem_cons_self | apply List.mem_cons_of_mem) H0.out HLL.out.2.2.2).mono ?_
    rintro e w11 ⟨vs, rfl, hE, hb⟩
    have HE := Lib.hid (And.intro hE (HE.out.2.trans (hb.mono HE.out.2.size)))
    clear hE hb
    go_wp2_with fail
    refine (m_add (vm := vM) (va := vc) (vb := vC) HE.out.1 (by repeat first | exact List.mem_cons_self | apply List.mem_cons_of_mem) (by repeat first | exact List.mem_cons_self | apply List.mem_cons_of_mem) (by repeat first | exact List.mem_cons_self | apply List.mem_cons_of_mem) H0.out HLL.out.2.2.2).mono ?_
    rintro e w12 ⟨vt, rfl, hE, hb⟩
    have HE := Lib.hid (And.intro hE (HE.out.2.trans (hb.mono HE.out.2.size)))
    clear hE hb
    go_wp2_with fail
    refine (m_sub (vm := vM) (va := vA) (vb := vC) HE.out.1 (by repeat first | exact List.mem_cons_self | apply List.mem_cons_of_mem) (by repeat first | exact List.mem_cons_self | apply List.mem_cons_of_mem) (by repeat first | exact List.mem_cons_self | apply List.mem_cons_of_mem) H0.out HLL.out.2.2.2).mono ?_
    rintro e w13 ⟨vd, rfl, hE, hb⟩
    have HE := Lib.hid (And.intro hE (HE.out.2.trans (hb.mono HE.out.2.size)))
    clear hE hb
    go_wp2_with fail
    refine (m_add (vm := vM) (va := vd) (vb := vC) HE.out.1 (by repeat first | exact List.mem_cons_self | apply List.mem_cons_of_mem) (by repeat first | exact List.mem_cons_self | apply List.mem_cons_of_mem) (by repeat first | exact List.mem_cons_self | apply List.mem_cons_of_mem) H0.out HLL.out.2.2.2).mono ?_
    rintro e w14 ⟨vu, rfl, hE, hb⟩
    have HE := Lib.hid (And.intro hE (HE.out.2.trans (hb.mono HE.out.2.size)))
    clear hE hb
    go_wp2_with fail
    refine (m_mul (vm := vM) (va := vA) (vb := vC) HE.out.1 (HT.out _ HE.out.2) (by repeat first | exact List.mem_cons_self | apply List.mem_cons_of_mem) (by repeat first | exact List.mem_cons_self | apply List.mem_cons_of_mem) (by repeat first | exact List.mem_cons_self | apply List.mem_cons_of_mem) H0.out HLL.out.2.2.2).mono ?_
    rintro e w15 ⟨vp, rfl, hE, hb⟩
    have HE := Lib.hid (And.intro hE (HE.out.2.trans (hb.mono HE.out.2.size)))
    clear hE hb
    go_wp2_with fail
    refine (m_mul (vm := vM) (va := vC) (vb := vc) HE.out.1 (HT.out _ HE.out.2) (by repeat first | exact List.mem_cons_self | apply List.mem_cons_of_mem) (by repeat first | exact List.mem_cons_self | apply List.mem_cons_of_mem) (by repeat first | exact List.mem_cons_self | apply List.mem_cons_of_mem) H0.out HLL.out.2.2.2).mono ?_
    rintro e w16 ⟨vq, rfl, hE, hb⟩
    have HE := Lib.hid (And.intro hE (HE.out.2.trans (hb.mono HE.out.2.size)))
    clear hE hb
    go_wp2_with fail
    refine (n_add (v1 := vA) (v2 := vC) HE.out.1 (by repeat first | exact List.mem_cons_self | apply List.mem_cons_of_mem) (by repeat first | exact List.mem_cons_self | apply List.mem_cons_of_mem) HLL.out.2.1).mono ?_
    rintro e w17 ⟨vsum, rfl, hE, hb⟩
    have HE := Lib.hid (And.intro hE (HE.out.2.trans (hb.mono HE.out.2.size)))
    clear hE hb
    go_wp2_with fail
    refine (m_of (vm := vM) (va := vsum) HE.out.1 (by repeat first | exact List.mem_cons_self | apply List.mem_cons_of_mem) (by repeat first | exact List.mem_cons_self | apply List.mem_cons_of_mem) H0.out HLL.out.2.2.2).mono ?_
    rintro e w18 ⟨vw, rfl, hE, hb⟩
    have HE := Lib.hid (And.intro hE (HE.out.2.trans (hb.mono HE.out.2.size)))
    clear hE hb
    go_wp2_with fail
    refine (n_cmp (v1 := vs) (v2 := vM) HE.out.1 (by repeat first | exact List.mem_cons_self | apply List.mem_cons_of_mem) (by repeat first | exact List.mem_cons_self | apply List.mem_cons_of_mem)).mono ?_
    rintro e w19 ⟨rfl, hE, hb⟩
    have HE := Lib.hid (And.intro hE (HE.out.2.trans (hb.mono HE.out.2.size)))
    clear hE hb
    rw [show cmpI ((A % M + C % M) % M) M = -1 by unfold cmpI; rw [if_pos (Nat.mod_lt _ H0.out)]]
    go_wp2_with fail
    refine (n_cmp (v1 := vd) (v2 := vM) HE.out.1 (by repeat first | exact List.mem_cons_self | apply List.mem_cons_of_mem) (by repeat first | exact List.mem_cons_self | apply List.mem_cons_of_mem)).mono ?_
    rintro e w20 ⟨rfl, hE, hb⟩
    have HE := Lib.hid (And.intro hE (HE.out.2.trans (hb.mono HE.out.2.size)))
    clear hE hb
    rw [show cmpI (mdiff (A % M) (C % M) M) M = -1 by unfold cmpI; rw [if_pos (mdiff_lt (Nat.mod_lt _ H0.out) (Nat.mod_lt _ H0.out))]]
    go_wp2_with fail
    refine (n_cmp (v1 := vp) (v2 := vM) HE.out.1 (by repeat first | exact List.mem_cons_self | apply List.mem_cons_of_mem) (by repeat first | exact List.mem_cons_self | apply List.mem_cons_of_mem)).mono ?_
    rintro e w21 ⟨rfl, hE, hb⟩
    have HE := Lib.hid (And.intro hE (HE.out.2.trans (hb.mono HE.out.2.size)))
    clear hE hb
    rw [show cmpI (A % M * (C % M) % M) M = -1 by unfold cmpI; rw [if_pos (Nat.mod_lt _ H0.out)]]
    go_wp2_with fail
    refine (n_same (v1 := vs) (v2 := vt) HE.out.1 (by repeat first | exact List.mem_cons_self | apply List.mem_cons_of_mem) (by repeat first | exact List.mem_cons_self | apply List.mem_cons_of_mem) (by rw [Nat.add_mod_right])).mono ?_
    rintro e w22 ⟨rfl, hE, hb⟩
    have HE := Lib.hid (And.intro hE (HE.out.2.trans (hb.mono HE.out.2.size)))
    clear hE hb
    go_wp2_with fail
    refine (n_same (v1 := vs) (v2 := vw) HE.out.1 (by repeat first | exact List.mem_cons_self | apply List.mem_cons_of_mem) (by repeat first | exact List.mem_cons_self | apply List.mem_cons_of_mem) (Nat.add_mod ..).symm).mono ?_
    rintro e w23 ⟨rfl, hE, hb⟩
    have HE := Lib.hid (And.intro hE (HE.out.2.trans (hb.mono HE.out.2.size)))
    clear hE hb
    go_wp2_with fail
    refine (n_same (v1 := vu) (v2 := vo) HE.out.1 (by repeat first | exact List.mem_cons_self | apply List.mem_cons_of_mem) (by repeat first | exact List.mem_cons_self | apply List.mem_cons_of_mem) (by rw [Nat.mod_eq_of_lt (mdiff_lt (Nat.mod_lt A H0.out) (Nat.mod_lt C H0.out)), mdiff_add (Nat.mod_lt _ H0.out) (Nat.mod_lt _ H0.out)])).mono ?_
    rintro e w24 ⟨rfl, hE, hb⟩
    have HE := Lib.hid (And.intro hE (HE.out.2.trans (hb.mono HE.out.2.size)))
    clear hE hb
    go_wp2_with fail
    refine (n_same (v1 := vp) (v2 := vq) HE.out.1 (by repeat first | exact List.mem_cons_self | apply List.mem_cons_of_mem) (by repeat first | exact List.mem_cons_self | apply List.mem_cons_of_mem) (by rw [Nat.add_mod_right, Nat.mul_comm])).mono ?_
    rintro e w25 ⟨rfl, hE, hb⟩
    have HE := Lib.hid (And.intro hE (HE.out.2.trans (hb.mono HE.out.2.size)))
    clear hE hb
    go_wp2_with fail
    refine (n_mul (v1 := vA) (v2 := vC) HE.out.1 (HT.out _ HE.out.2) (by repeat first | exact List.mem_cons_self | apply List.mem_cons_of_mem) (by repeat first | exact List.mem_cons_self | apply List.mem_cons_of_mem) HLL.out.2.2.1).mono ?_
    rintro e w26 ⟨vall, rfl, hE, hb⟩
    have HE := Lib.hid (And.intro hE (HE.out.2.trans (hb.mono HE.out.2.size)))
    clear hE hb
    go_wp2_with fail
    refine (m_of (vm := vM) (va := vall) HE.out.1 (by repeat first | exact List.mem_cons_self | apply List.mem_cons_of_mem) (by repeat first | exact List.mem_cons_self | apply List.mem_cons_of_mem) H0.out HLL.out.2.2.2).mono ?_
    rintro e w27 ⟨vv, rfl, hE, hb⟩
    have HE := Lib.hid (And.intro hE (HE.out.2.trans (hb.mono HE.out.2.size)))
    clear hE hb
    go_wp2_with fail
    refine (n_same (v1 := vv) (v2 := vp) HE.out.1 (by repeat first | exact List.mem_cons_self | apply List.mem_cons_of_mem) (by repeat first | exact List.mem_cons_self | apply List.mem_cons_of_mem) (Nat.mul_mod ..)).mono ?_
    rintro e w28 ⟨rfl, hE, hb⟩
    have HE := Lib.hid (And.intro hE (HE.out.2.trans (hb.mono HE.out.2.size)))
    clear hE hb
    go_wp2_with fail
    refine (mworks_any _ (HT.out _ HE.out.2)).mono ?_
    rintro e wz ⟨rfl, hbz⟩
    have HZ := Lib.hid (HE.out.2.trans (hbz.mono HE.out.2.size))
    clear hbz
    go_wp2
    go_ret
    exact ⟨rfl, HZ.out⟩
end Go.Proofs.YtfjhmnbbjknflaaDoor
