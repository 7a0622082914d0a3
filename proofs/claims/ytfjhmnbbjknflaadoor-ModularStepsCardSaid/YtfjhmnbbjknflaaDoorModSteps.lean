import Derived.Test.YtfjhmnbbjknflaaDoorModE
namespace Go.Proofs.YtfjhmnbbjknflaaDoor
open Go.RowKit

set_option exponentiation.threshold 10000 in
theorem lims_s {N K M : Nat} (hN : N < 18446744073709551616 ^ 2) (hK : K < 18446744073709551616 ^ 2) (hM : M < 18446744073709551616 ^ 8) : N + K < 18446744073709551616 ^ 128 ∧ M < 18446744073709551616 ^ 64 := by
  have p1 : (18446744073709551616 : Nat) ^ 2 + 18446744073709551616 ^ 2 ≤ 18446744073709551616 ^ 128 := by decide +kernel
  have p2 : (18446744073709551616 : Nat) ^ 8 ≤ 18446744073709551616 ^ 64 := by decide +kernel
  omega
set_option maxHeartbeats 8000000 in
set_option maxRecDepth 100000 in
theorem msteps_any (a1 a2 a3 a4 : Option Addr) (l1 c1 l2 c2 l3 c3 l4 c4 : Nat) (xs1 xs2 xs3 xs4 : List Nat) (w : World) (hl1 : xs1.length = l1) (hb1 : l1 ≤ 9223372036854775807) (hr1 : Rd .u64 w a1 xs1) (bx1 : Bd xs1) (hl2 : xs2.length = l2) (hb2 : l2 ≤ 9223372036854775807) (hr2 : Rd .u64 w a2 xs2) (bx2 : Bd xs2) (hl3 : xs3.length = l3) (hb3 : l3 ≤ 9223372036854775807) (hr3 : Rd .u64 w a3 xs3) (bx3 : Bd xs3) (hl4 : xs4.length = l4) (hb4 : l4 ≤ 9223372036854775807) (hr4 : Rd .u64 w a4 xs4) (bx4 : Bd xs4) (hT : Trig w) :
    Calls Tryd.prog 5 #[.slice a1 l1 c1, .slice a2 l2 c2, .slice a3 l3 c3, .slice a4 l4 c4] w fun e w' => e = .returned (.bool true) ∧ Below w.heap.size w w' := by
  have HT := Lib.hid (fun (W : World) (h : Below w.heap.size w W) => hT.below h)
  have HS1 := Lib.hid (fun (W : World) (h : Below w.heap.size w W) => msome_any a1 l1 c1 8 xs1 W hl1 hb1 (by decide) (hr1.below h) bx1)
  have HLA := Lib.hid (val_take_lt bx1 8)
  have HS2 := Lib.hid (fun (W : World) (h : Below w.heap.size w W) => msome_any a2 l2 c2 2 xs2 W hl2 hb2 (by decide) (hr2.below h) bx2)
  have HLN := Lib.hid (val_take_lt bx2 2)
  have HS3 := Lib.hid (fun (W : World) (h : Below w.heap.size w W) => msome_any a3 l3 c3 2 xs3 W hl3 hb3 (by decide) (hr3.below h) bx3)
  have HLK := Lib.hid (val_take_lt bx3 2)
  have HS4 := Lib.hid (fun (W : World) (h : Below w.heap.size w W) => msome_any a4 l4 c4 8 xs4 W hl4 hb4 (by decide) (hr4.below h) bx4)
  have HLM := Lib.hid (val_take_lt bx4 8)
  clear hT hl1 hb1 hr1 bx1 hl2 hb2 hr2 bx2 hl3 hb3 hr3 bx3 hl4 hb4 hr4 bx4
  generalize Go.Proofs.YtfjhmnbbjknflaaDoor.val (xs1.take 8) = A at *
  generalize Go.Proofs.YtfjhmnbbjknflaaDoor.val (xs2.take 2) = N at *
  generalize Go.Proofs.YtfjhmnbbjknflaaDoor.val (xs3.take 2) = K at *
  generalize Go.Proofs.YtfjhmnbbjknflaaDoor.val (xs4.take 8) = M at *
  have HE : Hid (NEnv w.heap.size w [] ∧ Below w.heap.size w w) := ⟨⟨Nat.le_refl _, fun _ h => by cases h⟩, Below.refl _ _⟩
  go_enter Tryd.func5, Tryd.ntmps5
  go_wp2_with fail
  refine (HS1.out _ HE.out.2).mono ?_
  rintro e w1 ⟨vA, rfl, hI, hb⟩
  have hE := HE.out.1.add hb (hI.base HE.out.2.size)
  clear hI
  have HE := Lib.hid (And.intro hE (HE.out.2.trans (hb.mono HE.out.2.size)))
  clear hE hb
  go_wp2_with fail
  refine (HS2.out _ HE.out.2).mono ?_
  rintro e w2 ⟨vN, rfl, hI, hb⟩
  have hE := HE.out.1.add hb (hI.base HE.out.2.size)
  clear hI
  have HE := Lib.hid (And.intro hE (HE.out.2.trans (hb.mono HE.out.2.size)))
  clear hE hb
  go_wp2_with fail
  refine (HS3.out _ HE.out.2).mono ?_
  rintro e w3 ⟨vK, rfl, hI, hb⟩
  have hE := HE.out.1.add hb (hI.base HE.out.2.size)
  clear hI
  have HE := Lib.hid (And.intro hE (HE.out.2.trans (hb.mono HE.out.2.size)))
  clear hE hb
  go_wp2_with fail
  refine (HS4.out _ HE.out.2).mono ?_
  rintro e w4 ⟨vM, rfl, hI, hb⟩
  have hE := HE.out.1.add hb (hI.base HE.out.2.size)
  clear hI
  have HE := Lib.hid (And.intro hE (HE.out.2.trans (hb.mono HE.out.2.size)))
  clear hE hb
  have HLL := Lib.hid (lims_s HLN.out HLK.out HLM.out)
  clear HLA HLN HLK HLM HS1 HS2 HS3 HS4
  by_cases h0 : M = 0
  · have H0 := Lib.hid h0
    clear h0
    go_wp2_with fail
    refine (m_bits (v1 := vM) HE.out.1 (by repeat first | exact List.mem_cons_self | apply List.mem_cons_of_mem)).mono ?_
    rintro e w5 ⟨k5, rfl, hk, hk2, rfl⟩
    have hkk : k5 = 0 := by
      rcases hk with ⟨_, h⟩ | ⟨_, h, _⟩
      · exact h
      · have := H0.out; have := Nat.two_pow_pos (k5 - 1); omega
    subst hkk
    clear hk hk2
    go_wp2_with fail
    refine (mworks_any _ (HT.out _ HE.out.2)).mono ?_
    rintro e wz ⟨rfl, hbz⟩
    have HZ := Lib.hid (HE.out.2.trans (hbz.mono HE.out.2.size))
    clear hbz
    go_wp2
    go_ret
    exact ⟨rfl, HZ.out⟩
  · have H0 : Hid (0 < M) := Nat.pos_of_ne_zero h0
    clear h0
    go_wp2_with fail
    refine (m_bits (v1 := vM) HE.out.1 (by repeat first | exact List.mem_cons_self | apply List.mem_cons_of_mem)).mono ?_
    rintro e w7 ⟨k7, rfl, hk, hk2, rfl⟩
    have hkk : ((k7 : Int) == 0) = false := by
      have : k7 ≠ 0 := by
        rcases hk with ⟨h, _⟩ | ⟨h, _⟩
        · have := H0.out; omega
        · omega
      simp; omega
    clear hk hk2
    go_wp2_with fail
    refine (n_add (v1 := vN) (v2 := vK) HE.out.1 (by repeat first | exact List.mem_cons_self | apply List.mem_cons_of_mem) (by repeat first | exact List.mem_cons_self | apply List.mem_cons_of_mem) HLL.out.1).mono ?_
    rintro e w8 ⟨vboth, rfl, hE, hb⟩
    have HE := Lib.hid (And.intro hE (HE.out.2.trans (hb.mono HE.out.2.size)))
    clear hE hb
    go_wp2_with fail
    refine (m_pow (vm := vM) (va := vA) (vb := vN) HE.out.1 (HT.out _ HE.out.2) (by repeat first | exact List.mem_cons_self | apply List.mem_cons_of_mem) (by repeat first | exact List.mem_cons_self | apply List.mem_cons_of_mem) (by repeat first | exact List.mem_cons_self | apply List.mem_cons_of_mem) H0.out HLL.out.2).mono ?_
    rintro e w9 ⟨vp, rfl, hE, hb⟩
    have HE := Lib.hid (And.intro hE (HE.out.2.trans (hb.mono HE.out.2.size)))
    clear hE hb
    go_wp2_with fail
    refine (m_pow (vm := vM) (va := vA) (vb := vK) HE.out.1 (HT.out _ HE.out.2) (by repeat first | exact List.mem_cons_self | apply List.mem_cons_of_mem) (by repeat first | exact List.mem_cons_self | apply List.mem_cons_of_mem) (by repeat first | exact List.mem_cons_self | apply List.mem_cons_of_mem) H0.out HLL.out.2).mono ?_
    rintro e w10 ⟨vq, rfl, hE, hb⟩
    have HE := Lib.hid (And.intro hE (HE.out.2.trans (hb.mono HE.out.2.size)))
    clear hE hb
    go_wp2_with fail
    refine (m_pow (vm := vM) (va := vA) (vb := vboth) HE.out.1 (HT.out _ HE.out.2) (by repeat first | exact List.mem_cons_self | apply List.mem_cons_of_mem) (by repeat first | exact List.mem_cons_self | apply List.mem_cons_of_mem) (by repeat first | exact List.mem_cons_self | apply List.mem_cons_of_mem) H0.out HLL.out.2).mono ?_
    rintro e w11 ⟨vr, rfl, hE, hb⟩
    have HE := Lib.hid (And.intro hE (HE.out.2.trans (hb.mono HE.out.2.size)))
    clear hE hb
    go_wp2_with fail
    refine (m_mul (vm := vM) (va := vp) (vb := vq) HE.out.1 (HT.out _ HE.out.2) (by repeat first | exact List.mem_cons_self | apply List.mem_cons_of_mem) (by repeat first | exact List.mem_cons_self | apply List.mem_cons_of_mem) (by repeat first | exact List.mem_cons_self | apply List.mem_cons_of_mem) H0.out HLL.out.2).mono ?_
    rintro e w12 ⟨vs, rfl, hE, hb⟩
    have HE := Lib.hid (And.intro hE (HE.out.2.trans (hb.mono HE.out.2.size)))
    clear hE hb
    have HE := Lib.hid (And.intro HE.out.1.nil HE.out.2)
    go_wp2_with fail
    refine (m_pow (vm := vM) (va := vA) (vb := (.slice none 0 0)) HE.out.1 (HT.out _ HE.out.2) (by repeat first | exact List.mem_cons_self | apply List.mem_cons_of_mem) (by repeat first | exact List.mem_cons_self | apply List.mem_cons_of_mem) (by repeat first | exact List.mem_cons_self | apply List.mem_cons_of_mem) H0.out HLL.out.2).mono ?_
    rintro e w13 ⟨vone, rfl, hE, hb⟩
    have HE := Lib.hid (And.intro hE (HE.out.2.trans (hb.mono HE.out.2.size)))
    clear hE hb
    have HE := Lib.hid (m_litb 1 w13.heap.size (by decide) (by decide) HE.out rfl)
    go_wp2_with fail
    refine (m_of (vm := vM) (va := (.slice (some ⟨w13.heap.size, 0, none⟩) 1 1)) HE.out.1 (by repeat first | exact List.mem_cons_self | apply List.mem_cons_of_mem) (by repeat first | exact List.mem_cons_self | apply List.mem_cons_of_mem) H0.out HLL.out.2).mono ?_
    rintro e w14 ⟨vw, rfl, hE, hb⟩
    have HE := Lib.hid (And.intro hE (HE.out.2.trans (hb.mono HE.out.2.size)))
    clear hE hb
    have HE := Lib.hid (m_litb 1 w14.heap.size (by decide) (by decide) HE.out rfl)
    go_wp2_with fail
    refine (m_pow (vm := vM) (va := vA) (vb := (.slice (some ⟨w14.heap.size, 0, none⟩) 1 1)) HE.out.1 (HT.out _ HE.out.2) (by repeat first | exact List.mem_cons_self | apply List.mem_cons_of_mem) (by repeat first | exact List.mem_cons_self | apply List.mem_cons_of_mem) (by repeat first | exact List.mem_cons_self | apply List.mem_cons_of_mem) H0.out HLL.out.2).mono ?_
    rintro e w15 ⟨vt, rfl, hE, hb⟩
    have HE := Lib.hid (And.intro hE (HE.out.2.trans (hb.mono HE.out.2.size)))
    clear hE hb
    go_wp2_with fail
    refine (m_of (vm := vM) (va := vA) HE.out.1 (by repeat first | exact List.mem_cons_self | apply List.mem_cons_of_mem) (by repeat first | exact List.mem_cons_self | apply List.mem_cons_of_mem) H0.out HLL.out.2).mono ?_
    rintro e w16 ⟨vv, rfl, hE, hb⟩
    have HE := Lib.hid (And.intro hE (HE.out.2.trans (hb.mono HE.out.2.size)))
    clear hE hb
    go_wp2_with fail
    refine (n_same (v1 := vr) (v2 := vs) HE.out.1 (by repeat first | exact List.mem_cons_self | apply List.mem_cons_of_mem) (by repeat first | exact List.mem_cons_self | apply List.mem_cons_of_mem) (by rw [Nat.mod_mod, Nat.mod_mod, ← Nat.mul_mod, Nat.pow_add])).mono ?_
    rintro e w17 ⟨rfl, hE, hb⟩
    have HE := Lib.hid (And.intro hE (HE.out.2.trans (hb.mono HE.out.2.size)))
    clear hE hb
    go_wp2_with fail
    refine (n_same (v1 := vone) (v2 := vw) HE.out.1 (by repeat first | exact List.mem_cons_self | apply List.mem_cons_of_mem) (by repeat first | exact List.mem_cons_self | apply List.mem_cons_of_mem) (by rw [Nat.pow_zero])).mono ?_
    rintro e w18 ⟨rfl, hE, hb⟩
    have HE := Lib.hid (And.intro hE (HE.out.2.trans (hb.mono HE.out.2.size)))
    clear hE hb
    go_wp2_with fail
    refine (n_same (v1 := vt) (v2 := vv) HE.out.1 (by repeat first | exact List.mem_cons_self | apply List.mem_cons_of_mem) (by repeat first | exact List.mem_cons_self | apply List.mem_cons_of_mem) (by rw [Nat.pow_one])).mono ?_
    rintro e w19 ⟨rfl, hE, hb⟩
    have HE := Lib.hid (And.intro hE (HE.out.2.trans (hb.mono HE.out.2.size)))
    clear hE hb
    go_wp2_with fail
    refine (n_cmp (v1 := vr) (v2 := vM) HE.out.1 (by repeat first | exact List.mem_cons_self | apply List.mem_cons_of_mem) (by repeat first | exact List.mem_cons_self | apply List.mem_cons_of_mem)).mono ?_
    rintro e w20 ⟨rfl, hE, hb⟩
    have HE := Lib.hid (And.intro hE (HE.out.2.trans (hb.mono HE.out.2.size)))
    clear hE hb
    rw [show cmpI (A ^ (N + K) % M) M = -1 by unfold cmpI; rw [if_pos (Nat.mod_lt _ H0.out)]]
    go_wp2_with fail
    refine (mworks_any _ (HT.out _ HE.out.2)).mono ?_
    rintro e wz ⟨rfl, hbz⟩
    have HZ := Lib.hid (HE.out.2.trans (hbz.mono HE.out.2.size))
    clear hbz
    go_wp2
    go_ret
    exact ⟨rfl, HZ.out⟩
end Go.Proofs.YtfjhmnbbjknflaaDoor
