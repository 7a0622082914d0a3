import Derived.Test.YtfjhmnbbjknflaaDoorModE
namespace Go.Proofs.YtfjhmnbbjknflaaDoor
open Go.RowKit

set_option exponentiation.threshold 10000 in
theorem lim_20 {M : Nat} (hM : M < 18446744073709551616 ^ 20) : M < 18446744073709551616 ^ 64 := Nat.lt_of_lt_of_le hM (by decide +kernel)
theorem bits_is1 {n q : Nat} (h : BitsIs n q) (h1 : n = 1) : q = 1 := by
  have h2 := bits_one h
  rcases h with ⟨h3, _⟩ | ⟨h3, _⟩
  · omega
  · omega
set_option maxHeartbeats 8000000 in
set_option maxRecDepth 100000 in
theorem minverts_any (a1 a2 : Option Addr) (l1 c1 l2 c2 : Nat) (xs1 xs2 : List Nat) (w : World) (hl1 : xs1.length = l1) (hb1 : l1 ≤ 9223372036854775807) (hr1 : Rd .u64 w a1 xs1) (bx1 : Bd xs1) (hl2 : xs2.length = l2) (hb2 : l2 ≤ 9223372036854775807) (hr2 : Rd .u64 w a2 xs2) (bx2 : Bd xs2) (hT : Trig w) (hZ : Tz w) :
    Calls Tryd.prog 4 #[.slice a1 l1 c1, .slice a2 l2 c2] w fun e w' => e = .returned (.bool true) ∧ Below w.heap.size w w' := by
  have HT := Lib.hid (fun (W : World) (h : Below w.heap.size w W) => hT.below h)
  have HZZ := Lib.hid (fun (W : World) (h : Below w.heap.size w W) => hZ.below h)
  have HS1 := Lib.hid (fun (W : World) (h : Below w.heap.size w W) => msome_any a1 l1 c1 20 xs1 W hl1 hb1 (by decide) (hr1.below h) bx1)
  have HLA := Lib.hid (val_take_lt bx1 20)
  have HS2 := Lib.hid (fun (W : World) (h : Below w.heap.size w W) => msome_any a2 l2 c2 20 xs2 W hl2 hb2 (by decide) (hr2.below h) bx2)
  have HLM := Lib.hid (val_take_lt bx2 20)
  clear hT hZ hl1 hb1 hr1 bx1 hl2 hb2 hr2 bx2
  generalize Go.Proofs.YtfjhmnbbjknflaaDoor.val (xs1.take 20) = A at *
  generalize Go.Proofs.YtfjhmnbbjknflaaDoor.val (xs2.take 20) = M at *
  have HE : Hid (NEnv w.heap.size w [] ∧ Below w.heap.size w w) := ⟨⟨Nat.le_refl _, fun _ h => by cases h⟩, Below.refl _ _⟩
  go_enter Tryd.func4, Tryd.ntmps4
  go_wp2_with fail
  refine (HS1.out _ HE.out.2).mono ?_
  rintro e w1 ⟨vA, rfl, hI, hb⟩
  have hE := HE.out.1.add hb (hI.base HE.out.2.size)
  clear hI
  have HE := Lib.hid (And.intro hE (HE.out.2.trans (hb.mono HE.out.2.size)))
  clear hE hb
  go_wp2_with fail
  refine (HS2.out _ HE.out.2).mono ?_
  rintro e w2 ⟨vM, rfl, hI, hb⟩
  have hE := HE.out.1.add hb (hI.base HE.out.2.size)
  clear hI
  have HE := Lib.hid (And.intro hE (HE.out.2.trans (hb.mono HE.out.2.size)))
  clear hE hb
  have HLL := Lib.hid (lim_20 HLM.out)
  clear HLA HLM HS1 HS2
  by_cases h0 : M = 0
  · have H0 := Lib.hid h0
    clear h0
    go_wp2_with fail
    refine (m_bits (v1 := vM) HE.out.1 (by repeat first | exact List.mem_cons_self | apply List.mem_cons_of_mem)).mono ?_
    rintro e w3 ⟨k3, rfl, hk, hk2, rfl⟩
    have hkk : k3 = 0 := by
      rcases hk with ⟨_, h⟩ | ⟨_, h, _⟩
      · exact h
      · have := H0.out; have := Nat.two_pow_pos (k3 - 1); omega
    subst hkk
    clear hk hk2
    go_wp2_with fail
    refine (mworks_any _ (HT.out _ HE.out.2)).mono ?_
    rintro e wz ⟨rfl, hbz⟩
    have HZ := Lib.hid (HE.out.2.trans (hbz.mono HE.out.2.size))
    clear hbz
    go_wp2
    go_ret
    exact ⟨rfl, HZ.out⟩
  · have H0 : Hid (0 < M) := Nat.pos_of_ne_zero h0
    clear h0
    go_wp2_with fail
    refine (m_bits (v1 := vM) HE.out.1 (by repeat first | exact List.mem_cons_self | apply List.mem_cons_of_mem)).mono ?_
    rintro e w5 ⟨k5, rfl, hk, hk2, rfl⟩
    have hkk : ((k5 : Int) == 0) = false := by
      have : k5 ≠ 0 := by
        rcases hk with ⟨h, _⟩ | ⟨h, _⟩
        · have := H0.out; omega
        · omega
      simp; omega
    clear hk hk2
    go_wp2_with fail
    refine (m_inv (vm := vM) (va := vA) HE.out.1 (HT.out _ HE.out.2) (by repeat first | exact List.mem_cons_self | apply List.mem_cons_of_mem) (by repeat first | exact List.mem_cons_self | apply List.mem_cons_of_mem) H0.out HLL.out).mono ?_
    rintro e w6 ⟨hb, hor⟩
    rcases hor with ⟨hg, vi, x, rfl, hE, hx, hxa⟩ | ⟨hg, rfl, hE⟩
    · have HF : Hid (Nat.gcd A M = 1 ∧ x < M ∧ x * A % M = 1 % M) := ⟨by rw [Nat.gcd_comm]; exact hg, hx, hxa⟩
      clear hg hx hxa
      have HE := Lib.hid (And.intro hE (HE.out.2.trans (hb.mono HE.out.2.size)))
      clear hE hb
      go_wp2_with fail
      refine (n_gcd (v1 := vA) (v2 := vM) HE.out.1 (HZZ.out _ HE.out.2) (by repeat first | exact List.mem_cons_self | apply List.mem_cons_of_mem) (by repeat first | exact List.mem_cons_self | apply List.mem_cons_of_mem) ).mono ?_
      rintro e w7 ⟨vg, rfl, hE, hb⟩
      have HE := Lib.hid (And.intro hE (HE.out.2.trans (hb.mono HE.out.2.size)))
      clear hE hb
      go_wp2_with fail
      refine (m_bits (v1 := vg) HE.out.1 (by repeat first | exact List.mem_cons_self | apply List.mem_cons_of_mem)).mono ?_
      rintro e w8 ⟨k8, rfl, hk, hk2, rfl⟩
      obtain rfl : k8 = 1 := bits_is1 hk HF.out.1
      clear hk hk2
      go_wp2_with fail
      refine (m_mul (vm := vM) (va := vA) (vb := vi) HE.out.1 (HT.out _ HE.out.2) (by repeat first | exact List.mem_cons_self | apply List.mem_cons_of_mem) (by repeat first | exact List.mem_cons_self | apply List.mem_cons_of_mem) (by repeat first | exact List.mem_cons_self | apply List.mem_cons_of_mem) H0.out HLL.out).mono ?_
      rintro e w9 ⟨vp, rfl, hE, hb⟩
      have HE := Lib.hid (And.intro hE (HE.out.2.trans (hb.mono HE.out.2.size)))
      clear hE hb
      have HE := Lib.hid (m_litb 1 w9.heap.size (by decide) (by decide) HE.out rfl)
      go_wp2_with fail
      refine (m_of (vm := vM) (va := (.slice (some ⟨w9.heap.size, 0, none⟩) 1 1)) HE.out.1 (by repeat first | exact List.mem_cons_self | apply List.mem_cons_of_mem) (by repeat first | exact List.mem_cons_self | apply List.mem_cons_of_mem) H0.out HLL.out).mono ?_
      rintro e w10 ⟨vone, rfl, hE, hb⟩
      have HE := Lib.hid (And.intro hE (HE.out.2.trans (hb.mono HE.out.2.size)))
      clear hE hb
      go_wp2_with fail
      refine (n_cmp (v1 := vi) (v2 := vM) HE.out.1 (by repeat first | exact List.mem_cons_self | apply List.mem_cons_of_mem) (by repeat first | exact List.mem_cons_self | apply List.mem_cons_of_mem)).mono ?_
      rintro e w11 ⟨rfl, hE, hb⟩
      have HE := Lib.hid (And.intro hE (HE.out.2.trans (hb.mono HE.out.2.size)))
      clear hE hb
      rw [show cmpI x M = -1 by unfold cmpI; rw [if_pos HF.out.2.1]]
      go_wp2_with fail
      refine (n_same (v1 := vp) (v2 := vone) HE.out.1 (by repeat first | exact List.mem_cons_self | apply List.mem_cons_of_mem) (by repeat first | exact List.mem_cons_self | apply List.mem_cons_of_mem) (by rw [← Nat.mul_mod, Nat.mul_comm]; exact HF.out.2.2)).mono ?_
      rintro e w12 ⟨rfl, hE, hb⟩
      have HE := Lib.hid (And.intro hE (HE.out.2.trans (hb.mono HE.out.2.size)))
      clear hE hb
      go_wp2_with fail
      refine (mworks_any _ (HT.out _ HE.out.2)).mono ?_
      rintro e wz ⟨rfl, hbz⟩
      have HZ := Lib.hid (HE.out.2.trans (hbz.mono HE.out.2.size))
      clear hbz
      go_wp2
      go_ret
      exact ⟨rfl, HZ.out⟩
    · have HF : Hid (Nat.gcd A M ≠ 1) := fun h => hg (by rw [Nat.gcd_comm]; exact h)
      clear hg
      have HE := Lib.hid (And.intro hE (HE.out.2.trans (hb.mono HE.out.2.size)))
      clear hE hb
      go_wp2_with fail
      refine (n_gcd (v1 := vA) (v2 := vM) HE.out.1 (HZZ.out _ HE.out.2) (by repeat first | exact List.mem_cons_self | apply List.mem_cons_of_mem) (by repeat first | exact List.mem_cons_self | apply List.mem_cons_of_mem) ).mono ?_
      rintro e w14 ⟨vg, rfl, hE, hb⟩
      have HE := Lib.hid (And.intro hE (HE.out.2.trans (hb.mono HE.out.2.size)))
      clear hE hb
      go_wp2_with fail
      refine (m_bits (v1 := vg) HE.out.1 (by repeat first | exact List.mem_cons_self | apply List.mem_cons_of_mem)).mono ?_
      rintro e w15 ⟨k15, rfl, hk, hk2, rfl⟩
      have hkk : ((k15 : Int) == 1) = false := by
        have h1 := bits_one hk
        have h2 : 0 < Nat.gcd A M := Nat.gcd_pos_of_pos_right _ H0.out
        have h3 := HF.out
        have : k15 ≠ 1 := by omega
        simp; omega
      clear hk hk2
      go_wp2_with fail
      refine (mworks_any _ (HT.out _ HE.out.2)).mono ?_
      rintro e wz ⟨rfl, hbz⟩
      have HZ := Lib.hid (HE.out.2.trans (hbz.mono HE.out.2.size))
      clear hbz
      go_wp2
      go_ret
      exact ⟨rfl, HZ.out⟩
end Go.Proofs.YtfjhmnbbjknflaaDoor
