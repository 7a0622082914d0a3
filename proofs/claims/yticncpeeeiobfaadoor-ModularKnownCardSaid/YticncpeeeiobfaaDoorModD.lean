import Derived.Test.YticncpeeeiobfaaDoorModC
namespace Go.Proofs.YticncpeeeiobfaaDoor
open Go.RowKit

theorem NEnv.nil {B : Nat} {w : World} {L : List (Value × Nat × Bool)} (h : NEnv B w L) : NEnv B w ((.slice none 0 0, 0, true) :: L) :=
  ⟨h.1, fun p hp => by
    rcases List.mem_cons.1 hp with rfl | hp
    · exact ⟨none, 0, [], rfl, own64_nil _ _, Bd.nil, rfl, Nat.zero_le _, fun _ => Num.nil⟩
    · exact h.2 p hp⟩
/-- Of a number in its form: its list. -/
theorem NEnv.opens {B : Nat} {w : World} {L : List (Value × Nat × Bool)} {v : Value} {n : Nat} (h : NEnv B w L) (hm : (v, n, true) ∈ L) : ∃ a k c, v = .slice a k c ∧ (k = 0 ↔ n = 0) := by
  obtain ⟨a, c, zs, rfl, _, _, _, _, hN⟩ := h.get hm
  refine ⟨a, _, c, rfl, ?_⟩
  have h1 := (hN rfl).len_le (k := 0)
  rw [Nat.pow_zero] at h1
  omega
theorem and_one (a : Nat) (h : a < 18446744073709551616) : bits BinOp.and IntKind.u64 (a : Int) 1 = ((a % 2 : Nat) : Int) := by
  have := u64_and_nat a 1 h (by decide)
  rw [show ((1 : Nat) : Int) = 1 from rfl] at this
  rw [this]
  exact congrArg _ (Nat.and_two_pow_sub_one_eq_mod a 1)
theorem bits_one {n q : Nat} (h : BitsIs n q) : 1 < q ↔ 1 < n := by
  rcases h with ⟨h1, h2⟩ | ⟨h0, h1, h2⟩
  · omega
  · obtain ⟨r, rfl⟩ : ∃ r, q = r + 1 := ⟨q - 1, by omega⟩
    rw [Nat.add_sub_cancel] at h1
    rcases r with _ | s
    · simp at h1 h2; omega
    · rw [Nat.pow_succ] at h1
      have := Nat.two_pow_pos s
      omega
set_option maxHeartbeats 800000 in
theorem m_inverse {B : Nat} {w : World} {L : List (Value × Nat × Bool)} {vm va : Value} {M A : Nat} (hE : NEnv B w L) (hT : Trig w) (g0 : (vm, M, true) ∈ L) (g1 : (va, A, true) ∈ L) (hA : A < M) (hM : M < 18446744073709551616 ^ 64) :
    Calls Tryd.prog 34 #[vm, va] w fun e w' => Below w.heap.size w w' ∧ ((Nat.gcd M A = 1 ∧ ∃ v x, e = .returned (.tuple #[v, .int .i64 0]) ∧ NEnv B w' ((v, x, true) :: L) ∧ x < M ∧ x * A % M = 1 % M) ∨
      (Nat.gcd M A ≠ 1 ∧ e = .returned (.tuple #[.slice none 0 0, .int .i64 40]) ∧ NEnv B w' L)) := by
  have HM : Hid ((vm, M, true) ∈ L ∧ (va, A, true) ∈ L) := ⟨g0, g1⟩
  have HL := Lib.hid (lim64 hM)
  have HAM := Lib.hid hA
  have HT := Lib.hid (fun (W : World) (h : Below w.heap.size w W) => hT.below h)
  have hlit := (m_lit 1 (by decide) (by decide) hE).nil
  have hal : Below w.heap.size w (w.alloc (.cells #[.int .u64 (1 : Nat)] 23)) := (Below.refl _ _).alloc (Nat.le_refl _) _
  have HE := Lib.hid (And.intro hlit hal)
  clear hE hlit hal g0 g1 hA hM hT
  go_enter Tryd.func34, Tryd.ntmps34
  go_wp2
  go_loopg [6, 7, 8, 9] A (fun gk v6 v7 v8 v9 wr => ∃ Ab Be aF bF : Nat, Be ≤ gk ∧ Hid (NEnv B wr ((v6, Ab, true) :: (v7, Be, true) :: (v8, aF, true) :: (v9, bF, true) :: L)) ∧ Hid (Below w.heap.size w wr) ∧
    Hid (Lv aF A Ab M ∧ Lv bF A Be M ∧ Nat.gcd Ab Be = Nat.gcd M A ∧ aF < M ∧ (0 < Be → bF < M) ∧ Ab ≤ M ∧ Be < M ∧ 0 < Ab))
  case atStart =>
    refine ⟨M, A, 0, 1, Nat.le_refl _, HE.out.1.sub fun p hp => ?_, HE.out.2, Lv.zero _ _, Lv.one _ _, rfl, by have := HAM.out; omega, fun h => by have := HAM.out; omega, Nat.le_refl _, HAM.out, by have := HAM.out; omega⟩
    simp only [List.mem_cons] at hp ⊢
    rcases hp with h | h | h | h | h
    · subst h; exact .inr (.inr HM.out.1)
    · subst h; exact .inr (.inr HM.out.2)
    · exact .inl h
    · exact .inr (.inl h)
    · exact .inr (.inr h)
  case round =>
    obtain ⟨Ab, Be, aF, bF, hgk, HN, HB, HF⟩ := hrel
    obtain ⟨a7, k7, c7, rfl, h7⟩ := HN.out.opens (v := u7) (n := Be) (by repeat first | exact List.mem_cons_self | apply List.mem_cons_of_mem)
    by_cases h0 : k7 = 0
    · subst h0
      have HZ := Lib.hid (h7.1 rfl)
      clear h7 hgk
      go_wp2_with fail
      refine (m_bits (v1 := u6) HN.out (by repeat first | exact List.mem_cons_self | apply List.mem_cons_of_mem)).mono ?_
      rintro e w2 ⟨q, rfl, hq, -, rfl⟩
      have hg := HF.out.2.2.1
      rw [HZ.out, Nat.gcd_zero_right] at hg
      have hpos := HF.out.2.2.2.2.2.2.2
      by_cases hone : 1 < Ab
      · have hq1 : decide ((1 : Int) < (q : Int)) = true := by rw [decide_eq_true_iff]; have := (bits_one hq).2 hone; omega
        have HG : Hid (Nat.gcd M A ≠ 1) := by show _ ≠ _; omega
        clear hq hg hpos hone
        go_wp2
        go_ret2
        exact ⟨HB.out, .inr ⟨HG.out, rfl, HN.out.drop1.drop1.drop1.drop1⟩⟩
      · have hq1 : decide ((1 : Int) < (q : Int)) = false := by rw [decide_eq_false_iff_not]; intro h; exact hone ((bits_one hq).1 (by omega))
        have HG : Hid (Nat.gcd M A = 1 ∧ Ab = 1) := ⟨by omega, by omega⟩
        clear hq hg hpos hone
        go_wp2
        go_ret2
        refine ⟨HB.out, .inl ⟨HG.out.1, u8, aF, rfl, HN.out.sub fun p hp => ?_, HF.out.2.2.2.1, ?_⟩⟩
        · simp only [List.mem_cons] at hp ⊢
          rcases hp with h | h
          · exact .inr (.inr (.inl h))
          · exact .inr (.inr (.inr (.inr h)))
        · have h1 := HF.out.1.mod
          rw [HG.out.2] at h1
          exact h1
    · have hqn : 0 < k7 := by omega
      have hq : decide (0 < k7) = true := by rw [decide_eq_true_iff]; exact hqn
      have hbe : 0 < Be := by
        refine Nat.pos_of_ne_zero fun h => h0 (h7.2 h)
      have HBE := Lib.hid hbe
      have HGK := Lib.hid hgk
      clear h7 hgk h0 hbe
      go_wp2_with fail
      refine (n_div (v1 := u6) (v2 := .slice a7 k7 c7) HN.out (by repeat first | exact List.mem_cons_self | apply List.mem_cons_of_mem) (by repeat first | exact List.mem_cons_self | apply List.mem_cons_of_mem) HBE.out).mono ?_
      rintro e w2 ⟨vq, vr, rfl, hE, hb⟩
      have HN2 := Lib.hid (And.intro hE (HB.out.trans (hb.mono HB.out.size)))
      clear hE hb
      go_wp2_with fail
      refine (m_product (vm := vm) (va := vq) (vb := u9) HN2.out.1 (HT.out _ HN2.out.2) (by have hmm := HM.out.1; repeat first | exact List.mem_cons_self | exact hmm | apply List.mem_cons_of_mem) (by repeat first | exact List.mem_cons_self | apply List.mem_cons_of_mem) (by repeat first | exact List.mem_cons_self | apply List.mem_cons_of_mem) (by have := HAM.out; omega) (Nat.lt_of_le_of_lt (Nat.mul_le_mul (Nat.le_trans (Nat.div_le_self _ _) HF.out.2.2.2.2.2.1) (Nat.le_of_lt (HF.out.2.2.2.2.1 HBE.out))) HL.out.2)).mono ?_
      rintro e w3 ⟨vp, rfl, hE, hb⟩
      have HN3 := Lib.hid (And.intro hE (HN2.out.2.trans (hb.mono HN2.out.2.size)))
      clear hE hb
      go_wp2_with fail
      refine (m_difference (vm := vm) (va := u8) (vb := vp) HN3.out.1 (by have hmm := HM.out.1; repeat first | exact List.mem_cons_self | exact hmm | apply List.mem_cons_of_mem) (by repeat first | exact List.mem_cons_self | apply List.mem_cons_of_mem) (by repeat first | exact List.mem_cons_self | apply List.mem_cons_of_mem) HF.out.2.2.2.1 (Nat.mod_lt _ (by have := HAM.out; omega)) HL.out.1).mono ?_
      rintro e w4 ⟨vd, rfl, hE, hb⟩
      have HN4 := Lib.hid (And.intro hE (HN3.out.2.trans (hb.mono HN3.out.2.size)))
      clear hE hb
      go_wp2
      go_roundg (Ab % Be)
      case rel =>
        obtain ⟨f1, f2, f3, f4, f5, f6, f7, f8⟩ := HF.out
        have hbe := HBE.out
        refine ⟨Be, Ab % Be, bF, mdiff aF (Ab / Be * bF % M) M, Nat.le_refl _, HN4.out.1.sub fun p hp => ?_, HN4.out.2, f2, f1.step f2 (by rw [Nat.mul_comm]; exact (Nat.div_add_mod ..).symm) f4, ?_, f5 hbe, fun _ => mdiff_lt f4 (Nat.mod_lt _ (by omega)), Nat.le_of_lt f7, Nat.lt_trans (Nat.mod_lt _ hbe) f7, hbe⟩
        · simp only [List.mem_cons] at hp ⊢
          rcases hp with h | h | h | h | h
          · subst h; simp
          · subst h; simp
          · subst h; simp
          · subst h; simp
          · simp [h]
        · rw [← f3, Nat.gcd_comm, ← Nat.gcd_rec, Nat.gcd_comm]
      case measure =>
        have h1 := Nat.mod_lt Ab HBE.out
        have h2 := HGK.out
        omega
theorem bits_limb {ns : List Nat} {N k ln j : Nat} (h : BitsIs N k) (hb : Bd ns) (hv : val ns = N) (hl : ns.length = ln) (hj : j < k) : j / 64 < ln := by
  have h1 := val_lt hb
  rw [hv, hl, show (18446744073709551616 : Nat) = 2 ^ 64 by decide, ← Nat.pow_mul] at h1
  rcases h with ⟨_, h2⟩ | ⟨h0, h2, _⟩
  · omega
  · have := (Nat.pow_lt_pow_iff_right (by decide : 1 < 2)).1 (Nat.lt_of_le_of_lt h2 h1)
    omega
set_option maxHeartbeats 800000 in
set_option maxRecDepth 100000 in
theorem m_power {B : Nat} {w : World} {L : List (Value × Nat × Bool)} {vm va vn : Value} {M A N : Nat} {km ka kn : Bool} (hE : NEnv B w L) (hT : Trig w) (g0 : (vm, M, km) ∈ L) (g1 : (va, A, ka) ∈ L) (g2 : (vn, N, kn) ∈ L) (hp : 0 < M) (hA : A < M) (hM : M < 18446744073709551616 ^ 64) :
    Calls Tryd.prog 44 #[vm, va, vn] w fun e w' => ∃ v, e = .returned v ∧ NEnv B w' ((v, A ^ N % M, true) :: L) ∧ Below w.heap.size w w' := by
  have HBITS := Lib.hid (fun (W : World) (L' : List (Value × Nat × Bool)) (h : NEnv B W L') (hm : (vn, N, kn) ∈ L') => m_bits h hm)
  obtain ⟨an, cn, ns, hvn, ho, bn, hvl, hl128, -⟩ := hE.get g2
  subst hvn
  have hr := (own64.rd ho).2
  have HR := Lib.hid (fun (W : World) (h : Below w.heap.size w W) => hr.below h)
  generalize hln : ns.length = ln at *
  have HLN := Lib.hid hln
  have HBN := Lib.hid bn
  have HVL := Lib.hid hvl
  have HM : Hid ((vm, M, km) ∈ L ∧ (va, A, ka) ∈ L ∧ (.slice an ln cn, N, kn) ∈ L) := ⟨g0, g1, g2⟩
  have HL := Lib.hid (lim64 hM)
  have HAM := Lib.hid (And.intro hp hA)
  have HT := Lib.hid (fun (W : World) (h : Below w.heap.size w W) => hT.below h)
  have hlit := m_lit 1 (by decide) (by decide) hE
  have hal : Below w.heap.size w (w.alloc (.cells #[.int .u64 (1 : Nat)] 23)) := (Below.refl _ _).alloc (Nat.le_refl _) _
  have HE := Lib.hid (And.intro hlit hal)
  clear hE hlit hal g0 g1 g2 hp hA hM hT ho hr hln bn hvl hl128
  go_enter Tryd.func44, Tryd.ntmps44
  go_wp2
  refine wp_scope_jumps 0 (fun a' w' => ∃ (k : Nat) (pv u3 u4 u5 u6 u9 u10 u11 u12 u13 u14 u15 u16 u17 u18 u19 u20 u21 u22 u23 u24 u25 u26 u27 u28 u29 u30 u31 u32 u33 u34 u35 u36 : Value), a' = { tmps := #[vm, va, .slice an ln cn, u3, u4, u5, u6, pv, .int .i64 (k : Nat), u9, u10, u11, u12, u13, u14, u15, u16, u17, u18, u19, u20, u21, u22, u23, u24, u25, u26, u27, u28, u29, u30, u31, u32, u33, u34, u35, u36], defers := [] } ∧ k ≤ 8192 ∧ Hid (∀ j, j < k → j / 64 < ln) ∧ Hid (NEnv B w' ((pv, A ^ (N / 2 ^ k) % M, true) :: L) ∧ Below w.heap.size w w')) (fun a' _ => (intOf (a'.tmps.getD 8 undef)).toNat) rfl ?_ ?_
  · go_wp2_with fail
    refine (m_left (vm := vm) HE.out.1 (by have hmm := HM.out.1; repeat first | exact List.mem_cons_self | exact hmm | apply List.mem_cons_of_mem) (by repeat first | exact List.mem_cons_self | apply List.mem_cons_of_mem) HAM.out.1).mono ?_
    rintro e w2 ⟨pv, rfl, hE, hb⟩
    have HE2 := Lib.hid (And.intro hE.drop2 (HE.out.2.trans (hb.mono HE.out.2.size)))
    clear hE hb
    go_wp2_with fail
    refine (HBITS.out _ _ HE2.out.1 (List.mem_cons_of_mem _ HM.out.2.2)).mono ?_
    rintro e w3 ⟨k, rfl, hk, hk8, rfl⟩
    have HKL : Hid (∀ j, j < k → j / 64 < ln) := fun j hj => bits_limb hk HBN.out HVL.out HLN.out hj
    have hstart : A ^ (N / 2 ^ k) % M = 1 % M := by rw [Nat.div_eq_of_lt (bits_lt hk), Nat.pow_zero]
    have HE3 : Hid (NEnv B w2 ((pv, A ^ (N / 2 ^ k) % M, true) :: L) ∧ Below w.heap.size w w2) := by show _ ∧ _; rw [hstart]; exact HE2.out
    clear hk HE HE2 hstart
    go_wp2
    go_step3
    have HK := HKL
    have HS := HE3
    have hk := hk8
    clear HKL HE3 hk8
    by_cases hk0 : k = 0
    · subst hk0
      go_wp2
      simp only [Exit.jump]
      go_ret
      refine ⟨_, rfl, ?_, HS.out.2⟩
      have h1 := HS.out.1
      rw [Nat.pow_zero, Nat.div_one] at h1
      exact h1
    · obtain ⟨j, rfl⟩ : ∃ j, k = j + 1 := ⟨k - 1, by omega⟩
      have hq0 : (((j + 1 : Nat) : Int) == 0) = false := by simp; omega
      have HJ := Lib.hid (And.intro hk (HK.out j (by omega)))
      clear hk0
      go_wp2_with fail
      refine (m_product (vm := vm) (va := pv) (vb := pv) HS.out.1 (HT.out _ HS.out.2) (by have hmm := HM.out.1; repeat first | exact List.mem_cons_self | exact hmm | apply List.mem_cons_of_mem) (by repeat first | exact List.mem_cons_self | apply List.mem_cons_of_mem) (by repeat first | exact List.mem_cons_self | apply List.mem_cons_of_mem) HAM.out.1 (Nat.lt_of_le_of_lt (Nat.mul_le_mul (Nat.le_of_lt (Nat.mod_lt _ HAM.out.1)) (Nat.le_of_lt (Nat.mod_lt _ HAM.out.1))) HL.out.2)).mono ?_
      rintro e w4 ⟨p2, rfl, hE, hb⟩
      rw [pw_sq] at hE
      have HS2 := Lib.hid (And.intro hE.drop2 (HS.out.2.trans (hb.mono HS.out.2.size)))
      clear hE hb hq0
      obtain ⟨b, off, rfl⟩ := (HR.out _ HS2.out.2).isAt (by have h1 := HLN.out; have h2 := HJ.out.2; omega)
      have hc := (HR.out _ HS2.out.2).cell (i := j / 64) (by have h1 := HLN.out; have h2 := HJ.out.2; omega)
      have hx := HBN.out.at0 (j / 64)
      have HV := Lib.hid (limb_bit HBN.out j (by have h1 := HLN.out; have h2 := HJ.out.2; omega))
      generalize at0 ns (j / 64) = x at *
      have hx2 : x / 2 ^ (j % 64) < 18446744073709551616 := Nat.lt_of_le_of_lt (Nat.div_le_self _ _) hx
      have HBT : Hid (bits BinOp.and IntKind.u64 ((x : Int) / 2 ^ (j % 64)) 1 = ((N / 2 ^ j % 2 : Nat) : Int)) := by
        show _ = _
        rw [← HVL.out, ← HV.out, ← and_one _ hx2, Int.natCast_ediv, Int.natCast_pow]; rfl
      clear hx2
      have hjl := HJ.out.2
      have hj8 : j ≤ 8192 := by have := HJ.out.1; omega
      by_cases hbit : N / 2 ^ j % 2 = 0
      · have hbt : (bits BinOp.and IntKind.u64 ((x : Int) / 2 ^ (j % 64)) 1 == 0) = true := by rw [HBT.out, hbit]; rfl
        have HEN : Hid (NEnv B w4 ((p2, A ^ (N / 2 ^ j) % M, true) :: L) ∧ Below w.heap.size w w4) := ⟨by
          have h1 := half_step N j
          rw [hbit, Nat.add_zero] at h1
          rw [h1]
          exact HS2.out.1, HS2.out.2⟩
        clear HS2 HBT HV hbit
        go_wp2
        go_step3
        exact ⟨rfl, j, p2, _, _, _, _, _, _, _, _, _, _, _, _, _, _, _, _, _, _, _, _, _, _, _, _, _, _, _, _, _, _, _, _, rfl, by have := HJ.out.1; omega, fun i hi => HK.out i (by omega), HEN.out⟩
      · have hbt : (bits BinOp.and IntKind.u64 ((x : Int) / 2 ^ (j % 64)) 1 == 0) = false := by rw [HBT.out, show N / 2 ^ j % 2 = 1 by omega]; rfl
        have HBIT : Hid (N / 2 ^ j % 2 = 1) := by show _ = _; omega
        clear HBT HV hbit
        go_wp2_with fail
        refine (m_product (vm := vm) (va := p2) (vb := va) HS2.out.1 (HT.out _ HS2.out.2) (by have hmm := HM.out.1; repeat first | exact List.mem_cons_self | exact hmm | apply List.mem_cons_of_mem) (by repeat first | exact List.mem_cons_self | apply List.mem_cons_of_mem) (by have hmm := HM.out.2.1; repeat first | exact List.mem_cons_self | exact hmm | apply List.mem_cons_of_mem) HAM.out.1 (Nat.lt_of_le_of_lt (Nat.mul_le_mul (Nat.le_of_lt (Nat.mod_lt _ HAM.out.1)) (Nat.le_of_lt HAM.out.2)) HL.out.2)).mono ?_
        rintro e w5 ⟨p3, rfl, hE, hb⟩
        have HEN : Hid (NEnv B w5 ((p3, A ^ (N / 2 ^ j) % M, true) :: L) ∧ Below w.heap.size w w5) := ⟨by
          have h1 := half_step N j
          rw [HBIT.out] at h1
          rw [h1, ← pw_mul, Nat.mod_eq_of_lt HAM.out.2]
          exact hE.drop2, HS2.out.2.trans (hb.mono HS2.out.2.size)⟩
        clear HS2 hE hb
        go_wp2
        go_step3
        exact ⟨rfl, j, p3, _, _, _, _, _, _, _, _, _, _, _, _, _, _, _, _, _, _, _, _, _, _, _, _, _, _, _, _, _, _, _, _, rfl, by have := HJ.out.1; omega, fun i hi => HK.out i (by omega), HEN.out⟩

  · rintro a' w' ⟨k, pv, u3, u4, u5, u6, u9, u10, u11, u12, u13, u14, u15, u16, u17, u18, u19, u20, u21, u22, u23, u24, u25, u26, u27, u28, u29, u30, u31, u32, u33, u34, u35, u36, rfl, hk, HK, HS⟩
    by_cases hk0 : k = 0
    · subst hk0
      go_wp2
      simp only [Exit.jump]
      go_ret
      refine ⟨_, rfl, ?_, HS.out.2⟩
      have h1 := HS.out.1
      rw [Nat.pow_zero, Nat.div_one] at h1
      exact h1
    · obtain ⟨j, rfl⟩ : ∃ j, k = j + 1 := ⟨k - 1, by omega⟩
      have hq0 : (((j + 1 : Nat) : Int) == 0) = false := by simp; omega
      have HJ := Lib.hid (And.intro hk (HK.out j (by omega)))
      clear hk0
      go_wp2_with fail
      refine (m_product (vm := vm) (va := pv) (vb := pv) HS.out.1 (HT.out _ HS.out.2) (by have hmm := HM.out.1; repeat first | exact List.mem_cons_self | exact hmm | apply List.mem_cons_of_mem) (by repeat first | exact List.mem_cons_self | apply List.mem_cons_of_mem) (by repeat first | exact List.mem_cons_self | apply List.mem_cons_of_mem) HAM.out.1 (Nat.lt_of_le_of_lt (Nat.mul_le_mul (Nat.le_of_lt (Nat.mod_lt _ HAM.out.1)) (Nat.le_of_lt (Nat.mod_lt _ HAM.out.1))) HL.out.2)).mono ?_
      rintro e w4 ⟨p2, rfl, hE, hb⟩
      rw [pw_sq] at hE
      have HS2 := Lib.hid (And.intro hE.drop2 (HS.out.2.trans (hb.mono HS.out.2.size)))
      clear hE hb hq0
      obtain ⟨b, off, rfl⟩ := (HR.out _ HS2.out.2).isAt (by have h1 := HLN.out; have h2 := HJ.out.2; omega)
      have hc := (HR.out _ HS2.out.2).cell (i := j / 64) (by have h1 := HLN.out; have h2 := HJ.out.2; omega)
      have hx := HBN.out.at0 (j / 64)
      have HV := Lib.hid (limb_bit HBN.out j (by have h1 := HLN.out; have h2 := HJ.out.2; omega))
      generalize at0 ns (j / 64) = x at *
      have hx2 : x / 2 ^ (j % 64) < 18446744073709551616 := Nat.lt_of_le_of_lt (Nat.div_le_self _ _) hx
      have HBT : Hid (bits BinOp.and IntKind.u64 ((x : Int) / 2 ^ (j % 64)) 1 = ((N / 2 ^ j % 2 : Nat) : Int)) := by
        show _ = _
        rw [← HVL.out, ← HV.out, ← and_one _ hx2, Int.natCast_ediv, Int.natCast_pow]; rfl
      clear hx2
      have hjl := HJ.out.2
      have hj8 : j ≤ 8192 := by have := HJ.out.1; omega
      by_cases hbit : N / 2 ^ j % 2 = 0
      · have hbt : (bits BinOp.and IntKind.u64 ((x : Int) / 2 ^ (j % 64)) 1 == 0) = true := by rw [HBT.out, hbit]; rfl
        have HEN : Hid (NEnv B w4 ((p2, A ^ (N / 2 ^ j) % M, true) :: L) ∧ Below w.heap.size w w4) := ⟨by
          have h1 := half_step N j
          rw [hbit, Nat.add_zero] at h1
          rw [h1]
          exact HS2.out.1, HS2.out.2⟩
        clear HS2 HBT HV hbit
        go_wp2
        go_step3
        refine ⟨rfl, ⟨j, p2, _, _, _, _, _, _, _, _, _, _, _, _, _, _, _, _, _, _, _, _, _, _, _, _, _, _, _, _, _, _, _, _, rfl, by have := HJ.out.1; omega, fun i hi => HK.out i (by omega), HEN.out⟩, ?_⟩
        simp [intOf]
      · have hbt : (bits BinOp.and IntKind.u64 ((x : Int) / 2 ^ (j % 64)) 1 == 0) = false := by rw [HBT.out, show N / 2 ^ j % 2 = 1 by omega]; rfl
        have HBIT : Hid (N / 2 ^ j % 2 = 1) := by show _ = _; omega
        clear HBT HV hbit
        go_wp2_with fail
        refine (m_product (vm := vm) (va := p2) (vb := va) HS2.out.1 (HT.out _ HS2.out.2) (by have hmm := HM.out.1; repeat first | exact List.mem_cons_self | exact hmm | apply List.mem_cons_of_mem) (by repeat first | exact List.mem_cons_self | apply List.mem_cons_of_mem) (by have hmm := HM.out.2.1; repeat first | exact List.mem_cons_self | exact hmm | apply List.mem_cons_of_mem) HAM.out.1 (Nat.lt_of_le_of_lt (Nat.mul_le_mul (Nat.le_of_lt (Nat.mod_lt _ HAM.out.1)) (Nat.le_of_lt HAM.out.2)) HL.out.2)).mono ?_
        rintro e w5 ⟨p3, rfl, hE, hb⟩
        have HEN : Hid (NEnv B w5 ((p3, A ^ (N / 2 ^ j) % M, true) :: L) ∧ Below w.heap.size w w5) := ⟨by
          have h1 := half_step N j
          rw [HBIT.out] at h1
          rw [h1, ← pw_mul, Nat.mod_eq_of_lt HAM.out.2]
          exact hE.drop2, HS2.out.2.trans (hb.mono HS2.out.2.size)⟩
        clear HS2 hE hb
        go_wp2
        go_step3
        refine ⟨rfl, ⟨j, p3, _, _, _, _, _, _, _, _, _, _, _, _, _, _, _, _, _, _, _, _, _, _, _, _, _, _, _, _, _, _, _, _, rfl, by have := HJ.out.1; omega, fun i hi => HK.out i (by omega), HEN.out⟩, ?_⟩
        simp [intOf]
end Go.Proofs.YticncpeeeiobfaaDoor
