import Derived.Test.YtaookoejdnkkoaaGreatDoorKMo
namespace Go.Proofs.YtaookoejdnkkoaaGreatDoor
open Go.RowKit

/-- A list that can be read, told by its worth. -/
def Raw (w : World) (v : Value) (n : Nat) : Prop := ∃ a c zs, v = .slice a zs.length c ∧ zs.length ≤ c ∧ (a = none → c = 0) ∧ Rd .u64 w a zs ∧ Bd zs ∧ val zs = n ∧ zs.length ≤ 1000
theorem Raw.below {w w' : World} {v : Value} {n : Nat} (h : Raw w v n) (hb : Below w.heap.size w w') : Raw w' v n := by
  obtain ⟨a, c, zs, h1, h2, h3, h4, h5⟩ := h
  exact ⟨a, c, zs, h1, h2, h3, h4.below hb, h5⟩
theorem Raw.sl {w : World} {v : Value} {n : Nat} (h : Raw w v n) : ∃ a k c, v = .slice a k c := by
  obtain ⟨a, c, zs, rfl, _⟩ := h
  exact ⟨a, _, c, rfl⟩
theorem fl_iff {zs : List Nat} {k : Nat} (h : Bd zs) : fl zs ≤ k ↔ val zs < 18446744073709551616 ^ k := by
  have h1 := (num_fm h).len_le (k := k)
  rw [fm_length] at h1
  exact h1
theorem raw_of_own {w : World} {B n : Nat} {v : Value} {zs : List Nat} (ho : own64 w B v zs) (hN : Num zs n) (hn : n < 18446744073709551616 ^ 1000) : Raw w v n := by
  obtain ⟨a, c, rfl, _⟩ := own64.form ho
  exact ⟨a, c, zs, rfl, (own64.room ho).1, (own64.room ho).2, (own64.rd ho).2, hN.bd, hN.vl, (hN.len_le (k := 1000)).2 hn⟩
/-- A list and an error's number. -/
def MPost (Q : Int → List Nat → Prop) (w : World) (e : Ending) (w' : World) : Prop :=
  Below w.heap.size w w' ∧ ∃ a c k zs, e = .returned (.tuple #[.slice a zs.length c, .int .i64 k]) ∧ own64 w' w.heap.size (.slice a zs.length c) zs ∧ Q k zs
def ModTells (P : Prop) (M X : Nat) (k : Int) (zs : List Nat) : Prop := (¬ P ∧ k = 3 ∧ zs = []) ∨ (P ∧ M = 0 ∧ k = 11 ∧ zs = []) ∨ (P ∧ 0 < M ∧ k = 0 ∧ Num zs X)
theorem ModTells.one {P : Prop} {M X : Nat} {k k' : Int} {zs zs' : List Nat} (h : ModTells P M X k zs) (h' : ModTells P M X k' zs') : k = k' ∧ zs = zs' := by
  rcases h with ⟨p, rfl, rfl⟩ | ⟨p, q, rfl, rfl⟩ | ⟨p, q, rfl, t⟩ <;> rcases h' with ⟨p', rfl, rfl⟩ | ⟨p', q', rfl, rfl⟩ | ⟨p', q', rfl, t'⟩
  all_goals first | exact ⟨rfl, rfl⟩ | exact ⟨rfl, t.unique t'⟩ | exact absurd p' p | exact absurd p p' | (exfalso; omega)
/-- What is known of a result is what is told of it. -/
theorem MPost.of_env {Q : Int → List Nat → Prop} {w w' : World} {L : List (Value × Nat × Bool)} {v : Value} {n : Nat} {k : Int} (hb : Below w.heap.size w w') (hE : NEnv w.heap.size w' L) (hm : (v, n, true) ∈ L) (hQ : ∀ zs, Num zs n → Q k zs) : MPost Q w (.returned (.tuple #[v, .int .i64 k])) w' := by
  obtain ⟨a, c, zs, rfl, ho, _, _, _, hN⟩ := hE.get hm
  exact ⟨hb, a, c, k, zs, rfl, ho, hQ _ (hN rfl)⟩
theorem MPost.none {Q : Int → List Nat → Prop} {w w' : World} {k : Int} (hb : Below w.heap.size w w') (hQ : Q k []) : MPost Q w (.returned (.tuple #[.slice none 0 0, .int .i64 k])) w' :=
  ⟨hb, Option.none, 0, k, [], rfl, own64_nil _ _, hQ⟩
theorem g_bits {w : World} {v : Value} {n : Nat} (h : Raw w v n) :
    Calls Tryz.prog 109 #[v] w fun e w' => ∃ k : Nat, e = .returned (.int .i64 (k : Nat)) ∧ BitsIs n k ∧ k ≤ 64000 ∧ w = w' := by
  obtain ⟨a, c, zs, rfl, h1, _, hr, hb, rfl, hl⟩ := h
  refine (bits_any a _ c zs w rfl (by omega) h1 hr hb).mono ?_
  rintro e w' ⟨⟨k, rfl, hk, hk2⟩, rfl⟩
  have f1 := (fl_spec zs).1
  exact ⟨k, rfl, hk, by omega, rfl⟩
theorem g_left {B : Nat} {w : World} {L : List (Value × Nat × Bool)} {vm va : Value} {M A : Nat} {km : Bool} (hE : NEnv B w L) (h1 : (vm, M, km) ∈ L) (ha : Raw w va A) (hA : A < 18446744073709551616 ^ 128) (h0 : 0 < M) :
    Calls Tryz.prog 118 #[vm, va] w fun e w' => ∃ v, e = .returned v ∧ NEnv B w' ((v, A % M, true) :: L) ∧ Below w.heap.size w w' := by
  obtain ⟨b, cb, ys, rfl, ho2, hb2, rfl, hl2, -⟩ := hE.get h1
  obtain ⟨a, ca, xs, rfl, hc1, hn1, hr1, hb1, rfl, hl1⟩ := ha
  have hC := quo_all a b _ _ ca cb xs ys w rfl rfl (by omega) (by omega) hc1 (own64.room ho2).1 hn1 hr1 (own64.rd ho2).2 hb1 hb2
  have hf1 := (fl_iff (k := 128) hb1).2 hA
  have HC : Hid (Calls Tryz.prog 165 #[.slice a xs.length ca, .slice b ys.length cb] w fun e w' => ∃ q v, e = .returned (.tuple #[q, v, .int .i64 0]) ∧ NEnv B w' ((v, val xs % val ys, true) :: L) ∧ Below w.heap.size w w') := hC.mono (by
    rintro e w' ⟨hb, hor⟩
    have f2 := fl_le_128 hl2
    rcases hor with ⟨h, _⟩ | ⟨_, _, h, _⟩ | ⟨_, _, _, q, r, qs, rs, rfl, oq, or, nq, nr, _⟩
    · omega
    · omega
    · exact ⟨q, r, rfl, hE.add hb (isn_of_num (own64.low or hE.1) nr (Nat.lt_of_le_of_lt (Nat.mod_le _ _) hA)), hb⟩)
  clear hC hf1 hE h1 ho2 hb2 hc1 hn1 hr1 hb1 hA h0 hl1 hl2
  generalize val xs % val ys = X at *
  generalize xs.length = la at *
  generalize ys.length = lb at *
  go_enter Tryz.func118, Tryz.ntmps118
  go_wp2_with fail
  refine HC.out.mono ?_
  rintro e w2 ⟨q, v, rfl, hE, hb⟩
  have HE := Lib.hid (And.intro hE hb)
  clear hE hb
  go_wp2
  go_ret
  exact ⟨v, rfl, HE.out⟩
theorem bits_fits {n k m : Nat} (h : BitsIs n k) : k ≤ 64 * m ↔ n < 18446744073709551616 ^ m := by
  rw [show (18446744073709551616 : Nat) = 2 ^ 64 by decide, ← Nat.pow_mul]
  rcases h with ⟨h1, h2⟩ | ⟨h0, h1, h2⟩
  · have := Nat.two_pow_pos (64 * m); omega
  · constructor
    · intro h; exact Nat.lt_of_lt_of_le h2 (Nat.pow_le_pow_right (by decide) h)
    · intro h
      have := (Nat.pow_lt_pow_iff_right (by decide : 1 < 2)).1 (Nat.lt_of_le_of_lt h1 h)
      omega
theorem bits_zero {n k : Nat} (h : BitsIs n k) : k = 0 ↔ n = 0 := by
  rcases h with ⟨h1, h2⟩ | ⟨h0, h1, h2⟩
  · omega
  · have := Nat.two_pow_pos (k - 1); omega
set_option exponentiation.threshold 10000 in
theorem lim_le128 : (18446744073709551616 : Nat) ^ 64 ≤ 18446744073709551616 ^ 128 := by decide +kernel
set_option maxHeartbeats 2000000 in
theorem g_check {w : World} {vm : Value} {M : Nat} (NN : Nat → Nat) (g off n c : Nat) (h1 : Raw w vm M) (hn : n ≤ 2) (hc : ∀ i, i < n → ∃ v, w.cell? ⟨g, off + i, none⟩ = some v ∧ Raw w v (NN i)) :
    Calls Tryz.prog 116 #[vm, .slice (some ⟨g, off, none⟩) n c] w fun e w' => Below w.heap.size w w' ∧
      ((¬ ((∀ i, i < n → NN i < 18446744073709551616 ^ 128) ∧ M < 18446744073709551616 ^ 64) ∧ e = .returned (.tuple #[.slice none 0 0, .int .i64 3])) ∨
       (((∀ i, i < n → NN i < 18446744073709551616 ^ 128) ∧ M < 18446744073709551616 ^ 64) ∧ M = 0 ∧ e = .returned (.tuple #[.slice none 0 0, .int .i64 11])) ∨
       (((∀ i, i < n → NN i < 18446744073709551616 ^ 128) ∧ M < 18446744073709551616 ^ 64) ∧ 0 < M ∧ ∃ v, e = .returned (.tuple #[v, .int .i64 0]) ∧ ∀ B, B ≤ w.heap.size → NEnv B w' [(v, M, true)])) := by
  have HC := Lib.hid hc
  have HB := Lib.hid (g_bits h1)
  obtain ⟨am, cm, ms, rfl, hm1, hm2, hm3, hm4, hm5, hm6⟩ := h1
  have HN := Lib.hid (norm_any am _ cm ms w rfl (by omega) hm1 hm2 hm3 hm4)
  have HFL := Lib.hid (fl_iff (k := 128) hm4)
  have HVL := Lib.hid hm5
  clear hc hm1 hm2 hm3 hm4 hm5 hm6
  generalize hml : ms.length = lm at *
  clear hml
  go_enter Tryz.func116, Tryz.ntmps116
  go_wp2
  go_loopw [11] (fun i wr => ∃ k : Nat, k ≤ n ∧ i = .int .i64 k ∧ w = wr ∧ Hid (∀ i, i < k → NN i < 18446744073709551616 ^ 128)) (fun i _ => n - (intOf i).toNat)
  case atStart => exact ⟨0, Nat.zero_le _, rfl, rfl, fun i hi => absurd hi (Nat.not_lt_zero _)⟩
  case round =>
    obtain ⟨k, hk, rfl, rfl, HF⟩ := hrel
    by_cases hlt : k < n
    · obtain ⟨v, hcell, hin⟩ := HC.out k hlt
      have HV := Lib.hid hin
      clear hin
      have hq1 : decide (k < n) = true := by rw [decide_eq_true_iff]; omega
      go_wp2_with fail
      refine (g_bits HV.out).mono ?_
      rintro e w' ⟨q, rfl, hq, hq8, rfl⟩
      have hfit := bits_fits (m := 128) hq
      clear hcell hq
      by_cases hbig : 8192 < q
      · have hq2 : decide ((8192 : Int) < (q : Int)) = true := by rw [decide_eq_true_iff]; omega
        have HP : Hid (¬ ((∀ i, i < n → NN i < 18446744073709551616 ^ 128) ∧ M < 18446744073709551616 ^ 64)) := fun h => by have h2 := hfit.2 (h.1 k hlt); omega
        clear hfit hbig
        go_wp2
        go_ret2
        exact ⟨Below.refl _ _, .inl ⟨HP.out, rfl⟩⟩
      · have hq2 : decide ((8192 : Int) < (q : Int)) = false := by rw [decide_eq_false_iff_not]; omega
        have HF2 : Hid (∀ i, i < k + 1 → NN i < 18446744073709551616 ^ 128) := fun i hi => by
          rcases Nat.lt_or_ge i k with h | h
          · exact HF.out i h
          · obtain rfl : i = k := by omega
            exact hfit.1 (by omega)
        clear hfit hbig
        go_wp2
        go_roundw
        case rel => exact ⟨k + 1, by omega, by go_num, by first | rfl | trivial, HF2.out⟩
        case measure => simp [intOf]; omega
    · obtain rfl : k = n := by omega
      have hq1 : decide (k < k) = false := by simp
      go_wp2_with fail
      refine HB.out.mono ?_
      rintro e w' ⟨q, rfl, hb, hq8, rfl⟩
      have hfit := bits_fits (m := 64) hb
      have hz := bits_zero hb
      by_cases hbig : 4096 < q
      · have hq5 : decide ((4096 : Int) < (q : Int)) = true := by rw [decide_eq_true_iff]; omega
        have HP : Hid (¬ ((∀ i, i < k → NN i < 18446744073709551616 ^ 128) ∧ M < 18446744073709551616 ^ 64)) := fun h => by have h2 := hfit.2 h.2; omega
        clear hfit hbig hz hb
        go_wp2
        go_ret2
        exact ⟨Below.refl _ _, .inl ⟨HP.out, rfl⟩⟩
      · have hq5 : decide ((4096 : Int) < (q : Int)) = false := by rw [decide_eq_false_iff_not]; omega
        have HP : Hid ((∀ i, i < k → NN i < 18446744073709551616 ^ 128) ∧ M < 18446744073709551616 ^ 64) := ⟨HF.out, hfit.1 (by omega)⟩
        by_cases hq0 : q = 0
        · subst hq0
          have HZ := Lib.hid (hz.1 rfl)
          clear hfit hbig hz hb hq5
          go_wp2
          go_ret2
          exact ⟨Below.refl _ _, .inr (.inl ⟨HP.out, HZ.out, rfl⟩)⟩
        · have hq6 : ((q : Int) == 0) = false := by simp; omega
          have HZ : Hid (0 < M) := Nat.pos_of_ne_zero fun h => hq0 (hz.2 h)
          clear hfit hbig hz hb hq0
          go_wp2_with fail
          refine HN.out.mono ?_
          rintro e w2 ⟨hb, hor⟩
          have HBW := Lib.hid hb
          clear hb
          have hml := HP.out.2
          have hbig2 : M < 18446744073709551616 ^ 128 := Nat.lt_of_lt_of_le hml lim_le128
          rcases hor with ⟨h, _⟩ | ⟨_, _, v, zs, rfl, ho, hN⟩
          · exfalso
            rw [HVL.out] at h
            exact h ⟨by rw [HFL.out, HVL.out]; exact hbig2, hbig2⟩
          · rw [HVL.out] at hN
            have HR : Hid (∀ B, B ≤ w.heap.size → NEnv B w2 [(v, M, true)]) := fun B hB => ⟨Nat.le_trans hB HBW.out.size, fun p hp => by
              obtain rfl : p = (v, M, true) := by simpa using hp
              exact isn_of_num (owns_base ho hB) hN hbig2⟩
            clear ho hN hml hbig2
            go_wp2
            go_ret2
            exact ⟨HBW.out, .inr (.inr ⟨HP.out, HZ.out, v, rfl, HR.out⟩)⟩
set_option maxHeartbeats 800000 in
set_option maxRecDepth 100000 in
theorem g_power {B : Nat} {w : World} {L : List (Value × Nat × Bool)} {vm va vn : Value} {M A N : Nat} {km ka : Bool} (hE : NEnv B w L) (hT : Trig w) (g0 : (vm, M, km) ∈ L) (g1 : (va, A, ka) ∈ L) (g2 : Raw w vn N) (hNF : N < 18446744073709551616 ^ 128) (hp : 0 < M) (hA : A < M) (hM : M < 18446744073709551616 ^ 64) :
    Calls Tryz.prog 117 #[vm, va, vn] w fun e w' => ∃ v, e = .returned v ∧ NEnv B w' ((v, A ^ N % M, true) :: L) ∧ Below w.heap.size w w' := by
  have HBITS := Lib.hid (fun (W : World) (h : Below w.heap.size w W) => g_bits (g2.below h))
  have HNF := Lib.hid hNF
  obtain ⟨an, cn, ns, hvn, -, -, hr, bn, hvl, -⟩ := g2
  subst hvn
  have HR := Lib.hid (fun (W : World) (h : Below w.heap.size w W) => hr.below h)
  generalize hln : ns.length = ln at *
  have HLN := Lib.hid hln
  have HBN := Lib.hid bn
  have HVL := Lib.hid hvl
  have HM : Hid ((vm, M, km) ∈ L ∧ (va, A, ka) ∈ L) := ⟨g0, g1⟩
  have HL := Lib.hid (lim64 hM)
  have HAM := Lib.hid (And.intro hp hA)
  have HT := Lib.hid (fun (W : World) (h : Below w.heap.size w W) => hT.below h)
  have hlit := m_lit 1 (by decide) (by decide) hE
  have hal : Below w.heap.size w (w.alloc (.cells #[.int .u64 (1 : Nat)] 47)) := (Below.refl _ _).alloc (Nat.le_refl _) _
  have HE := Lib.hid (And.intro hlit hal)
  clear hE hlit hal g0 g1 hp hA hM hT hr hln bn hvl hNF
  go_enter Tryz.func117, Tryz.ntmps117
  go_wp2
  refine wp_scope_jumps 0 (fun a' w' => ∃ (k : Nat) (pv u3 u4 u5 u6 u9 u10 u11 u12 u13 u14 u15 u16 u17 u18 u19 u20 u21 u22 u23 u24 u25 u26 u27 u28 u29 u30 u31 u32 u33 u34 u35 u36 : Value), a' = { tmps := #[vm, va, .slice an ln cn, u3, u4, u5, u6, pv, .int .i64 (k : Nat), u9, u10, u11, u12, u13, u14, u15, u16, u17, u18, u19, u20, u21, u22, u23, u24, u25, u26, u27, u28, u29, u30, u31, u32, u33, u34, u35, u36], defers := [] } ∧ k ≤ 8192 ∧ Hid (∀ j, j < k → j / 64 < ln) ∧ Hid (NEnv B w' ((pv, A ^ (N / 2 ^ k) % M, true) :: L) ∧ Below w.heap.size w w')) (fun a' _ => (intOf (a'.tmps.getD 8 undef)).toNat) rfl ?_ ?_
  · go_wp2_with fail
    refine (m_left (vm := vm) HE.out.1 (by have hmm := HM.out.1; repeat first | exact List.mem_cons_self | exact hmm | apply List.mem_cons_of_mem) (by repeat first | exact List.mem_cons_self | apply List.mem_cons_of_mem) HAM.out.1).mono ?_
    rintro e w2 ⟨pv, rfl, hE, hb⟩
    have HE2 := Lib.hid (And.intro hE.drop2 (HE.out.2.trans (hb.mono HE.out.2.size)))
    clear hE hb
    go_wp2_with fail
    refine (HBITS.out _ HE2.out.2).mono ?_
    rintro e w3 ⟨k, rfl, hk, hk8, rfl⟩
    have hk8 : k ≤ 8192 := (bits_fits (m := 128) hk).2 HNF.out
    have HKL : Hid (∀ j, j < k → j / 64 < ln) := fun j hj => bits_limb hk HBN.out HVL.out HLN.out hj
    have hstart : A ^ (N / 2 ^ k) % M = 1 % M := by rw [Nat.div_eq_of_lt (bits_lt hk), Nat.pow_zero]
    have HE3 : Hid (NEnv B w2 ((pv, A ^ (N / 2 ^ k) % M, true) :: L) ∧ Below w.heap.size w w2) := by show _ ∧ _; rw [hstart]; exact HE2.out
    clear hk HE HE2 hstart
    go_wp2
    go_step3
    have HK := HKL
    have HS := HE3
    have hk := hk8
    clear HKL HE3 hk8
    by_cases hk0 : k = 0
    · subst hk0
      go_wp2
      simp only [Exit.jump]
      go_ret
      refine ⟨_, rfl, ?_, HS.out.2⟩
      have h1 := HS.out.1
      rw [Nat.pow_zero, Nat.div_one] at h1
      exact h1
    · obtain ⟨j, rfl⟩ : ∃ j, k = j + 1 := ⟨k - 1, by omega⟩
      have hq0 : (((j + 1 : Nat) : Int) == 0) = false := by simp; omega
      have HJ := Lib.hid (And.intro hk (HK.out j (by omega)))
      clear hk0
      go_wp2_with fail
      refine (m_product (vm := vm) (va := pv) (vb := pv) HS.out.1 (HT.out _ HS.out.2) (by have hmm := HM.out.1; repeat first | exact List.mem_cons_self | exact hmm | apply List.mem_cons_of_mem) (by repeat first | exact List.mem_cons_self | apply List.mem_cons_of_mem) (by repeat first | exact List.mem_cons_self | apply List.mem_cons_of_mem) HAM.out.1 (Nat.lt_of_le_of_lt (Nat.mul_le_mul (Nat.le_of_lt (Nat.mod_lt _ HAM.out.1)) (Nat.le_of_lt (Nat.mod_lt _ HAM.out.1))) HL.out.2)).mono ?_
      rintro e w4 ⟨p2, rfl, hE, hb⟩
      rw [pw_sq] at hE
      have HS2 := Lib.hid (And.intro hE.drop2 (HS.out.2.trans (hb.mono HS.out.2.size)))
      clear hE hb hq0
      obtain ⟨b, off, rfl⟩ := (HR.out _ HS2.out.2).isAt (by have h1 := HLN.out; have h2 := HJ.out.2; omega)
      have hc := (HR.out _ HS2.out.2).cell (i := j / 64) (by have h1 := HLN.out; have h2 := HJ.out.2; omega)
      have hx := HBN.out.at0 (j / 64)
      have HV := Lib.hid (limb_bit HBN.out j (by have h1 := HLN.out; have h2 := HJ.out.2; omega))
      generalize at0 ns (j / 64) = x at *
      have hx2 : x / 2 ^ (j % 64) < 18446744073709551616 := Nat.lt_of_le_of_lt (Nat.div_le_self _ _) hx
      have HBT : Hid (bits BinOp.and IntKind.u64 ((x : Int) / 2 ^ (j % 64)) 1 = ((N / 2 ^ j % 2 : Nat) : Int)) := by
        show _ = _
        rw [← HVL.out, ← HV.out, ← and_one _ hx2, Int.natCast_ediv, Int.natCast_pow]; rfl
      clear hx2
      have hjl := HJ.out.2
      have hj8 : j ≤ 8192 := by have := HJ.out.1; omega
      by_cases hbit : N / 2 ^ j % 2 = 0
      · have hbt : (bits BinOp.and IntKind.u64 ((x : Int) / 2 ^ (j % 64)) 1 == 0) = true := by rw [HBT.out, hbit]; rfl
        have HEN : Hid (NEnv B w4 ((p2, A ^ (N / 2 ^ j) % M, true) :: L) ∧ Below w.heap.size w w4) := ⟨by
          have h1 := half_step N j
          rw [hbit, Nat.add_zero] at h1
          rw [h1]
          exact HS2.out.1, HS2.out.2⟩
        clear HS2 HBT HV hbit
        go_wp2
        go_step3
        exact ⟨rfl, j, p2, _, _, _, _, _, _, _, _, _, _, _, _, _, _, _, _, _, _, _, _, _, _, _, _, _, _, _, _, _, _, _, _, rfl, by have := HJ.out.1; omega, fun i hi => HK.out i (by omega), HEN.out⟩
      · have hbt : (bits BinOp.and IntKind.u64 ((x : Int) / 2 ^ (j % 64)) 1 == 0) = false := by rw [HBT.out, show N / 2 ^ j % 2 = 1 by omega]; rfl
        have HBIT : Hid (N / 2 ^ j % 2 = 1) := by show _ = _; omega
        clear HBT HV hbit
        go_wp2_with fail
        refine (m_product (vm := vm) (va := p2) (vb := va) HS2.out.1 (HT.out _ HS2.out.2) (by have hmm := HM.out.1; repeat first | exact List.mem_cons_self | exact hmm | apply List.mem_cons_of_mem) (by repeat first | exact List.mem_cons_self | apply List.mem_cons_of_mem) (by have hmm := HM.out.2; repeat first | exact List.mem_cons_self | exact hmm | apply List.mem_cons_of_mem) HAM.out.1 (Nat.lt_of_le_of_lt (Nat.mul_le_mul (Nat.le_of_lt (Nat.mod_lt _ HAM.out.1)) (Nat.le_of_lt HAM.out.2)) HL.out.2)).mono ?_
        rintro e w5 ⟨p3, rfl, hE, hb⟩
        have HEN : Hid (NEnv B w5 ((p3, A ^ (N / 2 ^ j) % M, true) :: L) ∧ Below w.heap.size w w5) := ⟨by
          have h1 := half_step N j
          rw [HBIT.out] at h1
          rw [h1, ← pw_mul, Nat.mod_eq_of_lt HAM.out.2]
          exact hE.drop2, HS2.out.2.trans (hb.mono HS2.out.2.size)⟩
        clear HS2 hE hb
        go_wp2
        go_step3
        exact ⟨rfl, j, p3, _, _, _, _, _, _, _, _, _, _, _, _, _, _, _, _, _, _, _, _, _, _, _, _, _, _, _, _, _, _, _, _, rfl, by have := HJ.out.1; omega, fun i hi => HK.out i (by omega), HEN.out⟩

  · rintro a' w' ⟨k, pv, u3, u4, u5, u6, u9, u10, u11, u12, u13, u14, u15, u16, u17, u18, u19, u20, u21, u22, u23, u24, u25, u26, u27, u28, u29, u30, u31, u32, u33, u34, u35, u36, rfl, hk, HK, HS⟩
    by_cases hk0 : k = 0
    · subst hk0
      go_wp2
      simp only [Exit.jump]
      go_ret
      refine ⟨_, rfl, ?_, HS.out.2⟩
      have h1 := HS.out.1
      rw [Nat.pow_zero, Nat.div_one] at h1
      exact h1
    · obtain ⟨j, rfl⟩ : ∃ j, k = j + 1 := ⟨k - 1, by omega⟩
      have hq0 : (((j + 1 : Nat) : Int) == 0) = false := by simp; omega
      have HJ := Lib.hid (And.intro hk (HK.out j (by omega)))
      clear hk0
      go_wp2_with fail
      refine (m_product (vm := vm) (va := pv) (vb := pv) HS.out.1 (HT.out _ HS.out.2) (by have hmm := HM.out.1; repeat first | exact List.mem_cons_self | exact hmm | apply List.mem_cons_of_mem) (by repeat first | exact List.mem_cons_self | apply List.mem_cons_of_mem) (by repeat first | exact List.mem_cons_self | apply List.mem_cons_of_mem) HAM.out.1 (Nat.lt_of_le_of_lt (Nat.mul_le_mul (Nat.le_of_lt (Nat.mod_lt _ HAM.out.1)) (Nat.le_of_lt (Nat.mod_lt _ HAM.out.1))) HL.out.2)).mono ?_
      rintro e w4 ⟨p2, rfl, hE, hb⟩
      rw [pw_sq] at hE
      have HS2 := Lib.hid (And.intro hE.drop2 (HS.out.2.trans (hb.mono HS.out.2.size)))
      clear hE hb hq0
      obtain ⟨b, off, rfl⟩ := (HR.out _ HS2.out.2).isAt (by have h1 := HLN.out; have h2 := HJ.out.2; omega)
      have hc := (HR.out _ HS2.out.2).cell (i := j / 64) (by have h1 := HLN.out; have h2 := HJ.out.2; omega)
      have hx := HBN.out.at0 (j / 64)
      have HV := Lib.hid (limb_bit HBN.out j (by have h1 := HLN.out; have h2 := HJ.out.2; omega))
      generalize at0 ns (j / 64) = x at *
      have hx2 : x / 2 ^ (j % 64) < 18446744073709551616 := Nat.lt_of_le_of_lt (Nat.div_le_self _ _) hx
      have HBT : Hid (bits BinOp.and IntKind.u64 ((x : Int) / 2 ^ (j % 64)) 1 = ((N / 2 ^ j % 2 : Nat) : Int)) := by
        show _ = _
        rw [← HVL.out, ← HV.out, ← and_one _ hx2, Int.natCast_ediv, Int.natCast_pow]; rfl
      clear hx2
      have hjl := HJ.out.2
      have hj8 : j ≤ 8192 := by have := HJ.out.1; omega
      by_cases hbit : N / 2 ^ j % 2 = 0
      · have hbt : (bits BinOp.and IntKind.u64 ((x : Int) / 2 ^ (j % 64)) 1 == 0) = true := by rw [HBT.out, hbit]; rfl
        have HEN : Hid (NEnv B w4 ((p2, A ^ (N / 2 ^ j) % M, true) :: L) ∧ Below w.heap.size w w4) := ⟨by
          have h1 := half_step N j
          rw [hbit, Nat.add_zero] at h1
          rw [h1]
          exact HS2.out.1, HS2.out.2⟩
        clear HS2 HBT HV hbit
        go_wp2
        go_step3
        refine ⟨rfl, ⟨j, p2, _, _, _, _, _, _, _, _, _, _, _, _, _, _, _, _, _, _, _, _, _, _, _, _, _, _, _, _, _, _, _, _, rfl, by have := HJ.out.1; omega, fun i hi => HK.out i (by omega), HEN.out⟩, ?_⟩
        simp [intOf]
      · have hbt : (bits BinOp.and IntKind.u64 ((x : Int) / 2 ^ (j % 64)) 1 == 0) = false := by rw [HBT.out, show N / 2 ^ j % 2 = 1 by omega]; rfl
        have HBIT : Hid (N / 2 ^ j % 2 = 1) := by show _ = _; omega
        clear HBT HV hbit
        go_wp2_with fail
        refine (m_product (vm := vm) (va := p2) (vb := va) HS2.out.1 (HT.out _ HS2.out.2) (by have hmm := HM.out.1; repeat first | exact List.mem_cons_self | exact hmm | apply List.mem_cons_of_mem) (by repeat first | exact List.mem_cons_self | apply List.mem_cons_of_mem) (by have hmm := HM.out.2; repeat first | exact List.mem_cons_self | exact hmm | apply List.mem_cons_of_mem) HAM.out.1 (Nat.lt_of_le_of_lt (Nat.mul_le_mul (Nat.le_of_lt (Nat.mod_lt _ HAM.out.1)) (Nat.le_of_lt HAM.out.2)) HL.out.2)).mono ?_
        rintro e w5 ⟨p3, rfl, hE, hb⟩
        have HEN : Hid (NEnv B w5 ((p3, A ^ (N / 2 ^ j) % M, true) :: L) ∧ Below w.heap.size w w5) := ⟨by
          have h1 := half_step N j
          rw [HBIT.out] at h1
          rw [h1, ← pw_mul, Nat.mod_eq_of_lt HAM.out.2]
          exact hE.drop2, HS2.out.2.trans (hb.mono HS2.out.2.size)⟩
        clear HS2 hE hb
        go_wp2
        go_step3
        refine ⟨rfl, ⟨j, p3, _, _, _, _, _, _, _, _, _, _, _, _, _, _, _, _, _, _, _, _, _, _, _, _, _, _, _, _, _, _, _, _, rfl, by have := HJ.out.1; omega, fun i hi => HK.out i (by omega), HEN.out⟩, ?_⟩
        simp [intOf]
set_option maxHeartbeats 4000000 in
theorem g_pow {w : World} {vm va vb : Value} {M A C : Nat} (hT : Trig w) (g0 : Raw w vm M) (g1 : Raw w va A) (g2 : Raw w vb C) :
    Calls Tryz.prog 72 #[va, vb, vm] w (MPost (ModTells ((A < 18446744073709551616 ^ 128 ∧ C < 18446744073709551616 ^ 128) ∧ M < 18446744073709551616 ^ 64) M (A ^ C % M)) w) := by
  obtain ⟨aa, la, ca, rfl⟩ := g1.sl
  obtain ⟨ab, lb, cb, rfl⟩ := g2.sl
  have hal : Below w.heap.size w (w.alloc (.cells #[(.slice aa la ca), (.slice ab lb cb)] 23)) := (Below.refl _ _).alloc (Nat.le_refl _) _
  have HA := Lib.hid (fun (W : World) (h : Below w.heap.size w W) => And.intro (g0.below h) (And.intro (g1.below h) (g2.below h)))
  have HT := Lib.hid (fun (W : World) (h : Below w.heap.size w W) => hT.below h)
  have HAL := Lib.hid hal
  have hck := g_check (fun i => if i = 0 then A else C) w.heap.size 0 2 2 (g0.below hal) (by decide) (by
    intro i hi
    rcases Nat.lt_or_ge i 1 with h1 | h1
    · obtain rfl : i = 0 := by omega
      exact ⟨_, World.cell?_alloc_at _ _ _ _ rfl, g1.below hal⟩
    · obtain rfl : i = 1 := by omega
      exact ⟨_, World.cell?_alloc_at _ _ _ _ rfl, g2.below hal⟩)
  have hfit : (∀ i, i < 2 → (fun i => if i = 0 then A else C) i < 18446744073709551616 ^ 128) ↔ (A < 18446744073709551616 ^ 128 ∧ C < 18446744073709551616 ^ 128) := by
    constructor
    · intro h; exact ⟨h 0 (by decide), h 1 (by decide)⟩
    · rintro ⟨h1, h2⟩ i hi
      rcases (show i = 0 ∨ i = 1 by omega) with rfl | rfl
      · exact h1
      · exact h2
  rw [hfit] at hck
  have HCK := Lib.hid hck
  clear hck hfit g0 g1 g2 hal hT
  go_enter Tryz.func72, Tryz.ntmps72
  go_wp2_with fail
  refine HCK.out.mono ?_
  rintro e w2 ⟨hb, hor⟩
  have HB := Lib.hid (HAL.out.trans (hb.mono HAL.out.size))
  clear hb
  rcases hor with ⟨hP, rfl⟩ | ⟨hP, hM, rfl⟩ | ⟨hP, hM, vc, rfl, hE⟩
  · have HP := Lib.hid hP
    clear hP
    go_wp2
    go_ret2
    exact MPost.none HB.out (.inl ⟨HP.out, rfl, rfl⟩)
  · have HP := Lib.hid (And.intro hP hM)
    clear hP hM
    go_wp2
    go_ret2
    exact MPost.none HB.out (.inr (.inl ⟨HP.out.1, HP.out.2, rfl, rfl⟩))
  · have HP := Lib.hid (And.intro hP hM)
    have HL := Lib.hid (lim64 hP.2)
    have HE := Lib.hid (And.intro (hE w.heap.size HAL.out.size) HB.out)
    clear hP hM hE
    go_wp2_with fail
    refine (g_left (vm := vc) (va := (.slice aa la ca)) (A := A) HE.out.1 (by repeat first | exact List.mem_cons_self | apply List.mem_cons_of_mem) (HA.out _ HE.out.2).2.1 HP.out.1.1.1 HP.out.2).mono ?_
    rintro e w3 ⟨xa, rfl, hE, hb⟩
    have HE := Lib.hid (And.intro hE (HE.out.2.trans (hb.mono HE.out.2.size)))
    clear hE hb
    go_wp2_with fail
    refine (g_power (vm := vc) (va := xa) (vn := .slice ab lb cb) HE.out.1 (HT.out _ HE.out.2) (by repeat first | exact List.mem_cons_self | apply List.mem_cons_of_mem) (by repeat first | exact List.mem_cons_self | apply List.mem_cons_of_mem) (HA.out _ HE.out.2).2.2 HP.out.1.1.2 HP.out.2 (Nat.mod_lt _ HP.out.2) HP.out.1.2).mono ?_
    rintro e w5 ⟨vz, rfl, hE, hb⟩
    rw [← Nat.pow_mod] at hE
    have HE := Lib.hid (And.intro hE (HE.out.2.trans (hb.mono HE.out.2.size)))
    clear hE hb
    go_wp2
    go_ret2
    exact MPost.of_env (v := vz) HE.out.2 HE.out.1 (by repeat first | exact List.mem_cons_self | apply List.mem_cons_of_mem) (fun zs h => .inr (.inr ⟨HP.out.1, HP.out.2, rfl, h⟩))
end Go.Proofs.YtaookoejdnkkoaaGreatDoor
