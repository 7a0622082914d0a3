import Derived.Test.YthccccpcjafdcaaDoorRBytes
namespace Go.Proofs.YthccccpcjafdcaaDoor
open Go.RowKit

set_option maxHeartbeats 1000000 in
set_option maxRecDepth 100000 in
theorem two_any (n : Nat) (w : World) (hn : n ≤ 1048576) :
    Calls Tryd.prog 49 #[.int .i64 (n : Nat)] w fun e w' => ∃ v zs, e = .returned v ∧ own64 w' w.heap.size v zs ∧ Bd zs ∧ val zs = 2 ^ n ∧ zs.length = n / 64 + 1 ∧ Below w.heap.size w w' := by
  obtain ⟨q, hq⟩ : ∃ q, q = n / 64 := ⟨_, rfl⟩
  obtain ⟨r, hr⟩ : ∃ r, r = n % 64 := ⟨_, rfl⟩
  obtain ⟨m, hm⟩ : ∃ m, m = q + 1 := ⟨_, rfl⟩
  have rq : (n : Int).tdiv 64 = (q : Int) := by rw [Int.tdiv_eq_ediv_of_nonneg (by omega)]; omega
  have rr : (n : Int).tmod 64 = (r : Int) := by rw [Int.tmod_eq_emod_of_nonneg (by omega)]; omega
  have rm : (q : Int) + 1 = (m : Int) := by omega
  have hr64 : r < 64 := by omega
  have hqm : q < m := by omega
  have hmb : m ≤ 1048577 := by omega
  have hpow : 2 ^ r < 18446744073709551616 := by
    have h : 2 ^ r ≤ 2 ^ 63 := Nat.pow_le_pow_right (by decide) (by omega)
    omega
  obtain ⟨p, hp⟩ : ∃ p, p = 2 ^ r := ⟨_, rfl⟩
  have rp : IntKind.u64.wrap (2 ^ r : Int) = (p : Int) := by
    rw [IntKind.wrap_u64, show (2 : Int) ^ r = ((2 ^ r : Nat) : Int) by simp, ← hp]; omega
  have HQ := Lib.hid hq
  have HR := Lib.hid hr
  have HM := Lib.hid hm
  have HP := Lib.hid hp
  have HPW := Lib.hid hpow
  clear hq hr hm hp hpow
  go_enter Tryd.func49, Tryd.ntmps49
  go_wp2_with (at_make; refine wpl_make64 rfl _ _ rfl w.heap.size _ _ _ _ m rfl rfl rfl rfl (by omega) (Nat.le_refl _) ?_)
  intro w1 hown hbl hsz
  have hc1 := hown.cell (j := q) (by simp; omega)
  have hf1 := hown.free q
  have HO := Lib.hid hown
  clear hown
  go_wp2
  go_ret
  refine ⟨_, (List.replicate m 0).set q p, rfl, HO.out.set q p, ?_, ?_, by rw [List.length_set, List.length_replicate, HM.out, HQ.out], hbl.setCell (p := ⟨w.heap.size, q, none⟩) (Nat.le_refl _) _⟩
  · refine Bd.set (fun x hx => by rw [List.eq_of_mem_replicate hx]; decide) (by rw [HP.out]; exact HPW.out)
  · have h1 := set_val (ws := List.replicate m 0) (q := q) (y := p) (by simp; omega)
    have h2 : at0 (List.replicate m 0) q = 0 := by unfold at0 List.getD; simp [hqm]
    rw [h2, Nat.mul_zero, Nat.add_zero, val_replicate, Nat.zero_add] at h1
    rw [h1, HP.out, pow_64, ← Nat.pow_add]
    congr 1
    have := HQ.out
    have := HR.out
    omega

set_option maxHeartbeats 1000000 in
set_option maxRecDepth 100000 in
theorem rlength_any (a : Option Addr) (len cap : Nat) (xs : List Nat) (w : World) (hl : xs.length = len) (hbig : len ≤ 1048576) (hr : Rd .u64 w a xs) (bx : Bd xs) :
    Calls Tryd.prog 47 #[.slice a len cap] w fun e w' => ∃ k : Nat, e = .returned (.int .i64 (k : Nat)) ∧ BitsIs (val xs) k ∧ Below w.heap.size w w' := by
  go_enter Tryd.func47, Tryd.ntmps47
  go_wp2_with fail
  refine (halves_any a len cap xs _ hl hbig hr bx).mono ?_
  rintro e w1 ⟨v, hs, rfl, hown, hnum, hb1⟩
  obtain ⟨a1, c1, rfl, hr1⟩ := own64.form hown
  have hl1 : hs.length ≤ 2 * len := by
    have h1 := hnum.len_le (k := 2 * len)
    have h2 := val_lt bx
    rw [hl, ← pow_pair] at h2
    exact h1.2 h2
  by_cases h0 : hs.length = 0
  · have hq : ((hs.length : Int) == 0) = true := by rw [beq_iff_eq]; omega
    have e0 : hs = [] := List.eq_nil_of_length_eq_zero h0
    have hz : Hid (val xs = 0) := by show _ = _; rw [← hnum.vl, e0]; rfl
    clear h0 e0 hnum hown hr1
    go_wp2
    go_ret
    exact ⟨0, rfl, .inl ⟨hz.out, rfl⟩, hb1⟩
  · have hq : ((hs.length : Int) == 0) = false := by rw [beq_eq_false_iff_ne]; omega
    obtain ⟨m, hm⟩ : ∃ m, hs.length = m + 1 := ⟨hs.length - 1, by omega⟩
    obtain ⟨b, off, rfl⟩ := hr1.isAt (by omega)
    have hc1 := hr1.cell (i := m) (by omega)
    have htop : at0 hs m ≠ 0 := by have := hnum.cn (by omega); rw [hm, Nat.add_sub_cancel] at this; exact this
    have hb32 := hnum.bd.at0 m
    have HV : Hid (val xs = v32 (hs.take m) + 4294967296 ^ m * at0 hs m) := by
      show _ = _
      rw [← hnum.vl, v32_at hs m (by omega), List.drop_of_length_le (by omega)]
      simp [v32]
    have HL : Hid (v32 (hs.take m) < 4294967296 ^ m) := by
      have h := v32_lt (hnum.bd.take m)
      rw [List.length_take, Nat.min_eq_left (by omega)] at h
      exact h
    obtain ⟨x, hx⟩ : ∃ x, x = at0 hs m := ⟨_, rfl⟩
    rw [← hx] at hc1 htop hb32 HV
    obtain ⟨L, hLL⟩ : ∃ L, L = hs.length := ⟨_, rfl⟩
    rw [← hLL] at hq hm ⊢
    have rm : (L : Int) - 1 = (m : Int) := by omega
    obtain ⟨M, hM⟩ : ∃ M, M = 32 * m := ⟨_, rfl⟩
    have rm32 : (32 : Int) * (m : Int) = (M : Int) := by omega
    have HMM := Lib.hid hM
    have hMb : M ≤ 67108864 := by omega
    clear hM
    have hmL : m < L := by omega
    have hmb : m ≤ 2097152 := by omega
    have HX := Lib.hid htop
    clear hm htop hx hLL hnum hown hr1 h0
    go_wp2
    go_loop [4, 5] (fun v4 v5 => ∃ (j y : Nat), j ≤ 32 ∧ v4 = .int .i64 ((M : Int) + (j : Int)) ∧ v5 = .int .u64 (y : Nat) ∧ Hid (y = x / 2 ^ j) ∧ Hid (0 < j → 0 < x / 2 ^ (j - 1))) (fun v4 _ => 33 + M - (intOf v4).toNat)
    case atStart => exact ⟨0, x, by omega, by simp, rfl, by show _ = _; rw [Nat.pow_zero, Nat.div_one], fun h => absurd h (by omega)⟩
    case round =>
      obtain ⟨j, y, hj, rfl, rfl, HY, HJ⟩ := hrel
      by_cases hy : 0 < y
      · have hj32 : j < 32 := by
          refine Nat.lt_of_le_of_ne hj fun e => ?_
          have := HY.out
          rw [e, Nat.div_eq_of_lt (by simpa using hb32)] at this
          omega
        obtain ⟨z, hz⟩ : ∃ z, z = y / 2 := ⟨_, rfl⟩
        have ez : (y : Int) / 2 = (z : Int) := by omega
        have hq2 : decide ((0 : Int) < (y : Int)) = true := by rw [decide_eq_true_iff]; omega
        have HZ := Lib.hid hz
        have HYP := Lib.hid hy
        clear hz hy
        go_wp2
        go_round
        case rel =>
          refine ⟨j + 1, z, by omega, (by first | (congr 1; done) | (congr 1; omega)), rfl, ?_, fun _ => ?_⟩
          · show _ = _
            rw [HZ.out, HY.out, Nat.div_div_eq_div_mul, ← Nat.pow_succ]
          · rw [Nat.add_sub_cancel, ← HY.out]; exact HYP.out
        case measure => simp [intOf]; omega
      · have hq2 : decide ((0 : Int) < (y : Int)) = false := by rw [decide_eq_false_iff_not]; omega
        have hy0 : Hid (x / 2 ^ j = 0) := by show _ = _; rw [← HY.out]; omega
        have hq3 : decide (0 < y) = false := by rw [decide_eq_false_iff_not]; omega
        go_wp2
        go_ret
        have hj0 : 0 < j := by
          refine Nat.pos_of_ne_zero fun h => ?_
          have := hy0.out
          rw [h, Nat.pow_zero, Nat.div_one] at this
          exact HX.out this
        have h1 := HJ.out hj0
        have h2 : x < 2 ^ j := (Nat.div_eq_zero_iff_lt (Nat.two_pow_pos _)).1 hy0.out
        have h3 : 2 ^ (j - 1) ≤ x := by
          have := (Nat.le_div_iff_mul_le (Nat.two_pow_pos (j - 1))).1 h1
          omega
        have e32 : (4294967296 : Nat) ^ m = 2 ^ M := by rw [HMM.out, Nat.pow_mul]
        refine ⟨M + j, by congr 2, .inr ⟨by omega, ?_, ?_⟩, hb1⟩
        · rw [HV.out, e32, show M + j - 1 = M + (j - 1) by omega, Nat.pow_add]
          have := Nat.mul_le_mul_left (2 ^ M) h3
          omega
        · rw [HV.out, e32, Nat.pow_add]
          have h4 := HL.out
          rw [e32] at h4
          have h5 : 2 ^ M * (x + 1) ≤ 2 ^ M * 2 ^ j := Nat.mul_le_mul_left _ h2
          rw [Nat.mul_add] at h5
          omega
end Go.Proofs.YthccccpcjafdcaaDoor
