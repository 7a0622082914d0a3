import Derived.Test.YtfjhmnbbjknflaaGreatDoorRa
import Derived.Test.YtfjhmnbbjknflaaGreatDoorHv
namespace Go.Proofs.YtfjhmnbbjknflaaGreatDoor
open Go.RowKit

theorem plus_step {os : List Nat} {k c u x y o S T : Nat} (hl : os.length = k) (hv : v32 os + 4294967296 ^ k * c = S + T) (ho : o + 4294967296 * u = c + x + y) :
    v32 (os ++ [o]) + 4294967296 ^ (k + 1) * u = (S + 4294967296 ^ k * x) + (T + 4294967296 ^ k * y) := by
  rw [v32_snoc, hl, Nat.pow_succ]
  have h : 4294967296 ^ k * (o + 4294967296 * u) = 4294967296 ^ k * (c + x + y) := by rw [ho]
  rw [Nat.mul_add, Nat.mul_add, Nat.mul_add, ← Nat.mul_assoc] at h
  omega
set_option maxHeartbeats 4000000 in
set_option maxRecDepth 100000 in
theorem rplus_any (a b : Option Addr) (la ca lb cb : Nat) (xs ys : List Nat) (w : World) (hla : xs.length = la) (hlb : ys.length = lb) (hba : la ≤ 1048576) (hbb : lb ≤ 1048576) (hra : Rd .u64 w a xs) (hrb : Rd .u64 w b ys) (bx : Bd xs) (bY : Bd ys) :
    Calls Tryz.prog 96 #[.slice a la ca, .slice b lb cb] w fun e w' => ∃ v zs, e = .returned v ∧ own64 w' w.heap.size v zs ∧ Num zs (val xs + val ys) ∧ Below w.heap.size w w' := by
  go_enter Tryz.func96, Tryz.ntmps96
  go_wp2_with fail
  refine (halves_any a la ca xs _ hla hba hra bx).mono ?_
  rintro e w1 ⟨v, ps, rfl, hown, hnum, hb1⟩
  obtain ⟨a1, c1, rfl, hr1⟩ := own64.form hown
  have hlen1 : ps.length ≤ 2 * la := by
    have h2 := val_lt bx
    rw [hla, ← pow_pair] at h2
    exact (hnum.len_le (k := 2 * la)).2 h2
  have HR1 := Lib.hid hr1
  have HRB := Lib.hid (hrb.below hb1)
  have HN1 := Lib.hid hnum
  have HB1 := Lib.hid hb1
  clear hown hra hrb hr1 hnum hb1
  obtain ⟨lp, hlp⟩ : ∃ l, ps.length = l := ⟨_, rfl⟩
  rw [hlp] at hlen1 ⊢
  have HLP := Lib.hid hlp
  clear hlp
  go_wp2_with fail
  refine (halves_any b lb cb ys _ hlb hbb HRB.out bY).mono ?_
  rintro e w2 ⟨v, qs, rfl, hown, hnum, hb2⟩
  obtain ⟨a2, c2, rfl, hr2⟩ := own64.form hown
  have hlen2 : qs.length ≤ 2 * lb := by
    have h2 := val_lt bY
    rw [hlb, ← pow_pair] at h2
    exact (hnum.len_le (k := 2 * lb)).2 h2
  have hrp : Rd .u64 w2 a1 ps := HR1.out.below hb2
  have HN2 := Lib.hid hnum
  have HB2 := Lib.hid (HB1.out.trans (hb2.mono HB1.out.size))
  clear hown hnum hb2 HR1 HRB HB1 hla hlb bx bY
  obtain ⟨lq, hlq⟩ : ∃ l, qs.length = l := ⟨_, rfl⟩
  rw [hlq] at hlen2 ⊢
  have HLQ := Lib.hid hlq
  clear hlq
  obtain ⟨mx, hm1, hm2, hm3, hm4⟩ : ∃ mx, lp ≤ mx ∧ lq ≤ mx ∧ mx ≤ 2097152 ∧ (mx = lp ∨ mx = lq) := by
    rcases Nat.le_total lp lq with h | h
    · exact ⟨lq, h, Nat.le_refl _, by omega, .inr rfl⟩
    · exact ⟨lp, Nat.le_refl _, h, by omega, .inl rfl⟩
  have HLA := HLP
  have HLB := HLQ
  have hlpb : ps.length = lp := HLP.out
  have hlqb : qs.length = lq := HLQ.out
  go_wp2
  go_loopw [7, 8, 9] (fun v c i wr => ∃ (k d : Nat) (os : List Nat), k ≤ mx + 1 ∧ i = .int .i64 (k : Nat) ∧ c = .int .u64 d ∧ d ≤ 1 ∧ (mx < k → d = 0) ∧ Hid (own64 wr w2.heap.size v os) ∧ Hid (os.length = k) ∧ Hid (Hd os) ∧ Hid (v32 os + 4294967296 ^ k * d = v32 (ps.take k) + v32 (qs.take k)) ∧ Hid (Below w2.heap.size w2 wr)) (fun _ _ i _ => mx + 1 - (intOf i).toNat)
  case atStart => exact ⟨0, 0, [], by omega, rfl, rfl, by decide, by omega, own64_nil _ _, rfl, Hd.nil, by show _ = _; simp [v32], Below.refl _ _⟩
  case round =>
    obtain ⟨k, d, os, hk, rfl, rfl, hd1, hd0, HO, HZ, HB, HV, hbl⟩ := hrel
    have hsz := hbl.out.size
    by_cases hgo : k < lp ∨ k < lq ∨ 0 < d
    · have hkm : k ≤ mx := by omega
      have hown := HO.out.row HZ.out
      have hx32 := HN1.out.bd.at0 k
      obtain ⟨x, hx⟩ : ∃ x, at0 ps k = x := ⟨_, rfl⟩
      rw [hx] at hx32
      have hy32 := HN2.out.bd.at0 k
      obtain ⟨y, hy⟩ : ∃ y, at0 qs k = y := ⟨_, rfl⟩
      rw [hy] at hy32
      have HX := Lib.hid hx
      have HY := Lib.hid hy
      obtain ⟨s1, hs1⟩ : ∃ s1, s1 = d + x := ⟨_, rfl⟩
      obtain ⟨s2, hs2⟩ : ∃ s2, s2 = s1 + y := ⟨_, rfl⟩
      obtain ⟨o, ho⟩ : ∃ o, o = s2 % 4294967296 := ⟨_, rfl⟩
      obtain ⟨u, hu⟩ : ∃ u, u = s2 / 4294967296 := ⟨_, rfl⟩
      have hu1 : u ≤ 1 := by omega
      have r1 : IntKind.u64.wrap ((d : Int) + (x : Int)) = (s1 : Int) := by rw [IntKind.wrap_u64]; omega
      have r2 : IntKind.u64.wrap ((s1 : Int) + (y : Int)) = (s2 : Int) := by rw [IntKind.wrap_u64]; omega
      have r3 := and_low s2 (by omega)
      rw [← ho] at r3
      have r4 : (s2 : Int) / 4294967296 = (u : Int) := by omega
      have HSTEP : Hid (o + 4294967296 * u = d + x + y) := by show _ = _; omega
      have ho32 : o < 4294967296 := by omega
      have hs2b : s2 < 18446744073709551616 := by omega
      have ex : lp ≤ k → d = s1 := fun h => by
        have h3 : x = 0 := by rw [← HX.out]; exact at0_out (by rw [HLP.out]; exact h)
        omega
      have ey : lq ≤ k → s1 = s2 := fun h => by
        have h3 : y = 0 := by rw [← HY.out]; exact at0_out (by rw [HLQ.out]; exact h)
        omega
      have hu0 : mx < k + 1 → u = 0 := fun h => by
        have h3 : x = 0 ∨ k < lp := by rcases Nat.lt_or_ge k lp with h4 | h4; exact .inr h4; exact .inl (by rw [← HX.out]; exact at0_out (by rw [HLP.out]; exact h4))
        have h5 : y = 0 ∨ k < lq := by rcases Nat.lt_or_ge k lq with h4 | h4; exact .inr h4; exact .inl (by rw [← HY.out]; exact at0_out (by rw [HLQ.out]; exact h4))
        omega
      have EX := Lib.hid ex
      have EY := Lib.hid ey
      have HU0 := Lib.hid hu0
      have HS2 := Lib.hid hs2
      clear hx hy hs1 hs2 ho hu ex ey hu0
      rcases Nat.lt_or_ge k lp with hkp | hkp
      · obtain ⟨b1, o1, rfl⟩ := hrp.isAt (by omega)
        have hc1 := below_cell hbl.out _ _ (hrp.cell (i := k) (by omega))
        rw [HX.out] at hc1
        have hq1 : decide (k < lp) = true := by rw [decide_eq_true_iff]; omega
        rcases Nat.lt_or_ge k lq with hkq | hkq
        · obtain ⟨b2, o2, rfl⟩ := hr2.isAt (by omega)
          have hc2 := below_cell hbl.out _ _ (hr2.cell (i := k) (by omega))
          rw [HY.out] at hc2
          have hq2 : decide (k < lq) = true := by rw [decide_eq_true_iff]; omega
          go_wp2_with (at_builtin; refine wpl_app 22 61 Tryz.underlying22 info64 rfl (by decide) rfl _ _ rfl w2.heap.size _ k (u64s os) rfl (hown.alloc _) wr.heap.size _ rfl (World.cell?_alloc_at _ _ _ _ rfl) rfl (by omega) (by simp; omega) ?_)
          intro g cap' w3 hown1 hg1 hBg hgl hgo
          have hbl1 : Below w2.heap.size w2 w3 := (hbl.out.alloc (by omega) _).grown hg1 (by simp; omega) (fun j hj => (hown.lt j hj).1)
          have HO1 := Lib.hid (own64_snoc (z := o) hown1 HZ.out rfl)
          have HBL1 := Lib.hid hbl1
          clear hown1 hg1 hgo hown hbl1
          go_wp2
          go_roundw
          case rel =>
            refine ⟨k + 1, u, os ++ [o], by omega, by go_num, by first | rfl | go_num, hu1, HU0.out, HO1.out, by show _ = _; rw [List.length_append, HZ.out]; rfl, HB.out.snoc ho32, ?_, HBL1.out⟩
            show _ = _
            rw [take_v32_next, take_v32_next, HX.out, HY.out]
            exact plus_step HZ.out HV.out HSTEP.out
          case measure => simp [intOf]; omega
        · have hq2 : decide (k < lq) = false := by rw [decide_eq_false_iff_not]; omega
          obtain rfl := EY.out (by omega)
          go_wp2_with (at_builtin; refine wpl_app 22 61 Tryz.underlying22 info64 rfl (by decide) rfl _ _ rfl w2.heap.size _ k (u64s os) rfl (hown.alloc _) wr.heap.size _ rfl (World.cell?_alloc_at _ _ _ _ rfl) rfl (by omega) (by simp; omega) ?_)
          intro g cap' w3 hown1 hg1 hBg hgl hgo
          have hbl1 : Below w2.heap.size w2 w3 := (hbl.out.alloc (by omega) _).grown hg1 (by simp; omega) (fun j hj => (hown.lt j hj).1)
          have HO1 := Lib.hid (own64_snoc (z := o) hown1 HZ.out rfl)
          have HBL1 := Lib.hid hbl1
          clear hown1 hg1 hgo hown hbl1
          go_wp2
          go_roundw
          case rel =>
            refine ⟨k + 1, u, os ++ [o], by omega, by go_num, by first | rfl | go_num, hu1, HU0.out, HO1.out, by show _ = _; rw [List.length_append, HZ.out]; rfl, HB.out.snoc ho32, ?_, HBL1.out⟩
            show _ = _
            rw [take_v32_next, take_v32_next, HX.out, HY.out]
            exact plus_step HZ.out HV.out HSTEP.out
          case measure => simp [intOf]; omega
      · have hq1 : decide (k < lp) = false := by rw [decide_eq_false_iff_not]; omega
        obtain rfl := EX.out (by omega)
        rcases Nat.lt_or_ge k lq with hkq | hkq
        · obtain ⟨b2, o2, rfl⟩ := hr2.isAt (by omega)
          have hc2 := below_cell hbl.out _ _ (hr2.cell (i := k) (by omega))
          rw [HY.out] at hc2
          have hq2 : decide (k < lq) = true := by rw [decide_eq_true_iff]; omega
          go_wp2_with (at_builtin; refine wpl_app 22 61 Tryz.underlying22 info64 rfl (by decide) rfl _ _ rfl w2.heap.size _ k (u64s os) rfl (hown.alloc _) wr.heap.size _ rfl (World.cell?_alloc_at _ _ _ _ rfl) rfl (by omega) (by simp; omega) ?_)
          intro g cap' w3 hown1 hg1 hBg hgl hgo
          have hbl1 : Below w2.heap.size w2 w3 := (hbl.out.alloc (by omega) _).grown hg1 (by simp; omega) (fun j hj => (hown.lt j hj).1)
          have HO1 := Lib.hid (own64_snoc (z := o) hown1 HZ.out rfl)
          have HBL1 := Lib.hid hbl1
          clear hown1 hg1 hgo hown hbl1
          go_wp2
          go_roundw
          case rel =>
            refine ⟨k + 1, u, os ++ [o], by omega, by go_num, by first | rfl | go_num, hu1, HU0.out, HO1.out, by show _ = _; rw [List.length_append, HZ.out]; rfl, HB.out.snoc ho32, ?_, HBL1.out⟩
            show _ = _
            rw [take_v32_next, take_v32_next, HX.out, HY.out]
            exact plus_step HZ.out HV.out HSTEP.out
          case measure => simp [intOf]; omega
        · have hq2 : decide (k < lq) = false := by rw [decide_eq_false_iff_not]; omega
          obtain rfl := EY.out (by omega)
          have hqd : decide (0 < d) = true := by rw [decide_eq_true_iff]; omega
          have hqe : decide ((0 : Int) < (d : Int)) = true := by rw [decide_eq_true_iff]; omega
          go_wp2_with (at_builtin; refine wpl_app 22 61 Tryz.underlying22 info64 rfl (by decide) rfl _ _ rfl w2.heap.size _ k (u64s os) rfl (hown.alloc _) wr.heap.size _ rfl (World.cell?_alloc_at _ _ _ _ rfl) rfl (by omega) (by simp; omega) ?_)
          intro g cap' w3 hown1 hg1 hBg hgl hgo
          have hbl1 : Below w2.heap.size w2 w3 := (hbl.out.alloc (by omega) _).grown hg1 (by simp; omega) (fun j hj => (hown.lt j hj).1)
          have HO1 := Lib.hid (own64_snoc (z := o) hown1 HZ.out rfl)
          have HBL1 := Lib.hid hbl1
          clear hown1 hg1 hgo hown hbl1
          go_wp2
          go_roundw
          case rel =>
            refine ⟨k + 1, u, os ++ [o], by omega, by go_num, by first | rfl | go_num, hu1, HU0.out, HO1.out, by show _ = _; rw [List.length_append, HZ.out]; rfl, HB.out.snoc ho32, ?_, HBL1.out⟩
            show _ = _
            rw [take_v32_next, take_v32_next, HX.out, HY.out]
            exact plus_step HZ.out HV.out HSTEP.out
          case measure => simp [intOf]; omega
    · obtain rfl : d = 0 := by omega
      have hq1 : decide (k < lp) = false := by rw [decide_eq_false_iff_not]; omega
      have hq2 : decide (k < lq) = false := by rw [decide_eq_false_iff_not]; omega
      obtain ⟨a', c', rfl, hrd⟩ := own64.form HO.out
      have hv : v32 os = v32 ps + v32 qs := by
        have h := HV.out
        rw [List.take_of_length_le (by omega), List.take_of_length_le (by omega)] at h
        simpa using h
      have HVV := Lib.hid hv
      have hl2 : os.length ≤ 1099511627776 := by rw [HZ.out]; omega
      have HSZ := Lib.hid hsz
      clear hv hrp hr2 hgo
      go_wp2_with fail
      refine (limbs_any a' os.length c' os _ rfl hl2 hrd HB.out).mono ?_
      rintro e w3 ⟨v, zs, rfl, hown, hnum, hb3⟩
      have HO3 := Lib.hid (owns_base hown (Nat.le_trans HB2.out.size HSZ.out))
      have HN3 : Hid (Num zs (val xs + val ys)) := by show Num _ _; rw [HVV.out, HN1.out.vl, HN2.out.vl] at hnum; exact hnum
      have HB3 := Lib.hid (HB2.out.trans ((hbl.out.trans (hb3.mono HSZ.out)).mono HB2.out.size))
      clear hown hnum hb3
      go_wp2
      go_ret
      exact ⟨_, zs, rfl, HO3.out, HN3.out, HB3.out⟩

set_option maxHeartbeats 1000000 in
theorem rcmpW_any (a b : Option Addr) (la ca lb cb : Nat) (xs ys : List Nat) (w : World) (hla : xs.length = la) (hlb : ys.length = lb) (hba : la ≤ 1048576) (hbb : lb ≤ 1048576) (hra : Rd .u64 w a xs) (hrb : Rd .u64 w b ys) (bx : Bd xs) (bY : Bd ys) :
    Calls Tryz.prog 59 #[.slice a la ca, .slice b lb cb] w fun e w' => e = .returned (.int .i64 (cmpI (val xs) (val ys))) ∧ Below w.heap.size w w' := by
  go_enter Tryz.func59, Tryz.ntmps59
  go_wp2_with fail
  refine (halves_any a la ca xs _ hla hba hra bx).mono ?_
  rintro e w1 ⟨v, ps, rfl, hown, hnum, hb1⟩
  obtain ⟨a1, c1, rfl, hr1⟩ := own64.form hown
  have hlen1 : ps.length ≤ 2 * la := by
    have h2 := val_lt bx
    rw [hla, ← pow_pair] at h2
    exact (hnum.len_le (k := 2 * la)).2 h2
  have HR1 := Lib.hid hr1
  have HRB := Lib.hid (hrb.below hb1)
  have HN1 := Lib.hid hnum
  have HB1 := Lib.hid hb1
  clear hown hra hrb hr1 hnum hb1
  obtain ⟨lp, hlp⟩ : ∃ l, ps.length = l := ⟨_, rfl⟩
  rw [hlp] at hlen1 ⊢
  have HLP := Lib.hid hlp
  clear hlp
  go_wp2_with fail
  refine (halves_any b lb cb ys _ hlb hbb HRB.out bY).mono ?_
  rintro e w2 ⟨v, qs, rfl, hown, hnum, hb2⟩
  obtain ⟨a2, c2, rfl, hr2⟩ := own64.form hown
  have hlen2 : qs.length ≤ 2 * lb := by
    have h2 := val_lt bY
    rw [hlb, ← pow_pair] at h2
    exact (hnum.len_le (k := 2 * lb)).2 h2
  have HRP := Lib.hid (HR1.out.below hb2)
  have HRQ := Lib.hid hr2
  have HN2 := Lib.hid hnum
  have HB2 := Lib.hid (HB1.out.trans (hb2.mono HB1.out.size))
  clear hown hnum hb2 hr2 HR1 HRB HB1 hla hlb bx bY
  obtain ⟨lq, hlq⟩ : ∃ l, qs.length = l := ⟨_, rfl⟩
  rw [hlq] at hlen2 ⊢
  have HLQ := Lib.hid hlq
  clear hlq
  go_wp2_with fail
  refine (rcompare_any a1 a2 lp lq c1 c2 (val xs) (val ys) ps qs _ HLP.out HLQ.out (by omega) (by omega) HRP.out HRQ.out HN1.out HN2.out).mono ?_
  rintro e w3 hp
  obtain ⟨rfl, n3, rfl⟩ := hp
  have HB3 := Lib.hid (Below.drewM HB2.out n3)
  obtain ⟨z, hz⟩ : ∃ z, cmpI (val xs) (val ys) = z := ⟨_, rfl⟩
  rw [hz]
  have HZ := Lib.hid hz
  clear hz
  go_wp2
  go_ret
  exact ⟨by rw [HZ.out]; rfl, HB3.out⟩
set_option maxHeartbeats 1000000 in
theorem rminusW_any (a b : Option Addr) (la ca lb cb : Nat) (xs ys : List Nat) (w : World) (hla : xs.length = la) (hlb : ys.length = lb) (hba : la ≤ 1048576) (hbb : lb ≤ 1048576) (hra : Rd .u64 w a xs) (hrb : Rd .u64 w b ys) (bx : Bd xs) (bY : Bd ys) (hle : val ys ≤ val xs) :
    Calls Tryz.prog 97 #[.slice a la ca, .slice b lb cb] w fun e w' => ∃ v zs, e = .returned v ∧ own64 w' w.heap.size v zs ∧ Num zs (val xs - val ys) ∧ Below w.heap.size w w' := by
  go_enter Tryz.func97, Tryz.ntmps97
  go_wp2_with fail
  refine (halves_any a la ca xs _ hla hba hra bx).mono ?_
  rintro e w1 ⟨v, ps, rfl, hown, hnum, hb1⟩
  obtain ⟨a1, c1, rfl, hr1⟩ := own64.form hown
  have hlen1 : ps.length ≤ 2 * la := by
    have h2 := val_lt bx
    rw [hla, ← pow_pair] at h2
    exact (hnum.len_le (k := 2 * la)).2 h2
  have HR1 := Lib.hid hr1
  have HRB := Lib.hid (hrb.below hb1)
  have HN1 := Lib.hid hnum
  have HB1 := Lib.hid hb1
  clear hown hra hrb hr1 hnum hb1
  obtain ⟨lp, hlp⟩ : ∃ l, ps.length = l := ⟨_, rfl⟩
  rw [hlp] at hlen1 ⊢
  have HLP := Lib.hid hlp
  clear hlp
  go_wp2_with fail
  refine (halves_any b lb cb ys _ hlb hbb HRB.out bY).mono ?_
  rintro e w2 ⟨v, qs, rfl, hown, hnum, hb2⟩
  obtain ⟨a2, c2, rfl, hr2⟩ := own64.form hown
  have hlen2 : qs.length ≤ 2 * lb := by
    have h2 := val_lt bY
    rw [hlb, ← pow_pair] at h2
    exact (hnum.len_le (k := 2 * lb)).2 h2
  have HRP := Lib.hid (HR1.out.below hb2)
  have HRQ := Lib.hid hr2
  have HN2 := Lib.hid hnum
  have HB2 := Lib.hid (HB1.out.trans (hb2.mono HB1.out.size))
  clear hown hnum hb2 hr2 HR1 HRB HB1 hla hlb bx bY
  obtain ⟨lq, hlq⟩ : ∃ l, qs.length = l := ⟨_, rfl⟩
  rw [hlq] at hlen2 ⊢
  have HLQ := Lib.hid hlq
  clear hlq
  go_wp2_with fail
  refine (rminus_any a1 a2 lp lq c1 c2 (val xs) (val ys) ps qs _ HLP.out HLQ.out (by omega) (by omega) HRP.out HRQ.out HN1.out HN2.out hle).mono ?_
  rintro e w3 ⟨v, ds, rfl, hown, hnum, hb3⟩
  obtain ⟨a3, c3, rfl, hr3⟩ := own64.form hown
  have hlen3 : ds.length ≤ 2 * la := by
    refine (hnum.len_le (k := 2 * la)).2 ?_
    have h1 := (HN1.out.len_le (k := 2 * la)).1 (by rw [HLP.out]; exact hlen1)
    omega
  have HN3 := Lib.hid hnum
  have HB3 := Lib.hid (HB2.out.trans (hb3.mono HB2.out.size))
  clear hown hnum hb3
  go_wp2_with fail
  refine (limbs_any a3 ds.length c3 ds _ rfl (by omega) hr3 HN3.out.bd).mono ?_
  rintro e w4 ⟨v, zs, rfl, hown, hnum, hb4⟩
  have HO4 := Lib.hid (owns_base hown HB3.out.size)
  have HN4 : Hid (Num zs (val xs - val ys)) := by show Num _ _; rw [HN3.out.vl] at hnum; exact hnum
  have HB4 := Lib.hid (HB3.out.trans (hb4.mono HB3.out.size))
  clear hown hnum hb4
  go_wp2
  go_ret
  exact ⟨_, zs, rfl, HO4.out, HN4.out, HB4.out⟩
end Go.Proofs.YtfjhmnbbjknflaaGreatDoor
