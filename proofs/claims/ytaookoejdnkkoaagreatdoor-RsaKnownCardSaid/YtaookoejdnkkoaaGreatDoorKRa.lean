import Derived.Test.YtaookoejdnkkoaaGreatDoorKHv
namespace Go.Proofs.YtaookoejdnkkoaaGreatDoor
open Go.RowKit

theorem v32_lt_of_top {xs ys : List Nat} {k : Nat} (bx : Hd xs) (hl : xs.length = ys.length) (hk : k < xs.length) (h : xs.drop (k + 1) = ys.drop (k + 1)) (hlt : at0 xs k < at0 ys k) : v32 xs < v32 ys := by
  rw [v32_at xs k hk, v32_at ys k (by omega), h]
  have h1 := v32_lt (bx.take k)
  rw [List.length_take, Nat.min_eq_left (by omega)] at h1
  generalize v32 (ys.drop (k + 1)) = t
  have h2 : 4294967296 ^ k * (at0 xs k + 4294967296 * t + 1) ≤ 4294967296 ^ k * (at0 ys k + 4294967296 * t) := Nat.mul_le_mul_left _ (by omega)
  rw [Nat.mul_add] at h2
  omega
set_option maxHeartbeats 1000000 in
set_option maxRecDepth 100000 in
theorem rcompare_any (a b : Option Addr) (la lb ca cb V1 V2 : Nat) (xs ys : List Nat) (w : World) (hla : xs.length = la) (hlb : ys.length = lb) (hba : la ≤ 1099511627776) (hbb : lb ≤ 1099511627776)
    (hra : Rd .u64 w a xs) (hrb : Rd .u64 w b ys) (h1 : Num32 xs V1) (h2 : Num32 ys V2) :
    Calls Tryz.prog 151 #[.slice a la ca, .slice b lb cb] w (CmpPost (cmpI V1 V2) w) := by
  have H1 := Lib.hid h1
  have H2 := Lib.hid h2
  clear h1 h2
  go_enter Tryz.func151, Tryz.ntmps151
  by_cases hne : la = lb
  · subst hne
    have hne1 : ((la : Int) != (la : Int)) = false := by simp
    have HLA := Lib.hid hla
    have HLB := Lib.hid hlb
    go_wp2
    go_loopw [5] (fun v wr => ∃ i n : Nat, i ≤ la ∧ v = .int .i64 ((i : Int) - 1) ∧ wr = w.drewN n ∧ Hid (xs.drop i = ys.drop i)) (fun v _ => (intOf v + 1).toNat)
    case atStart => exact ⟨la, 0, Nat.le_refl _, rfl, rfl, by show _ = _; rw [List.drop_of_length_le (by omega), List.drop_of_length_le (by omega)]⟩
    case round =>
      obtain ⟨i, n, hi, rfl, rfl, hd⟩ := hrel
      by_cases h0 : i = 0
      · subst h0
        have hv : Hid (cmpI V1 V2 = 0) := by
          have hd1 := hd.out
          rw [List.drop_zero, List.drop_zero] at hd1
          show cmpI V1 V2 = 0
          rw [← H1.out.vl, ← H2.out.vl, hd1]
          exact cmpI_self _
        go_wp2
        go_ret
        exact ⟨by rw [hv.out]; rfl, n, rfl⟩
      · obtain ⟨m, rfl⟩ : ∃ m, i = m + 1 := ⟨i - 1, by omega⟩
        have hm : m < xs.length := by omega
        have hm' : m < ys.length := by omega
        obtain ⟨ba, oa, rfl⟩ := hra.isAt (by omega)
        obtain ⟨bb, ob, rfl⟩ := hrb.isAt (by omega)
        have hc1 := hra.cell hm
        have hc2 := hrb.cell hm'
        have hb1 := H1.out.bd.at0 m
        have hb2 := H2.out.bd.at0 m
        have HL : Hid (cmpI V1 V2 = cmpI (at0 xs m) (at0 ys m) ∨ at0 xs m = at0 ys m) := by
          rcases Nat.lt_trichotomy (at0 xs m) (at0 ys m) with h | h | h
          · refine .inl ?_
            rw [cmpI_of_lt h, ← H1.out.vl, ← H2.out.vl]
            exact cmpI_of_lt (v32_lt_of_top H1.out.bd (by omega) hm hd.out h)
          · exact .inr h
          · refine .inl ?_
            rw [cmpI_of_gt h, ← H1.out.vl, ← H2.out.vl]
            exact cmpI_of_gt (v32_lt_of_top H2.out.bd (by omega) hm' hd.out.symm h)
        have HS : Hid (at0 xs m = at0 ys m → xs.drop m = ys.drop m) := fun h => drop_succ_eq (by omega) hm hd.out h
        have hm2 : m < la := by omega
        clear hd hra hrb hm hm' hla hlb
        generalize at0 xs m = x at *
        generalize at0 ys m = y at *
        have hm1 : ((m + 1 : Nat) : Int) - 1 = (m : Int) := by omega
        rw [hm1]
        have h00 : (0 : Int) ≤ (m : Int) := by omega
        have hmI : (m : Int) < (la : Int) := by omega
        rcases Nat.lt_trichotomy x y with h | h | h
        · have hq1 : decide (x < y) = true := by rw [decide_eq_true_iff]; exact h
          have hv : Hid (cmpI V1 V2 = -1) := by
            rcases HL.out with h9 | h9
            · show _ = _; rw [h9]; exact cmpI_of_lt h
            · omega
          have HX := Lib.hid h
          clear h
          go_wp2
          go_quiet (fail)
          go_wp2
          go_ret
          exact ⟨by rw [hv.out]; rfl, _, by first | rfl | exact World.drewN_drewN _ _ _⟩
        · subst h
          have hq1 : decide (x < x) = false := by rw [decide_eq_false_iff_not]; omega
          go_wp2
          go_quiet (fail)
          go_wp2
          go_quiet (fail)
          go_wp2
          go_roundw
          case rel => exact ⟨m, _, by omega, by go_num, by first | rfl | (rw [World.drewN_drewN]) | (rw [World.drewN_drewN, World.drewN_drewN]), HS.out trivial⟩
          case measure => simp [intOf]
        · have hq1 : decide (x < y) = false := by rw [decide_eq_false_iff_not]; omega
          have hq2 : decide (y < x) = true := by rw [decide_eq_true_iff]; exact h
          have hv : Hid (cmpI V1 V2 = 1) := by
            rcases HL.out with h9 | h9
            · show _ = _; rw [h9]; exact cmpI_of_gt h
            · omega
          have HX := Lib.hid h
          clear h
          go_wp2
          go_quiet (fail)
          go_wp2
          go_quiet (fail)
          go_wp2
          go_ret
          exact ⟨by rw [hv.out]; rfl, _, (congrArg (fun W => World.drewN W _) (World.drewN_drewN _ _ _)).trans (World.drewN_drewN _ _ _)⟩
  · have hne1 : ((la : Int) != (lb : Int)) = true := by rw [bne_iff_ne]; omega
    have hor : (la < lb ∧ cmpI V1 V2 = -1) ∨ (lb < la ∧ cmpI V1 V2 = 1) := by
      rcases Nat.lt_or_ge la lb with h | h
      · refine .inl ⟨h, cmpI_of_lt ?_⟩
        exact Nat.lt_of_lt_of_le (H1.out.len_le.1 (Nat.le_of_eq hla)) (H2.out.len_lt.1 (by omega))
      · refine .inr ⟨by omega, cmpI_of_gt ?_⟩
        exact Nat.lt_of_lt_of_le (H2.out.len_le.1 (Nat.le_of_eq hlb)) (H1.out.len_lt.1 (by omega))
    rcases hor with ⟨h, hv⟩ | ⟨h, hv⟩
    · have hq1 : decide (la < lb) = true := by rw [decide_eq_true_iff]; exact h
      have HV := Lib.hid hv
      clear hv hne h
      go_wp2
      go_ret
      exact ⟨by rw [HV.out]; rfl, 0, rfl⟩
    · have hq1 : decide (la < lb) = false := by rw [decide_eq_false_iff_not]; omega
      have HV := Lib.hid hv
      clear hv hne h
      go_wp2
      go_ret
      exact ⟨by rw [HV.out]; rfl, 0, rfl⟩

theorem minus_step {os : List Nat} {k lent l2 a b o S T : Nat} (hl : os.length = k) (hv : v32 os + T = S + 4294967296 ^ k * lent) (ho : o + b + lent = a + 4294967296 * l2) :
    v32 (os ++ [o]) + (T + 4294967296 ^ k * b) = (S + 4294967296 ^ k * a) + 4294967296 ^ (k + 1) * l2 := by
  rw [v32_snoc, hl, Nat.pow_succ]
  have h : 4294967296 ^ k * (o + b + lent) = 4294967296 ^ k * (a + 4294967296 * l2) := by rw [ho]
  rw [Nat.mul_add, Nat.mul_add, Nat.mul_add, ← Nat.mul_assoc] at h
  omega
theorem take_v32_next (ys : List Nat) (k : Nat) : v32 (ys.take (k + 1)) = v32 (ys.take k) + 4294967296 ^ k * at0 ys k := by
  rcases Nat.lt_or_ge k ys.length with h | h
  · exact take_v32_snoc h
  · rw [List.take_of_length_le (by omega), List.take_of_length_le h, at0_out h]; simp
theorem minus_done {os xs ys : List Nat} {k lent : Nat} (hx : xs.length = k) (hy : ys.length ≤ k) (hl : os.length = k) (hb : Hd os) (hle : v32 ys ≤ v32 xs) (hl1 : lent ≤ 1) (hv : v32 os + v32 (ys.take k) = v32 (xs.take k) + 4294967296 ^ k * lent) : v32 os = v32 xs - v32 ys := by
  rw [List.take_of_length_le hy, List.take_of_length_le (by omega)] at hv
  have h1 := v32_lt hb
  rw [hl] at h1
  rcases Nat.eq_zero_or_pos lent with rfl | h
  · omega
  · obtain rfl : lent = 1 := by omega
    omega
set_option maxHeartbeats 2000000 in
set_option maxRecDepth 100000 in
theorem rminus_any (a b : Option Addr) (la lb ca cb V1 V2 : Nat) (xs ys : List Nat) (w : World) (hla : xs.length = la) (hlb : ys.length = lb) (hba : la ≤ 4194304) (hbb : lb ≤ 4194304)
    (hra : Rd .u64 w a xs) (hrb : Rd .u64 w b ys) (h1 : Num32 xs V1) (h2 : Num32 ys V2) (hle : V2 ≤ V1) :
    Calls Tryz.prog 202 #[.slice a la ca, .slice b lb cb] w fun e w' => ∃ v zs, e = .returned v ∧ own64 w' w.heap.size v zs ∧ Num32 zs (V1 - V2) ∧ Below w.heap.size w w' := by
  have hlen : lb ≤ la := by
    have h3 := (h1.len_le (k := la)).1 (by omega)
    have := (h2.len_le (k := la)).2 (by omega)
    omega
  have H1 := Lib.hid h1
  have H2 := Lib.hid h2
  have HLE := Lib.hid hle
  have HLB := Lib.hid hlb
  have HLA := Lib.hid hla
  have HLN := Lib.hid hlen
  clear h1 h2 hle hlen
  go_enter Tryz.func202, Tryz.ntmps202
  go_wp2
  go_loopw [5, 6, 7] (fun v c i wr => ∃ (k lent : Nat) (os : List Nat), k ≤ la ∧ i = .int .i64 (k : Nat) ∧ c = .int .u64 lent ∧ lent ≤ 1 ∧ Hid (own64 wr w.heap.size v os) ∧ Hid (os.length = k) ∧ Hid (Hd os) ∧ Hid (v32 os + v32 (ys.take k) = v32 (xs.take k) + 4294967296 ^ k * lent) ∧ Hid (Below w.heap.size w wr)) (fun _ _ i _ => la - (intOf i).toNat)
  case atStart => exact ⟨0, 0, [], by omega, rfl, rfl, by decide, own64_nil _ _, rfl, Hd.nil, by show _ = _; simp [v32], Below.refl _ _⟩
  case round =>
    obtain ⟨k, lent, os, hk, rfl, rfl, hl1, HO, HZ, HB, HV, hbl⟩ := hrel
    have hsz := hbl.out.size
    by_cases hlt : k < la
    · obtain ⟨ba, oa, rfl⟩ := hra.isAt (by omega)
      have hc1 := below_cell hbl.out _ _ (hra.cell (i := k) (by omega))
      have hown := HO.out.row HZ.out
      have hx32 := H1.out.bd.at0 k
      obtain ⟨x, hx⟩ : ∃ x, at0 xs k = x := ⟨_, rfl⟩
      rw [hx] at hc1 hx32
      have hy32 := H2.out.bd.at0 k
      obtain ⟨y, hy⟩ : ∃ y, at0 ys k = y := ⟨_, rfl⟩
      rw [hy] at hy32
      obtain ⟨x1, hx1⟩ : ∃ x1, x1 = x + 4294967296 - lent := ⟨_, rfl⟩
      obtain ⟨x2, hx2⟩ : ∃ x2, x2 = x1 - y := ⟨_, rfl⟩
      obtain ⟨o, ho⟩ : ∃ o, o = x2 % 4294967296 := ⟨_, rfl⟩
      obtain ⟨u, hu⟩ : ∃ u, u = x2 / 4294967296 := ⟨_, rfl⟩
      obtain ⟨l2, hl2⟩ : ∃ l2, l2 = 1 - u := ⟨_, rfl⟩
      have hu1 : u ≤ 1 := by omega
      have r0 : IntKind.u64.wrap ((x : Int) + 4294967296) = (x : Int) + 4294967296 := by rw [IntKind.wrap_u64]; omega
      have r1 : IntKind.u64.wrap ((x : Int) + 4294967296 - (lent : Int)) = (x1 : Int) := by rw [IntKind.wrap_u64]; omega
      have r2 : IntKind.u64.wrap ((x1 : Int) - (y : Int)) = (x2 : Int) := by rw [IntKind.wrap_u64]; omega
      have r3 := and_low x2 (by omega)
      rw [← ho] at r3
      have r4 : (x2 : Int) / 4294967296 = (u : Int) := by omega
      have r5 : IntKind.u64.wrap (1 - (u : Int)) = (l2 : Int) := by rw [IntKind.wrap_u64]; omega
      have r6 : (x : Int) + 4294967296 - (lent : Int) = (x1 : Int) := by omega
      have r7 : (x1 : Int) - (y : Int) = (x2 : Int) := by omega
      have r8 : 1 - (u : Int) = (l2 : Int) := by omega
      have HSTEP : Hid (o + y + lent = x + 4294967296 * l2) := by show _ = _; omega
      have ho32 : o < 4294967296 := by omega
      have hl21 : l2 ≤ 1 := by omega
      have hx1b : x1 < 18446744073709551616 := by omega
      have hx2b : x2 < 18446744073709551616 := by omega
      have HX := Lib.hid hx
      have HY := Lib.hid hy
      have e12 : lb ≤ k → x1 = x2 := fun h => by
        have h3 : y = 0 := by rw [← HY.out]; exact at0_out (by rw [HLB.out]; exact h)
        omega
      have E12 := Lib.hid e12
      have HX2 := Lib.hid hx2
      clear hx hy hx1 ho hu hl2 e12 hx2
      rcases Nat.lt_or_ge k lb with hkl | hkl
      · obtain ⟨bb, ob, rfl⟩ := hrb.isAt (by omega)
        have hc2 := below_cell hbl.out _ _ (hrb.cell (i := k) (by omega))
        rw [HY.out] at hc2
        have hq : decide (k < lb) = true := by rw [decide_eq_true_iff]; exact hkl
        go_wp2_with (at_builtin; refine wpl_app 23 47 Tryz.underlying23 info64 rfl (by decide) rfl _ _ rfl w.heap.size _ k (u64s os) rfl (hown.alloc _) wr.heap.size _ rfl (World.cell?_alloc_at _ _ _ _ rfl) rfl (by omega) (by simp; omega) ?_)
        intro g cap' w1 hown1 hg1 hBg hgl hgo
        have hbl1 : Below w.heap.size w w1 := (hbl.out.alloc (by omega) _).grown hg1 (by simp; omega) (fun j hj => (hown.lt j hj).1)
        have HO1 := Lib.hid (own64_snoc (z := o) hown1 HZ.out rfl)
        have HBL1 := Lib.hid hbl1
        clear hown1 hg1 hgo hown hbl1
        go_wp2
        go_roundw
        case rel =>
          refine ⟨k + 1, l2, os ++ [o], by omega, by go_num, by first | rfl | go_num, hl21, HO1.out, by show _ = _; rw [List.length_append, HZ.out]; rfl, HB.out.snoc ho32, ?_, HBL1.out⟩
          show _ = _
          rw [take_v32_next, take_v32_next, HX.out, HY.out]
          exact minus_step HZ.out HV.out HSTEP.out
        case measure => simp [intOf]; omega
      · have hq : decide (k < lb) = false := by rw [decide_eq_false_iff_not]; omega
        obtain rfl := E12.out hkl
        go_wp2_with (at_builtin; refine wpl_app 23 47 Tryz.underlying23 info64 rfl (by decide) rfl _ _ rfl w.heap.size _ k (u64s os) rfl (hown.alloc _) wr.heap.size _ rfl (World.cell?_alloc_at _ _ _ _ rfl) rfl (by omega) (by simp; omega) ?_)
        intro g cap' w1 hown1 hg1 hBg hgl hgo
        have hbl1 : Below w.heap.size w w1 := (hbl.out.alloc (by omega) _).grown hg1 (by simp; omega) (fun j hj => (hown.lt j hj).1)
        have HO1 := Lib.hid (own64_snoc (z := o) hown1 HZ.out rfl)
        have HBL1 := Lib.hid hbl1
        clear hown1 hg1 hgo hown hbl1
        go_wp2
        go_roundw
        case rel =>
          refine ⟨k + 1, l2, os ++ [o], by omega, by go_num, by first | rfl | go_num, hl21, HO1.out, by show _ = _; rw [List.length_append, HZ.out]; rfl, HB.out.snoc ho32, ?_, HBL1.out⟩
          show _ = _
          rw [take_v32_next, take_v32_next, HX.out, HY.out]
          exact minus_step HZ.out HV.out HSTEP.out
        case measure => simp [intOf]; omega
    · obtain rfl : k = la := by omega
      have hq : decide (k < k) = false := by simp
      obtain ⟨a', c', rfl, hrd⟩ := own64.form HO.out
      obtain ⟨hroom, hnone⟩ := own64.room HO.out
      have HN := Lib.hid hnone
      have hnum := num32_fm HB.out
      rw [minus_done HLA.out (by rw [HLB.out]; exact HLN.out) HZ.out HB.out (by rw [H1.out.vl, H2.out.vl]; exact HLE.out) hl1 HV.out, H1.out.vl, H2.out.vl] at hnum
      have HNUM := Lib.hid hnum
      have hl2 : os.length ≤ 4194304 := by rw [HZ.out]; omega
      clear hnone hnum
      go_wp2_with fail
      refine (strip_any a' os.length c' os _ rfl (by omega) hroom HN.out hrd).mono ?_
      rintro e w' ⟨rfl, rfl⟩
      go_wp2
      go_ret
      exact ⟨_, fm os, rfl, own64_pre HO.out (fl_spec os).1, HNUM.out, hbl.out⟩

theorem little_step {os : List Nat} {k cy c2 a o n S : Nat} (hl : os.length = k) (hv : v32 os + 4294967296 ^ k * cy = S * n) (ho : o + 4294967296 * c2 = a * n + cy) :
    v32 (os ++ [o]) + 4294967296 ^ (k + 1) * c2 = (S + 4294967296 ^ k * a) * n := by
  rw [v32_snoc, hl, Nat.pow_succ, Nat.add_mul]
  have h : 4294967296 ^ k * (o + 4294967296 * c2) = 4294967296 ^ k * (a * n + cy) := by rw [ho]
  rw [Nat.mul_add, Nat.mul_add, ← Nat.mul_assoc, ← Nat.mul_assoc] at h
  omega
set_option maxHeartbeats 2000000 in
set_option maxRecDepth 100000 in
theorem rlittle_any (a : Option Addr) (la ca V n : Nat) (xs : List Nat) (w : World) (hla : xs.length = la) (hba : la ≤ 4194304) (hra : Rd .u64 w a xs) (h1 : Num32 xs V) (hn : n < 4294967296) :
    Calls Tryz.prog 203 #[.slice a la ca, .int .u64 n] w fun e w' => ∃ v zs, e = .returned v ∧ own64 w' w.heap.size v zs ∧ Num32 zs (V * n) ∧ Below w.heap.size w w' := by
  have H1 := Lib.hid h1
  have HLA := Lib.hid hla
  clear h1
  go_enter Tryz.func203, Tryz.ntmps203
  go_wp2
  go_loopw [5, 6, 7] (fun v c i wr => ∃ (k cy : Nat) (os : List Nat), k ≤ la ∧ i = .int .i64 (k : Nat) ∧ c = .int .u64 cy ∧ cy < 4294967296 ∧ Hid (own64 wr w.heap.size v os) ∧ Hid (os.length = k) ∧ Hid (Hd os) ∧ Hid (v32 os + 4294967296 ^ k * cy = v32 (xs.take k) * n) ∧ Hid (Below w.heap.size w wr)) (fun _ _ i _ => la - (intOf i).toNat)
  case atStart => exact ⟨0, 0, [], by omega, rfl, rfl, by decide, own64_nil _ _, rfl, Hd.nil, by show _ = _; simp [v32], Below.refl _ _⟩
  case round =>
    obtain ⟨k, cy, os, hk, rfl, rfl, hcy, HO, HZ, HB, HV, hbl⟩ := hrel
    have hsz := hbl.out.size
    have hown := HO.out.row HZ.out
    by_cases hlt : k < la
    · obtain ⟨ba, oa, rfl⟩ := hra.isAt (by omega)
      have hc1 := below_cell hbl.out _ _ (hra.cell (i := k) (by omega))
      have hx32 := H1.out.bd.at0 k
      obtain ⟨x, hx⟩ : ∃ x, at0 xs k = x := ⟨_, rfl⟩
      rw [hx] at hc1 hx32
      have hxn : x * n ≤ 4294967295 * 4294967295 := Nat.mul_le_mul (by omega) (by omega)
      obtain ⟨q, hq⟩ : ∃ q, q = x * n := ⟨_, rfl⟩
      have rq : (x : Int) * (n : Int) = (q : Int) := by rw [hq]; simp
      rw [← hq] at hxn
      obtain ⟨s, hs⟩ : ∃ s, s = q + cy := ⟨_, rfl⟩
      obtain ⟨o, ho⟩ : ∃ o, o = s % 4294967296 := ⟨_, rfl⟩
      obtain ⟨c2, hc2⟩ : ∃ c2, c2 = s / 4294967296 := ⟨_, rfl⟩
      have r1 : IntKind.u64.wrap (q : Int) = (q : Int) := by rw [IntKind.wrap_u64]; omega
      have r2 : (q : Int) + (cy : Int) = (s : Int) := by omega
      have r2' : IntKind.u64.wrap (s : Int) = (s : Int) := by rw [IntKind.wrap_u64]; omega
      have r3 := and_low s (by omega)
      rw [← ho] at r3
      have r4 : (s : Int) / 4294967296 = (c2 : Int) := by omega
      have HSTEP : Hid (o + 4294967296 * c2 = x * n + cy) := by show _ = _; rw [← hq]; omega
      have ho32 : o < 4294967296 := by omega
      have hc32 : c2 < 4294967296 := by omega
      have hs64 : s < 18446744073709551616 := by omega
      have HX := Lib.hid hx
      clear hx hq hs ho hc2
      go_wp2_with (at_builtin; refine wpl_app 23 47 Tryz.underlying23 info64 rfl (by decide) rfl _ _ rfl w.heap.size _ k (u64s os) rfl (hown.alloc _) wr.heap.size _ rfl (World.cell?_alloc_at _ _ _ _ rfl) rfl (by omega) (by simp; omega) ?_)
      intro g cap' w1 hown1 hg1 hBg hgl hgo
      have hbl1 : Below w.heap.size w w1 := (hbl.out.alloc (by omega) _).grown hg1 (by simp; omega) (fun j hj => (hown.lt j hj).1)
      have HO1 := Lib.hid (own64_snoc (z := o) hown1 HZ.out rfl)
      have HBL1 := Lib.hid hbl1
      clear hown1 hg1 hgo hown hbl1
      go_wp2
      go_roundw
      case rel =>
        refine ⟨k + 1, c2, os ++ [o], by omega, by go_num, by first | rfl | go_num, hc32, HO1.out, by show _ = _; rw [List.length_append, HZ.out]; rfl, HB.out.snoc ho32, ?_, HBL1.out⟩
        show _ = _
        rw [take_v32_next, HX.out]
        exact little_step HZ.out HV.out HSTEP.out
      case measure => simp [intOf]; omega
    · obtain rfl : k = la := by omega
      have hq : decide (k < k) = false := by simp
      have HT : Hid (v32 (os ++ [cy]) = V * n) := by
        show _ = _
        have h := HV.out
        rw [List.take_of_length_le (by rw [HLA.out]; omega), H1.out.vl] at h
        rw [v32_snoc, HZ.out]; exact h
      go_wp2_with (at_builtin; refine wpl_app 23 47 Tryz.underlying23 info64 rfl (by decide) rfl _ _ rfl w.heap.size _ k (u64s os) rfl (hown.alloc _) wr.heap.size _ rfl (World.cell?_alloc_at _ _ _ _ rfl) rfl (by omega) (by simp; omega) ?_)
      intro g cap' w1 hown1 hg1 hBg hgl hgo
      have hbl1 : Below w.heap.size w w1 := (hbl.out.alloc (by omega) _).grown hg1 (by simp; omega) (fun j hj => (hown.lt j hj).1)
      have HO1 := Lib.hid (own64_snoc (z := cy) hown1 HZ.out rfl)
      have HBL1 := Lib.hid hbl1
      have HL1 : Hid ((os ++ [cy]).length = k + 1) := by show _ = _; rw [List.length_append, HZ.out]; rfl
      clear hown1 hg1 hgo hown hbl1
      have hrd := (own64.rd HO1.out).2
      obtain ⟨hroom, hnone⟩ := own64.room HO1.out
      have HN := Lib.hid hnone
      have hnum := num32_fm (HB.out.snoc hcy)
      rw [HT.out] at hnum
      have HNUM := Lib.hid hnum
      clear hnum hnone
      go_wp2_with fail
      refine (strip_any (some ⟨g, 0, none⟩) (k + 1) cap' (os ++ [cy]) _ HL1.out (by omega) hroom HN.out hrd).mono ?_
      rintro e w' ⟨rfl, rfl⟩
      go_wp2
      go_ret
      exact ⟨_, fm (os ++ [cy]), rfl, own64_pre HO1.out (fl_spec _).1, HNUM.out, HBL1.out⟩

/-- The highest digits. -/
theorem surely_mul {V1 V2 P R S t d s : Nat} (hV1 : V1 = R + P * t) (hV2 : V2 = S + P * d) (hS : S < P) (hs : s * (d + 1) ≤ t) : s * V2 ≤ V1 := by
  have h1 : V2 ≤ P * (d + 1) := by rw [Nat.mul_add, Nat.mul_one]; omega
  have h2 : s * V2 ≤ s * (P * (d + 1)) := Nat.mul_le_mul_left _ h1
  have h3 : s * (P * (d + 1)) = P * (s * (d + 1)) := by rw [Nat.mul_left_comm]
  have h4 : P * (s * (d + 1)) ≤ P * t := Nat.mul_le_mul_left _ hs
  omega

theorem v32_top1 {xs : List Nat} {m : Nat} (h : xs.length = m + 1) : v32 xs = v32 (xs.take m) + 4294967296 ^ m * at0 xs m := by
  rw [v32_at xs m (by omega), List.drop_of_length_le (by omega)]; rfl
theorem v32_top2 {xs : List Nat} {m : Nat} (h : xs.length = m + 2) : v32 xs = v32 (xs.take m) + 4294967296 ^ m * (at0 xs m + at0 xs (m + 1) * 4294967296) := by
  rw [v32_at xs m (by omega), drop_v32 (by omega), List.drop_of_length_le (by omega), show v32 ([] : List Nat) = 0 from rfl, Nat.mul_zero, Nat.add_zero, Nat.mul_comm (at0 xs (m + 1))]
theorem surely_ok {V1 V2 P R S t d : Nat} (hV1 : V1 = R + P * t) (hV2 : V2 = S + P * d) (hS : S < P) (hle : V2 ≤ V1) (_h0 : 0 < V2) (hlt : V1 < V2 * 4294967296) : 1 ≤ max 1 (t / (d + 1)) ∧ max 1 (t / (d + 1)) < 4294967296 ∧ max 1 (t / (d + 1)) * V2 ≤ V1 := by
  have h1 : max 1 (t / (d + 1)) * V2 ≤ V1 := by
    rcases Nat.le_total 1 (t / (d + 1)) with h | h
    · rw [Nat.max_eq_right h]
      exact surely_mul hV1 hV2 hS (Nat.div_mul_le_self t (d + 1))
    · rw [Nat.max_eq_left h, Nat.one_mul]; exact hle
  refine ⟨Nat.le_max_left _ _, ?_, h1⟩
  apply Decidable.byContradiction
  intro hn
  have h2 : 4294967296 * V2 ≤ max 1 (t / (d + 1)) * V2 := Nat.mul_le_mul_right _ (by omega)
  rw [Nat.mul_comm V2] at hlt
  omega
theorem max_cast (s : Nat) : max (1 : Int) (s : Int) = ((max 1 s : Nat) : Int) := by omega
set_option maxHeartbeats 1000000 in
theorem rsurely_any (a b : Option Addr) (la lb ca cb V1 V2 : Nat) (xs ys : List Nat) (w : World) (hla : xs.length = la) (hlb : ys.length = lb) (hba : la ≤ 4194304) (hbb : lb ≤ 4194304)
    (hra : Rd .u64 w a xs) (hrb : Rd .u64 w b ys) (h1 : Num32 xs V1) (h2 : Num32 ys V2) (h0 : 0 < V2) (hle : V2 ≤ V1) (hlt : V1 < V2 * 4294967296) :
    Calls Tryz.prog 201 #[.slice a la ca, .slice b lb cb] w fun e w' => ∃ s : Nat, e = .returned (.int .u64 s) ∧ 1 ≤ s ∧ s < 4294967296 ∧ s * V2 ≤ V1 ∧ w = w' := by
  have hl1 : lb ≤ la := by
    have h3 := (h1.len_le (k := la)).1 (by omega)
    have := (h2.len_le (k := la)).2 (by omega)
    omega
  have hl2 : la ≤ lb + 1 := by
    have h3 := (h2.len_le (k := lb)).1 (by omega)
    have h4 := (h1.len_le (k := lb + 1)).2 (by rw [Nat.pow_succ]; exact Nat.lt_trans hlt (Nat.mul_lt_mul_of_pos_right h3 (by decide)))
    omega
  obtain ⟨m, rfl⟩ : ∃ m, lb = m + 1 := by
    refine ⟨lb - 1, ?_⟩
    have : lb ≠ 0 := fun h => by
      have h3 := h2.vl
      rw [List.length_eq_zero_iff.1 (hlb.trans h)] at h3
      have : v32 ([] : List Nat) = 0 := rfl
      omega
    omega
  obtain ⟨ba, oa, rfl⟩ := hra.isAt (by omega)
  obtain ⟨bb, ob, rfl⟩ := hrb.isAt (by omega)
  have hc0 := hra.cell (i := m) (by omega)
  have hc2 := hrb.cell (i := m) (by omega)
  have hx0 := h1.bd.at0 m
  have hd := h2.bd.at0 m
  have hS := v32_lt (h2.bd.take m)
  rw [List.length_take, Nat.min_eq_left (by omega)] at hS
  have hV2 := v32_top1 hlb
  rw [h2.vl] at hV2
  have hm1 : ((m + 1 : Nat) : Int) - 1 = (m : Int) := by omega
  have hm2 : ((m + 1 : Nat) : Int) = (m : Int) + 1 := by omega
  rcases Nat.lt_or_ge (m + 1) la with hl | hl
  · obtain rfl : la = m + 2 := by omega
    have hc1 := hra.cell (i := m + 1) (by omega)
    have hx1 := h1.bd.at0 (m + 1)
    have hV1 := v32_top2 hla
    rw [h1.vl] at hV1
    have hok := Lib.hid (surely_ok hV1 hV2 hS hle h0 hlt)
    clear hV1 hV2 hS hle h0 hlt h1 h2 hla hlb
    generalize at0 xs m = x0 at *
    generalize at0 xs (m + 1) = x1 at *
    generalize at0 ys m = d at *
    have ho := or32 x0 x1 hx0 hx1
    obtain ⟨t, ht⟩ : ∃ t, t = x0 + x1 * 4294967296 := ⟨_, rfl⟩
    rw [← ht] at hok ho
    obtain ⟨s, hs⟩ : ∃ s, s = t / (d + 1) := ⟨_, rfl⟩
    rw [← hs] at hok
    have r1 : IntKind.u64.wrap ((d : Int) + 1) = (d : Int) + 1 := by rw [IntKind.wrap_u64]; omega
    have r2 : (t : Int).tdiv ((d : Int) + 1) = (s : Int) := by rw [hs]; norm_cast
    have r2' : (t : Int) / ((d : Int) + 1) = (s : Int) := by rw [hs]; norm_cast
    have ht64 : t < 18446744073709551616 := by omega
    have hs64 : s ≤ t := by rw [hs]; exact Nat.div_le_self _ _
    clear ht hs
    go_enter Tryz.func201, Tryz.ntmps201
    go_wp2
    go_ret
    exact ⟨max 1 s, by rw [← max_cast]; rfl, hok.out.1, hok.out.2.1, hok.out.2.2, rfl⟩
  · obtain rfl : la = m + 1 := by omega
    have hV1 := v32_top1 hla
    rw [h1.vl] at hV1
    have hok := Lib.hid (surely_ok hV1 hV2 hS hle h0 hlt)
    clear hV1 hV2 hS hle h0 hlt h1 h2 hla hlb
    generalize at0 xs m = t at *
    generalize at0 ys m = d at *
    obtain ⟨s, hs⟩ : ∃ s, s = t / (d + 1) := ⟨_, rfl⟩
    rw [← hs] at hok
    have r1 : IntKind.u64.wrap ((d : Int) + 1) = (d : Int) + 1 := by rw [IntKind.wrap_u64]; omega
    have r2 : (t : Int).tdiv ((d : Int) + 1) = (s : Int) := by rw [hs]; norm_cast
    have r2' : (t : Int) / ((d : Int) + 1) = (s : Int) := by rw [hs]; norm_cast
    have ht64 : t < 18446744073709551616 := by omega
    have hs64 : s ≤ t := by rw [hs]; exact Nat.div_le_self _ _
    clear hs
    go_enter Tryz.func201, Tryz.ntmps201
    go_wp2
    go_ret
    exact ⟨max 1 s, by rw [← max_cast]; rfl, hok.out.1, hok.out.2.1, hok.out.2.2, rfl⟩
end Go.Proofs.YtaookoejdnkkoaaGreatDoor
