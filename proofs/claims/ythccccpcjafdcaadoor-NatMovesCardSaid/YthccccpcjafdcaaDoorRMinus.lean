import Derived.Test.YthccccpcjafdcaaDoorRCmp
namespace Go.Proofs.YthccccpcjafdcaaDoor
open Go.RowKit

theorem minus_step {os : List Nat} {k lent l2 a b o S T : Nat} (hl : os.length = k) (hv : v32 os + T = S + 4294967296 ^ k * lent) (ho : o + b + lent = a + 4294967296 * l2) :
    v32 (os ++ [o]) + (T + 4294967296 ^ k * b) = (S + 4294967296 ^ k * a) + 4294967296 ^ (k + 1) * l2 := by
  rw [v32_snoc, hl, Nat.pow_succ]
  have h : 4294967296 ^ k * (o + b + lent) = 4294967296 ^ k * (a + 4294967296 * l2) := by rw [ho]
  rw [Nat.mul_add, Nat.mul_add, Nat.mul_add, ← Nat.mul_assoc] at h
  omega
theorem take_v32_next (ys : List Nat) (k : Nat) : v32 (ys.take (k + 1)) = v32 (ys.take k) + 4294967296 ^ k * at0 ys k := by
  rcases Nat.lt_or_ge k ys.length with h | h
  · exact take_v32_snoc h
  · rw [List.take_of_length_le (by omega), List.take_of_length_le h, at0_out h]; simp
theorem minus_done {os xs ys : List Nat} {k lent : Nat} (hx : xs.length = k) (hy : ys.length ≤ k) (hl : os.length = k) (hb : Hd os) (hle : v32 ys ≤ v32 xs) (hl1 : lent ≤ 1) (hv : v32 os + v32 (ys.take k) = v32 (xs.take k) + 4294967296 ^ k * lent) : v32 os = v32 xs - v32 ys := by
  rw [List.take_of_length_le hy, List.take_of_length_le (by omega)] at hv
  have h1 := v32_lt hb
  rw [hl] at h1
  rcases Nat.eq_zero_or_pos lent with rfl | h
  · omega
  · obtain rfl : lent = 1 := by omega
    omega
set_option maxHeartbeats 2000000 in
set_option maxRecDepth 100000 in
theorem rminus_any (a b : Option Addr) (la lb ca cb V1 V2 : Nat) (xs ys : List Nat) (w : World) (hla : xs.length = la) (hlb : ys.length = lb) (hba : la ≤ 4194304) (hbb : lb ≤ 4194304)
    (hra : Rd .u64 w a xs) (hrb : Rd .u64 w b ys) (h1 : Num32 xs V1) (h2 : Num32 ys V2) (hle : V2 ≤ V1) :
    Calls Tryd.prog 78 #[.slice a la ca, .slice b lb cb] w fun e w' => ∃ v zs, e = .returned v ∧ own64 w' w.heap.size v zs ∧ Num32 zs (V1 - V2) ∧ Below w.heap.size w w' := by
  have hlen : lb ≤ la := by
    have h3 := (h1.len_le (k := la)).1 (by omega)
    have := (h2.len_le (k := la)).2 (by omega)
    omega
  have H1 := Lib.hid h1
  have H2 := Lib.hid h2
  have HLE := Lib.hid hle
  have HLB := Lib.hid hlb
  have HLA := Lib.hid hla
  have HLN := Lib.hid hlen
  clear h1 h2 hle hlen
  go_enter Tryd.func78, Tryd.ntmps78
  go_wp2
  go_loopw [5, 6, 7] (fun v c i wr => ∃ (k lent : Nat) (os : List Nat), k ≤ la ∧ i = .int .i64 (k : Nat) ∧ c = .int .u64 lent ∧ lent ≤ 1 ∧ Hid (own64 wr w.heap.size v os) ∧ Hid (os.length = k) ∧ Hid (Hd os) ∧ Hid (v32 os + v32 (ys.take k) = v32 (xs.take k) + 4294967296 ^ k * lent) ∧ Hid (Below w.heap.size w wr)) (fun _ _ i _ => la - (intOf i).toNat)
  case atStart => exact ⟨0, 0, [], by omega, rfl, rfl, by decide, own64_nil _ _, rfl, Hd.nil, by show _ = _; simp [v32], Below.refl _ _⟩
  case round =>
    obtain ⟨k, lent, os, hk, rfl, rfl, hl1, HO, HZ, HB, HV, hbl⟩ := hrel
    have hsz := hbl.out.size
    by_cases hlt : k < la
    · obtain ⟨ba, oa, rfl⟩ := hra.isAt (by omega)
      have hc1 := below_cell hbl.out _ _ (hra.cell (i := k) (by omega))
      have hown := HO.out.row HZ.out
      have hx32 := H1.out.bd.at0 k
      obtain ⟨x, hx⟩ : ∃ x, at0 xs k = x := ⟨_, rfl⟩
      rw [hx] at hc1 hx32
      have hy32 := H2.out.bd.at0 k
      obtain ⟨y, hy⟩ : ∃ y, at0 ys k = y := ⟨_, rfl⟩
      rw [hy] at hy32
      obtain ⟨x1, hx1⟩ : ∃ x1, x1 = x + 4294967296 - lent := ⟨_, rfl⟩
      obtain ⟨x2, hx2⟩ : ∃ x2, x2 = x1 - y := ⟨_, rfl⟩
      obtain ⟨o, ho⟩ : ∃ o, o = x2 % 4294967296 := ⟨_, rfl⟩
      obtain ⟨u, hu⟩ : ∃ u, u = x2 / 4294967296 := ⟨_, rfl⟩
      obtain ⟨l2, hl2⟩ : ∃ l2, l2 = 1 - u := ⟨_, rfl⟩
      have hu1 : u ≤ 1 := by omega
      have r0 : IntKind.u64.wrap ((x : Int) + 4294967296) = (x : Int) + 4294967296 := by rw [IntKind.wrap_u64]; omega
      have r1 : IntKind.u64.wrap ((x : Int) + 4294967296 - (lent : Int)) = (x1 : Int) := by rw [IntKind.wrap_u64]; omega
      have r2 : IntKind.u64.wrap ((x1 : Int) - (y : Int)) = (x2 : Int) := by rw [IntKind.wrap_u64]; omega
      have r3 := and_low x2 (by omega)
      rw [← ho] at r3
      have r4 : (x2 : Int) / 4294967296 = (u : Int) := by omega
      have r5 : IntKind.u64.wrap (1 - (u : Int)) = (l2 : Int) := by rw [IntKind.wrap_u64]; omega
      have r6 : (x : Int) + 4294967296 - (lent : Int) = (x1 : Int) := by omega
      have r7 : (x1 : Int) - (y : Int) = (x2 : Int) := by omega
      have r8 : 1 - (u : Int) = (l2 : Int) := by omega
      have HSTEP : Hid (o + y + lent = x + 4294967296 * l2) := by show _ = _; omega
      have ho32 : o < 4294967296 := by omega
      have hl21 : l2 ≤ 1 := by omega
      have hx1b : x1 < 18446744073709551616 := by omega
      have hx2b : x2 < 18446744073709551616 := by omega
      have HX := Lib.hid hx
      have HY := Lib.hid hy
      have e12 : lb ≤ k → x1 = x2 := fun h => by
        have h3 : y = 0 := by rw [← HY.out]; exact at0_out (by rw [HLB.out]; exact h)
        omega
      have E12 := Lib.hid e12
      have HX2 := Lib.hid hx2
      clear hx hy hx1 ho hu hl2 e12 hx2
      rcases Nat.lt_or_ge k lb with hkl | hkl
      · obtain ⟨bb, ob, rfl⟩ := hrb.isAt (by omega)
        have hc2 := below_cell hbl.out _ _ (hrb.cell (i := k) (by omega))
        rw [HY.out] at hc2
        have hq : decide (k < lb) = true := by rw [decide_eq_true_iff]; exact hkl
        go_wp2_with (at_builtin; refine wpl_app 22 57 Tryd.underlying22 info64 rfl (by decide) rfl _ _ rfl w.heap.size _ k (u64s os) rfl (hown.alloc _) wr.heap.size _ rfl (World.cell?_alloc_at _ _ _ _ rfl) rfl (by omega) (by simp; omega) ?_)
        intro g cap' w1 hown1 hg1 hBg hgl hgo
        have hbl1 : Below w.heap.size w w1 := (hbl.out.alloc (by omega) _).grown hg1 (by simp; omega) (fun j hj => (hown.lt j hj).1)
        have HO1 := Lib.hid (own64_snoc (z := o) hown1 HZ.out rfl)
        have HBL1 := Lib.hid hbl1
        clear hown1 hg1 hgo hown hbl1
        go_wp2
        go_roundw
        case rel =>
          refine ⟨k + 1, l2, os ++ [o], by omega, by go_num, by first | rfl | go_num, hl21, HO1.out, by show _ = _; rw [List.length_append, HZ.out]; rfl, HB.out.snoc ho32, ?_, HBL1.out⟩
          show _ = _
          rw [take_v32_next, take_v32_next, HX.out, HY.out]
          exact minus_step HZ.out HV.out HSTEP.out
        case measure => simp [intOf]; omega
      · have hq : decide (k < lb) = false := by rw [decide_eq_false_iff_not]; omega
        obtain rfl := E12.out hkl
        go_wp2_with (at_builtin; refine wpl_app 22 57 Tryd.underlying22 info64 rfl (by decide) rfl _ _ rfl w.heap.size _ k (u64s os) rfl (hown.alloc _) wr.heap.size _ rfl (World.cell?_alloc_at _ _ _ _ rfl) rfl (by omega) (by simp; omega) ?_)
        intro g cap' w1 hown1 hg1 hBg hgl hgo
        have hbl1 : Below w.heap.size w w1 := (hbl.out.alloc (by omega) _).grown hg1 (by simp; omega) (fun j hj => (hown.lt j hj).1)
        have HO1 := Lib.hid (own64_snoc (z := o) hown1 HZ.out rfl)
        have HBL1 := Lib.hid hbl1
        clear hown1 hg1 hgo hown hbl1
        go_wp2
        go_roundw
        case rel =>
          refine ⟨k + 1, l2, os ++ [o], by omega, by go_num, by first | rfl | go_num, hl21, HO1.out, by show _ = _; rw [List.length_append, HZ.out]; rfl, HB.out.snoc ho32, ?_, HBL1.out⟩
          show _ = _
          rw [take_v32_next, take_v32_next, HX.out, HY.out]
          exact minus_step HZ.out HV.out HSTEP.out
        case measure => simp [intOf]; omega
    · obtain rfl : k = la := by omega
      have hq : decide (k < k) = false := by simp
      obtain ⟨a', c', rfl, hrd⟩ := own64.form HO.out
      obtain ⟨hroom, hnone⟩ := own64.room HO.out
      have HN := Lib.hid hnone
      have hnum := num32_fm HB.out
      rw [minus_done HLA.out (by rw [HLB.out]; exact HLN.out) HZ.out HB.out (by rw [H1.out.vl, H2.out.vl]; exact HLE.out) hl1 HV.out, H1.out.vl, H2.out.vl] at hnum
      have HNUM := Lib.hid hnum
      have hl2 : os.length ≤ 4194304 := by rw [HZ.out]; omega
      clear hnone hnum
      go_wp2_with fail
      refine (strip_any a' os.length c' os _ rfl (by omega) hroom HN.out hrd).mono ?_
      rintro e w' ⟨rfl, rfl⟩
      go_wp2
      go_ret
      exact ⟨_, fm os, rfl, own64_pre HO.out (fl_spec os).1, HNUM.out, hbl.out⟩
end Go.Proofs.YthccccpcjafdcaaDoor
