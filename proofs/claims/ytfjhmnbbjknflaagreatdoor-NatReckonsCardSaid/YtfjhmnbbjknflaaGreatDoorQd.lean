import Derived.Test.YtfjhmnbbjknflaaGreatDoorQf
namespace Go.Proofs.YtfjhmnbbjknflaaGreatDoor
open Go.RowKit

theorem and_uno (a : Nat) (h : a < 18446744073709551616) : bits BinOp.and IntKind.u64 (a : Int) 1 = ((a % 2 : Nat) : Int) := by
  have := u64_and_nat a 1 h (by decide)
  rw [show ((1 : Nat) : Int) = 1 from rfl] at this
  rw [this]
  exact congrArg _ (Nat.and_two_pow_sub_one_eq_mod a 1)
theorem down_step {S T p a x y o : Nat} (hv : 2 * S + a = T + p * (x % 2)) (ho : 2 * o + x % 2 = x + 4294967296 * (y % 2)) : 2 * (S + p * o) + a = T + p * x + p * 4294967296 * (y % 2) := by
  have h1 : p * (2 * o + x % 2) = p * (x + 4294967296 * (y % 2)) := by rw [ho]
  rw [Nat.mul_add, Nat.mul_add, ← Nat.mul_assoc p 4294967296] at h1
  have h2 : p * (2 * o) = 2 * (p * o) := by rw [Nat.mul_left_comm]
  rw [h2] at h1
  rw [Nat.mul_add]
  generalize p * o = po at *
  generalize p * x = px at *
  generalize p * (x % 2) = pe at *
  generalize p * 4294967296 * (y % 2) = pb at *
  omega
set_option maxHeartbeats 2000000 in
set_option maxRecDepth 100000 in
theorem down_any (a : Option Addr) (la ca V : Nat) (hs : List Nat) (w : World) (hla : hs.length = la) (hba : la ≤ 4194304) (hra : Rd .u64 w a hs) (h1 : Num32 hs V) :
    Calls Tryz.prog 133 #[.slice a la ca] w fun e w' => ∃ v zs, e = .returned v ∧ own64 w' w.heap.size v zs ∧ Num32 zs (V / 2) ∧ Below w.heap.size w w' := by
  have H1 := Lib.hid h1
  have HLA := Lib.hid hla
  clear h1
  go_enter Tryz.func133, Tryz.ntmps133
  go_wp2
  go_loopw [3, 4] (fun v i wr => ∃ (k : Nat) (os : List Nat), k ≤ la ∧ i = .int .i64 (k : Nat) ∧ Hid (own64 wr w.heap.size v os) ∧ Hid (os.length = k) ∧ Hid (Hd os) ∧ Hid (2 * v32 os + at0 hs 0 % 2 = v32 (hs.take k) + 4294967296 ^ k * (at0 hs k % 2)) ∧ Hid (Below w.heap.size w wr)) (fun _ i _ => la - (intOf i).toNat)
  case atStart => exact ⟨0, [], by omega, rfl, own64_nil _ _, rfl, Hd.nil, by show _ = _; simp [v32], Below.refl _ _⟩
  case round =>
    obtain ⟨k, os, hk, rfl, HO, HZ, HB, HV, hbl⟩ := hrel
    have hsz := hbl.out.size
    by_cases hlt : k < la
    · obtain ⟨ba, oa, rfl⟩ := hra.isAt (by omega)
      have hc1 := below_cell hbl.out _ _ (hra.cell (i := k) (by omega))
      have hown := HO.out.row HZ.out
      have hx32 := H1.out.bd.at0 k
      have hy32 := H1.out.bd.at0 (k + 1)
      obtain ⟨x, hx⟩ : ∃ x, at0 hs k = x := ⟨_, rfl⟩
      obtain ⟨y, hy⟩ : ∃ y, at0 hs (k + 1) = y := ⟨_, rfl⟩
      rw [hx] at hc1 hx32
      rw [hy] at hy32
      have HX := Lib.hid hx
      have HY := Lib.hid hy
      have hqk : decide (k < la) = true := decide_eq_true hlt
      obtain ⟨h, hh⟩ : ∃ h, h = x / 2 := ⟨_, rfl⟩
      have rh : (x : Int) / 2 = (h : Int) := by omega
      rcases Nat.lt_or_ge (k + 1) la with hk1 | hk1
      · have hc2 := below_cell hbl.out _ _ (hra.cell (i := k + 1) (by omega))
        rw [HY.out] at hc2
        have hq1 : decide (k + 1 < la) = true := decide_eq_true hk1
        have hq2 : decide ((k : Int) + 1 < (la : Int)) = true := by rw [decide_eq_true_iff]; omega
        obtain ⟨s, hs2⟩ : ∃ s, s = y % 2 := ⟨_, rfl⟩
        obtain ⟨t, ht⟩ : ∃ t, t = s * 2147483648 := ⟨_, rfl⟩
        obtain ⟨o, ho⟩ : ∃ o, o = h + t := ⟨_, rfl⟩
        have hs1 : s ≤ 1 := by omega
        have ra : bits BinOp.and IntKind.u64 (y : Int) 1 = (s : Int) := by rw [and_uno y (by omega), hs2]
        have rb : IntKind.u64.wrap ((s : Int) * 2147483648) = (t : Int) := by rw [IntKind.wrap_u64]; omega
        have rc : (s : Int) * 2147483648 = (t : Int) := by omega
        have rd : bits BinOp.or IntKind.u64 (h : Int) (t : Int) = (o : Int) := by
          have h2 := or_add (o := h) (s := s) (k := 31) (by omega) (by omega) (by omega)
          rw [ht, ho, ht]
          exact h2
        have HST : Hid (2 * o + x % 2 = x + 4294967296 * (y % 2)) := by show _ = _; omega
        have ho32 : o < 4294967296 := by omega
        clear hx hy hh hs2 ht ho
        go_wp2_with (at_builtin; refine wpl_app 22 61 Tryz.underlying22 info64 rfl (by decide) rfl _ _ rfl w.heap.size _ k (u64s os) rfl (hown.alloc _) wr.heap.size _ rfl (World.cell?_alloc_at _ _ _ _ rfl) rfl (by omega) (by simp; omega) ?_)
        intro g cap' w1 hown1 hg1 hBg hgl hgo
        have hbl1 : Below w.heap.size w w1 := (hbl.out.alloc (by omega) _).grown hg1 (by simp; omega) (fun j hj => (hown.lt j hj).1)
        have HO1 := Lib.hid (own64_snoc (z := o) hown1 HZ.out rfl)
        have HBL1 := Lib.hid hbl1
        clear hown1 hg1 hgo hown hbl1
        go_wp2
        go_roundw
        case rel =>
          refine ⟨k + 1, os ++ [o], by omega, by go_num, HO1.out, by show _ = _; rw [List.length_append, HZ.out]; rfl, HB.out.snoc ho32, ?_, HBL1.out⟩
          show _ = _
          rw [take_v32_next, v32_snoc, HX.out, HY.out, HZ.out, Nat.pow_succ]
          have h2 := HV.out
          rw [HX.out] at h2
          exact down_step h2 HST.out
        case measure => simp [intOf]; omega
      · have hq1 : decide (k + 1 < la) = false := decide_eq_false (by omega)
        have hq2 : decide ((k : Int) + 1 < (la : Int)) = false := by rw [decide_eq_false_iff_not]; omega
        have hy0 : y = 0 := by rw [← HY.out]; exact at0_out (by rw [HLA.out]; exact hk1)
        have HST : Hid (2 * h + x % 2 = x + 4294967296 * (y % 2)) := by show _ = _; omega
        have ho32 : h < 4294967296 := by omega
        clear hx hy hh hy0
        go_wp2_with (at_builtin; refine wpl_app 22 61 Tryz.underlying22 info64 rfl (by decide) rfl _ _ rfl w.heap.size _ k (u64s os) rfl (hown.alloc _) wr.heap.size _ rfl (World.cell?_alloc_at _ _ _ _ rfl) rfl (by omega) (by simp; omega) ?_)
        intro g cap' w1 hown1 hg1 hBg hgl hgo
        have hbl1 : Below w.heap.size w w1 := (hbl.out.alloc (by omega) _).grown hg1 (by simp; omega) (fun j hj => (hown.lt j hj).1)
        have HO1 := Lib.hid (own64_snoc (z := h) hown1 HZ.out rfl)
        have HBL1 := Lib.hid hbl1
        clear hown1 hg1 hgo hown hbl1
        go_wp2
        go_roundw
        case rel =>
          refine ⟨k + 1, os ++ [h], by omega, by go_num, HO1.out, by show _ = _; rw [List.length_append, HZ.out]; rfl, HB.out.snoc ho32, ?_, HBL1.out⟩
          show _ = _
          rw [take_v32_next, v32_snoc, HX.out, HY.out, HZ.out, Nat.pow_succ]
          have h2 := HV.out
          rw [HX.out] at h2
          exact down_step h2 HST.out
        case measure => simp [intOf]; omega
    · obtain rfl : k = la := by omega
      have hq : decide (k < k) = false := by simp
      obtain ⟨a', c', rfl, hrd⟩ := own64.form HO.out
      obtain ⟨hroom, hnone⟩ := own64.room HO.out
      have HN := Lib.hid hnone
      have hnum := num32_fm HB.out
      have hend : v32 os = V / 2 := by
        have h2 := HV.out
        rw [at0_out (xs := hs) (i := k) (by rw [HLA.out]; exact Nat.le_refl _), List.take_of_length_le (by rw [HLA.out]; exact Nat.le_refl _), H1.out.vl] at h2
        have h3 : at0 hs 0 % 2 < 2 := Nat.mod_lt _ (by decide)
        generalize at0 hs 0 % 2 = a0 at *
        simp at h2
        omega
      rw [hend] at hnum
      have HNUM := Lib.hid hnum
      have hl2 : os.length ≤ 4194304 := by rw [HZ.out]; omega
      clear hnone hnum hend
      go_wp2_with fail
      refine (strip_any a' os.length c' os _ rfl (by omega) hroom HN.out hrd).mono ?_
      rintro e w' ⟨rfl, rfl⟩
      go_wp2
      go_ret
      exact ⟨_, fm os, rfl, own64_pre HO.out (fl_spec os).1, HNUM.out, hbl.out⟩
end Go.Proofs.YtfjhmnbbjknflaaGreatDoor
