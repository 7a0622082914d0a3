import Derived.Test.YthccccpcjafdcaaDoorRMinus
namespace Go.Proofs.YthccccpcjafdcaaDoor
open Go.RowKit

theorem little_step {os : List Nat} {k cy c2 a o n S : Nat} (hl : os.length = k) (hv : v32 os + 4294967296 ^ k * cy = S * n) (ho : o + 4294967296 * c2 = a * n + cy) :
    v32 (os ++ [o]) + 4294967296 ^ (k + 1) * c2 = (S + 4294967296 ^ k * a) * n := by
  rw [v32_snoc, hl, Nat.pow_succ, Nat.add_mul]
  have h : 4294967296 ^ k * (o + 4294967296 * c2) = 4294967296 ^ k * (a * n + cy) := by rw [ho]
  rw [Nat.mul_add, Nat.mul_add, ← Nat.mul_assoc, ← Nat.mul_assoc] at h
  omega
set_option maxHeartbeats 2000000 in
set_option maxRecDepth 100000 in
theorem rlittle_any (a : Option Addr) (la ca V n : Nat) (xs : List Nat) (w : World) (hla : xs.length = la) (hba : la ≤ 4194304) (hra : Rd .u64 w a xs) (h1 : Num32 xs V) (hn : n < 4294967296) :
    Calls Tryd.prog 79 #[.slice a la ca, .int .u64 n] w fun e w' => ∃ v zs, e = .returned v ∧ own64 w' w.heap.size v zs ∧ Num32 zs (V * n) ∧ Below w.heap.size w w' := by
  have H1 := Lib.hid h1
  have HLA := Lib.hid hla
  clear h1
  go_enter Tryd.func79, Tryd.ntmps79
  go_wp2
  go_loopw [5, 6, 7] (fun v c i wr => ∃ (k cy : Nat) (os : List Nat), k ≤ la ∧ i = .int .i64 (k : Nat) ∧ c = .int .u64 cy ∧ cy < 4294967296 ∧ Hid (own64 wr w.heap.size v os) ∧ Hid (os.length = k) ∧ Hid (Hd os) ∧ Hid (v32 os + 4294967296 ^ k * cy = v32 (xs.take k) * n) ∧ Hid (Below w.heap.size w wr)) (fun _ _ i _ => la - (intOf i).toNat)
  case atStart => exact ⟨0, 0, [], by omega, rfl, rfl, by decide, own64_nil _ _, rfl, Hd.nil, by show _ = _; simp [v32], Below.refl _ _⟩
  case round =>
    obtain ⟨k, cy, os, hk, rfl, rfl, hcy, HO, HZ, HB, HV, hbl⟩ := hrel
    have hsz := hbl.out.size
    have hown := HO.out.row HZ.out
    by_cases hlt : k < la
    · obtain ⟨ba, oa, rfl⟩ := hra.isAt (by omega)
      have hc1 := below_cell hbl.out _ _ (hra.cell (i := k) (by omega))
      have hx32 := H1.out.bd.at0 k
      obtain ⟨x, hx⟩ : ∃ x, at0 xs k = x := ⟨_, rfl⟩
      rw [hx] at hc1 hx32
      have hxn : x * n ≤ 4294967295 * 4294967295 := Nat.mul_le_mul (by omega) (by omega)
      obtain ⟨q, hq⟩ : ∃ q, q = x * n := ⟨_, rfl⟩
      have rq : (x : Int) * (n : Int) = (q : Int) := by rw [hq]; simp
      rw [← hq] at hxn
      obtain ⟨s, hs⟩ : ∃ s, s = q + cy := ⟨_, rfl⟩
      obtain ⟨o, ho⟩ : ∃ o, o = s % 4294967296 := ⟨_, rfl⟩
      obtain ⟨c2, hc2⟩ : ∃ c2, c2 = s / 4294967296 := ⟨_, rfl⟩
      have r1 : IntKind.u64.wrap (q : Int) = (q : Int) := by rw [IntKind.wrap_u64]; omega
      have r2 : (q : Int) + (cy : Int) = (s : Int) := by omega
      have r2' : IntKind.u64.wrap (s : Int) = (s : Int) := by rw [IntKind.wrap_u64]; omega
      have r3 := and_low s (by omega)
      rw [← ho] at r3
      have r4 : (s : Int) / 4294967296 = (c2 : Int) := by omega
      have HSTEP : Hid (o + 4294967296 * c2 = x * n + cy) := by show _ = _; rw [← hq]; omega
      have ho32 : o < 4294967296 := by omega
      have hc32 : c2 < 4294967296 := by omega
      have hs64 : s < 18446744073709551616 := by omega
      have HX := Lib.hid hx
      clear hx hq hs ho hc2
      go_wp2_with (at_builtin; refine wpl_app 22 57 Tryd.underlying22 info64 rfl (by decide) rfl _ _ rfl w.heap.size _ k (u64s os) rfl (hown.alloc _) wr.heap.size _ rfl (World.cell?_alloc_at _ _ _ _ rfl) rfl (by omega) (by simp; omega) ?_)
      intro g cap' w1 hown1 hg1 hBg hgl hgo
      have hbl1 : Below w.heap.size w w1 := (hbl.out.alloc (by omega) _).grown hg1 (by simp; omega) (fun j hj => (hown.lt j hj).1)
      have HO1 := Lib.hid (own64_snoc (z := o) hown1 HZ.out rfl)
      have HBL1 := Lib.hid hbl1
      clear hown1 hg1 hgo hown hbl1
      go_wp2
      go_roundw
      case rel =>
        refine ⟨k + 1, c2, os ++ [o], by omega, by go_num, by first | rfl | go_num, hc32, HO1.out, by show _ = _; rw [List.length_append, HZ.out]; rfl, HB.out.snoc ho32, ?_, HBL1.out⟩
        show _ = _
        rw [take_v32_next, HX.out]
        exact little_step HZ.out HV.out HSTEP.out
      case measure => simp [intOf]; omega
    · obtain rfl : k = la := by omega
      have hq : decide (k < k) = false := by simp
      have HT : Hid (v32 (os ++ [cy]) = V * n) := by
        show _ = _
        have h := HV.out
        rw [List.take_of_length_le (by rw [HLA.out]; omega), H1.out.vl] at h
        rw [v32_snoc, HZ.out]; exact h
      go_wp2_with (at_builtin; refine wpl_app 22 57 Tryd.underlying22 info64 rfl (by decide) rfl _ _ rfl w.heap.size _ k (u64s os) rfl (hown.alloc _) wr.heap.size _ rfl (World.cell?_alloc_at _ _ _ _ rfl) rfl (by omega) (by simp; omega) ?_)
      intro g cap' w1 hown1 hg1 hBg hgl hgo
      have hbl1 : Below w.heap.size w w1 := (hbl.out.alloc (by omega) _).grown hg1 (by simp; omega) (fun j hj => (hown.lt j hj).1)
      have HO1 := Lib.hid (own64_snoc (z := cy) hown1 HZ.out rfl)
      have HBL1 := Lib.hid hbl1
      have HL1 : Hid ((os ++ [cy]).length = k + 1) := by show _ = _; rw [List.length_append, HZ.out]; rfl
      clear hown1 hg1 hgo hown hbl1
      have hrd := (own64.rd HO1.out).2
      obtain ⟨hroom, hnone⟩ := own64.room HO1.out
      have HN := Lib.hid hnone
      have hnum := num32_fm (HB.out.snoc hcy)
      rw [HT.out] at hnum
      have HNUM := Lib.hid hnum
      clear hnum hnone
      go_wp2_with fail
      refine (strip_any (some ⟨g, 0, none⟩) (k + 1) cap' (os ++ [cy]) _ HL1.out (by omega) hroom HN.out hrd).mono ?_
      rintro e w' ⟨rfl, rfl⟩
      go_wp2
      go_ret
      exact ⟨_, fm (os ++ [cy]), rfl, own64_pre HO1.out (fl_spec _).1, HNUM.out, HBL1.out⟩

/-- The highest digits. -/
theorem surely_mul {V1 V2 P R S t d s : Nat} (hV1 : V1 = R + P * t) (hV2 : V2 = S + P * d) (hS : S < P) (hs : s * (d + 1) ≤ t) : s * V2 ≤ V1 := by
  have h1 : V2 ≤ P * (d + 1) := by rw [Nat.mul_add, Nat.mul_one]; omega
  have h2 : s * V2 ≤ s * (P * (d + 1)) := Nat.mul_le_mul_left _ h1
  have h3 : s * (P * (d + 1)) = P * (s * (d + 1)) := by rw [Nat.mul_left_comm]
  have h4 : P * (s * (d + 1)) ≤ P * t := Nat.mul_le_mul_left _ hs
  omega
end Go.Proofs.YthccccpcjafdcaaDoor
