import Derived.Test.YteanpdiceaijhaaDoorNatB
namespace Go.Proofs.YteanpdiceaijhaaDoor
open Go.RowKit

def cmpI (a b : Nat) : Int := if a < b then -1 else if a = b then 0 else 1

theorem val_at (xs : List Nat) (k : Nat) (h : k < xs.length) : val xs = val (xs.take k) + 18446744073709551616 ^ k * (at0 xs k + 18446744073709551616 * val (xs.drop (k + 1))) := by
  have h1 : xs = xs.take k ++ (at0 xs k :: xs.drop (k + 1)) := by
    rw [at0_getElem h, ← List.drop_eq_getElem_cons h, List.take_append_drop]
  rw (config := { occs := .pos [1] }) [h1]
  rw [val_append, List.length_take, Nat.min_eq_left (by omega), val_cons]
theorem val_lt_of_top {xs ys : List Nat} {k : Nat} (bx : Bd xs) (hl : xs.length = ys.length) (hk : k < xs.length) (h : xs.drop (k + 1) = ys.drop (k + 1)) (hlt : at0 xs k < at0 ys k) : val xs < val ys := by
  rw [val_at xs k hk, val_at ys k (by omega), h]
  have h1 := val_lt (bx.take k)
  rw [List.length_take, Nat.min_eq_left (by omega)] at h1
  generalize val (ys.drop (k + 1)) = t
  have h2 : 18446744073709551616 ^ k * (at0 xs k + 18446744073709551616 * t + 1) ≤ 18446744073709551616 ^ k * (at0 ys k + 18446744073709551616 * t) := Nat.mul_le_mul_left _ (by omega)
  rw [Nat.mul_add] at h2
  omega
theorem drop_succ_eq {xs ys : List Nat} {k : Nat} (hl : xs.length = ys.length) (hk : k < xs.length) (h : xs.drop (k + 1) = ys.drop (k + 1)) (he : at0 xs k = at0 ys k) : xs.drop k = ys.drop k := by
  rw [List.drop_eq_getElem_cons hk, List.drop_eq_getElem_cons (show k < ys.length by omega), h, ← at0_getElem hk, ← at0_getElem (show k < ys.length by omega), he]
theorem val_lt_of_len {xs ys : List Nat} (bx : Bd xs) (cy : Cn ys) (h : xs.length < ys.length) : val xs < val ys := by
  have h1 := val_lt bx
  have hpos : 0 < ys.length := by omega
  rw [val_at ys (ys.length - 1) (by omega)]
  have hc := cy hpos
  have h2 : 18446744073709551616 ^ xs.length ≤ 18446744073709551616 ^ (ys.length - 1) := Nat.pow_le_pow_right (by decide) (by omega)
  have h3 : 18446744073709551616 ^ (ys.length - 1) * 1 ≤ 18446744073709551616 ^ (ys.length - 1) * (at0 ys (ys.length - 1) + 18446744073709551616 * val (ys.drop (ys.length - 1 + 1))) := Nat.mul_le_mul_left _ (by omega)
  omega
theorem cmpI_of_lt {a b : Nat} (h : a < b) : cmpI a b = -1 := by simp [cmpI, h]
theorem cmpI_of_gt {a b : Nat} (h : b < a) : cmpI a b = 1 := by simp [cmpI]; omega
theorem cmpI_self (a : Nat) : cmpI a a = 0 := by simp [cmpI]

def CmpPost (r : Int) (w : World) (e : Ending) (w' : World) : Prop := e = .returned (.int .i64 r) ∧ ∃ n, w' = w.drewN n

set_option maxHeartbeats 1000000 in
theorem cmp_any (a b : Option Addr) (la lb ca cb : Nat) (xs ys : List Nat) (w : World) (hla : xs.length = la) (hlb : ys.length = lb) (hba : la ≤ 1099511627776) (hbb : lb ≤ 1099511627776) (hca : la ≤ ca) (hcb : lb ≤ cb)
    (hra : Rd .u64 w a xs) (hrb : Rd .u64 w b ys) (bx : Bd xs) (bY : Bd ys) :
    Calls Tryd.prog 31 #[.slice a la ca, .slice b lb cb] w (CmpPost (cmpI (val xs) (val ys)) w) := by
  have hfa := (fl_spec xs).1
  have hfb := (fl_spec ys).1
  go_enter Tryd.func31, Tryd.ntmps31
  go_wp2_with fail
  refine (form_any _ _ _ xs _ hla hba hca hra).mono ?_
  rintro e w' ⟨⟨a1, c1, rfl, g1, g2⟩, rfl⟩
  have G1 := Lib.hid g1
  have G2 := Lib.hid g2
  clear g1 g2
  go_wp2_with fail
  refine (form_any _ _ _ ys _ hlb hbb hcb hrb).mono ?_
  rintro e w' ⟨⟨b1, d1, rfl, k1, k2⟩, rfl⟩
  have K1 := Lib.hid k1
  have K2 := Lib.hid k2
  clear k1 k2
  by_cases hne : fl xs = fl ys
  · have hne1 : ((fl xs : Int) != (fl ys : Int)) = false := by simp; omega
    have HN := Lib.hid hne
    clear hne
    go_wp2
    go_loopw [5] (fun v wr => ∃ i n : Nat, i ≤ fl xs ∧ v = .int .i64 ((i : Int) - 1) ∧ wr = w.drewN n ∧ Hid ((fm xs).drop i = (fm ys).drop i)) (fun v _ => (intOf v + 1).toNat)
    case atStart => exact ⟨fl xs, 0, Nat.le_refl _, rfl, rfl, by rw [List.drop_of_length_le (by rw [fm_length]; omega), List.drop_of_length_le (by rw [fm_length, HN.out]; omega)]; exact rfl⟩
    case round =>
      obtain ⟨i, n, hi, rfl, rfl, hd⟩ := hrel
      by_cases h0 : i = 0
      · subst h0
        have hv : Hid (cmpI (val xs) (val ys) = 0) := by
          have hd1 := hd.out
          rw [List.drop_zero, List.drop_zero] at hd1
          show cmpI (val xs) (val ys) = 0
          rw [← fm_val xs, ← fm_val ys, hd1]
          exact cmpI_self _
        go_wp2
        go_ret
        exact ⟨by rw [hv.out]; rfl, n, rfl⟩
      · obtain ⟨m, rfl⟩ : ∃ m, i = m + 1 := ⟨i - 1, by omega⟩
        obtain ⟨e1, e2⟩ := G1.out (by omega)
        obtain ⟨e3, e4⟩ := K1.out (by rw [← HN.out]; omega)
        have hN := HN.out
        obtain ⟨ba, oa, rfl⟩ := hra.isAt (by omega)
        obtain ⟨bb, ob, rfl⟩ := hrb.isAt (by omega)
        subst e1 e2 e3 e4
        have hc1 := hra.cell (i := m) (by omega)
        have hc2 := hrb.cell (i := m) (by omega)
        have hq1 := at0_take (xs := xs) (i := m) (n := fl xs) (by omega)
        have hq2 := at0_take (xs := ys) (i := m) (n := fl ys) (by omega)
        have hb1 := bx.at0 m
        have hb2 := bY.at0 m
        have hm2 : m < fl ys := by omega
        have hm3 : m < fl xs := by omega
        have HL : Hid (cmpI (val xs) (val ys) = cmpI (at0 xs m) (at0 ys m) ∨ at0 xs m = at0 ys m) := by
          have hl : (fm xs).length = (fm ys).length := by rw [fm_length, fm_length, hN]
          rcases Nat.lt_trichotomy (at0 xs m) (at0 ys m) with h | h | h
          · refine .inl ?_
            rw [cmpI_of_lt h, ← fm_val xs, ← fm_val ys]
            exact cmpI_of_lt (val_lt_of_top (fm_bd bx) hl (by rw [fm_length]; omega) hd.out (by unfold fm; omega))
          · exact .inr h
          · refine .inl ?_
            rw [cmpI_of_gt h, ← fm_val xs, ← fm_val ys]
            exact cmpI_of_gt (val_lt_of_top (fm_bd bY) hl.symm (by rw [fm_length]; omega) hd.out.symm (by unfold fm; omega))
        have HS : Hid (at0 xs m = at0 ys m → (fm xs).drop m = (fm ys).drop m) := fun h => drop_succ_eq (by rw [fm_length, fm_length, hN]) (by rw [fm_length]; omega) hd.out (by unfold fm; omega)
        have HN := Lib.hid hN
        clear hN hq1 hq2 hd hra hrb
        generalize at0 xs m = x at *
        generalize at0 ys m = y at *
        have hm1 : ((m + 1 : Nat) : Int) - 1 = (m : Int) := by omega
        rw [hm1]
        have h00 : (0 : Int) ≤ (m : Int) := by omega
        by_cases hxy : x = y
        · subst hxy
          go_wp2
          go_quiet (fail)
          go_wp2
          go_roundw
          case rel => exact ⟨m, n + nq, by omega, by go_num, rfl, HS.out trivial⟩
          case measure => simp [intOf]
        · have hq1 : ((x : Int) != (y : Int)) = true := by rw [bne_iff_ne]; omega
          have HX := Lib.hid hxy
          clear hxy
          have hv : Hid (cmpI (val xs) (val ys) = cmpI x y) := by
            rcases HL.out with h | h
            · exact h
            · exact absurd h HX.out
          by_cases hlt : x < y
          · have hq2 : decide (y < x) = false := by simp; omega
            have hv2 : Hid (cmpI x y = -1) := cmpI_of_lt hlt
            go_wp2
            go_quiet (fail)
            rw [World.drewN_drewN]
            generalize n + nq = n2
            go_wp2
            go_quiet ((go_at_call 72; exact (sign_any _ _).mono fun _ _ h => ⟨h.1, _, h.2⟩))
            go_wp2
            go_ret
            refine ⟨by rw [hv.out, hv2.out]; rfl, ?_⟩
            first | exact ⟨_, rfl⟩ | exact ⟨_, World.drewN_drewN _ _ _⟩
          · have hgt : y < x := by have := HX.out; omega
            have hq2 : decide (y < x) = true := by simp; omega
            have hv2 : Hid (cmpI x y = 1) := cmpI_of_gt hgt
            go_wp2
            go_quiet (fail)
            rw [World.drewN_drewN]
            generalize n + nq = n2
            go_wp2
            go_quiet ((go_at_call 72; exact (sign_any _ _).mono fun _ _ h => ⟨h.1, _, h.2⟩))
            go_wp2
            go_ret
            refine ⟨by rw [hv.out, hv2.out]; rfl, ?_⟩
            first | exact ⟨_, rfl⟩ | exact ⟨_, World.drewN_drewN _ _ _⟩
  · have hq : ((fl xs : Int) != (fl ys : Int)) = true := by rw [bne_iff_ne]; omega
    rcases Nat.lt_or_gt_of_ne hne with hlt | hlt
    · have hv : Hid (cmpI (val xs) (val ys) = -1) := cmpI_of_lt (by rw [← fm_val xs, ← fm_val ys]; exact val_lt_of_len (fm_bd bx) (fm_cn ys) (by rw [fm_length, fm_length]; exact hlt))
      have hq2 : decide (fl ys < fl xs) = false := by simp; omega
      clear hne
      go_wp2_with (go_at_call 72; refine (sign_any _ _).mono ?_; rintro e w' ⟨rfl, rfl⟩)
      go_ret
      exact ⟨by rw [hv.out]; rfl, 0, rfl⟩
    · have hv : Hid (cmpI (val xs) (val ys) = 1) := cmpI_of_gt (by rw [← fm_val xs, ← fm_val ys]; exact val_lt_of_len (fm_bd bY) (fm_cn xs) (by rw [fm_length, fm_length]; exact hlt))
      have hq2 : decide (fl ys < fl xs) = true := by simp; omega
      clear hne
      go_wp2_with (go_at_call 72; refine (sign_any _ _).mono ?_; rintro e w' ⟨rfl, rfl⟩)
      go_ret
      exact ⟨by rw [hv.out]; rfl, 0, rfl⟩
end Go.Proofs.YteanpdiceaijhaaDoor
