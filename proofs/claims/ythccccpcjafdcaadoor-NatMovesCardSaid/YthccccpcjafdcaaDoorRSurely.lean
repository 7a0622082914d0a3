import Derived.Test.YthccccpcjafdcaaDoorRLittle
namespace Go.Proofs.YthccccpcjafdcaaDoor
open Go.RowKit

theorem v32_top1 {xs : List Nat} {m : Nat} (h : xs.length = m + 1) : v32 xs = v32 (xs.take m) + 4294967296 ^ m * at0 xs m := by
  rw [v32_at xs m (by omega), List.drop_of_length_le (by omega)]; rfl
theorem v32_top2 {xs : List Nat} {m : Nat} (h : xs.length = m + 2) : v32 xs = v32 (xs.take m) + 4294967296 ^ m * (at0 xs m + at0 xs (m + 1) * 4294967296) := by
  rw [v32_at xs m (by omega), drop_v32 (by omega), List.drop_of_length_le (by omega), show v32 ([] : List Nat) = 0 from rfl, Nat.mul_zero, Nat.add_zero, Nat.mul_comm (at0 xs (m + 1))]
theorem surely_ok {V1 V2 P R S t d : Nat} (hV1 : V1 = R + P * t) (hV2 : V2 = S + P * d) (hS : S < P) (hle : V2 ≤ V1) (h0 : 0 < V2) (hlt : V1 < V2 * 4294967296) : 1 ≤ max 1 (t / (d + 1)) ∧ max 1 (t / (d + 1)) < 4294967296 ∧ max 1 (t / (d + 1)) * V2 ≤ V1 := by
  have h1 : max 1 (t / (d + 1)) * V2 ≤ V1 := by
    rcases Nat.le_total 1 (t / (d + 1)) with h | h
    · rw [Nat.max_eq_right h]
      exact surely_mul hV1 hV2 hS (Nat.div_mul_le_self t (d + 1))
    · rw [Nat.max_eq_left h, Nat.one_mul]; exact hle
  refine ⟨Nat.le_max_left _ _, ?_, h1⟩
  apply Decidable.byContradiction
  intro hn
  have h2 : 4294967296 * V2 ≤ max 1 (t / (d + 1)) * V2 := Nat.mul_le_mul_right _ (by omega)
  rw [Nat.mul_comm V2] at hlt
  omega
theorem max_cast (s : Nat) : max (1 : Int) (s : Int) = ((max 1 s : Nat) : Int) := by omega
set_option maxHeartbeats 1000000 in
theorem rsurely_any (a b : Option Addr) (la lb ca cb V1 V2 : Nat) (xs ys : List Nat) (w : World) (hla : xs.length = la) (hlb : ys.length = lb) (hba : la ≤ 4194304) (hbb : lb ≤ 4194304)
    (hra : Rd .u64 w a xs) (hrb : Rd .u64 w b ys) (h1 : Num32 xs V1) (h2 : Num32 ys V2) (h0 : 0 < V2) (hle : V2 ≤ V1) (hlt : V1 < V2 * 4294967296) :
    Calls Tryd.prog 77 #[.slice a la ca, .slice b lb cb] w fun e w' => ∃ s : Nat, e = .returned (.int .u64 s) ∧ 1 ≤ s ∧ s < 4294967296 ∧ s * V2 ≤ V1 ∧ w = w' := by
  have hl1 : lb ≤ la := by
    have h3 := (h1.len_le (k := la)).1 (by omega)
    have := (h2.len_le (k := la)).2 (by omega)
    omega
  have hl2 : la ≤ lb + 1 := by
    have h3 := (h2.len_le (k := lb)).1 (by omega)
    have h4 := (h1.len_le (k := lb + 1)).2 (by rw [Nat.pow_succ]; exact Nat.lt_trans hlt (Nat.mul_lt_mul_of_pos_right h3 (by decide)))
    omega
  obtain ⟨m, rfl⟩ : ∃ m, lb = m + 1 := by
    refine ⟨lb - 1, ?_⟩
    have : lb ≠ 0 := fun h => by
      have h3 := h2.vl
      rw [List.length_eq_zero_iff.1 (hlb.trans h)] at h3
      have : v32 ([] : List Nat) = 0 := rfl
      omega
    omega
  obtain ⟨ba, oa, rfl⟩ := hra.isAt (by omega)
  obtain ⟨bb, ob, rfl⟩ := hrb.isAt (by omega)
  have hc0 := hra.cell (i := m) (by omega)
  have hc2 := hrb.cell (i := m) (by omega)
  have hx0 := h1.bd.at0 m
  have hd := h2.bd.at0 m
  have hS := v32_lt (h2.bd.take m)
  rw [List.length_take, Nat.min_eq_left (by omega)] at hS
  have hV2 := v32_top1 hlb
  rw [h2.vl] at hV2
  have hm1 : ((m + 1 : Nat) : Int) - 1 = (m : Int) := by omega
  have hm2 : ((m + 1 : Nat) : Int) = (m : Int) + 1 := by omega
  rcases Nat.lt_or_ge (m + 1) la with hl | hl
  · obtain rfl : la = m + 2 := by omega
    have hc1 := hra.cell (i := m + 1) (by omega)
    have hx1 := h1.bd.at0 (m + 1)
    have hV1 := v32_top2 hla
    rw [h1.vl] at hV1
    have hok := Lib.hid (surely_ok hV1 hV2 hS hle h0 hlt)
    clear hV1 hV2 hS hle h0 hlt h1 h2 hla hlb
    generalize at0 xs m = x0 at *
    generalize at0 xs (m + 1) = x1 at *
    generalize at0 ys m = d at *
    have ho := or32 x0 x1 hx0 hx1
    obtain ⟨t, ht⟩ : ∃ t, t = x0 + x1 * 4294967296 := ⟨_, rfl⟩
    rw [← ht] at hok ho
    obtain ⟨s, hs⟩ : ∃ s, s = t / (d + 1) := ⟨_, rfl⟩
    rw [← hs] at hok
    have r1 : IntKind.u64.wrap ((d : Int) + 1) = (d : Int) + 1 := by rw [IntKind.wrap_u64]; omega
    have r2 : (t : Int).tdiv ((d : Int) + 1) = (s : Int) := by rw [hs]; norm_cast
    have r2' : (t : Int) / ((d : Int) + 1) = (s : Int) := by rw [hs]; norm_cast
    have ht64 : t < 18446744073709551616 := by omega
    have hs64 : s ≤ t := by rw [hs]; exact Nat.div_le_self _ _
    clear ht hs
    go_enter Tryd.func77, Tryd.ntmps77
    go_wp2
    go_ret
    exact ⟨max 1 s, by rw [← max_cast]; rfl, hok.out.1, hok.out.2.1, hok.out.2.2, rfl⟩
  · obtain rfl : la = m + 1 := by omega
    have hV1 := v32_top1 hla
    rw [h1.vl] at hV1
    have hok := Lib.hid (surely_ok hV1 hV2 hS hle h0 hlt)
    clear hV1 hV2 hS hle h0 hlt h1 h2 hla hlb
    generalize at0 xs m = t at *
    generalize at0 ys m = d at *
    obtain ⟨s, hs⟩ : ∃ s, s = t / (d + 1) := ⟨_, rfl⟩
    rw [← hs] at hok
    have r1 : IntKind.u64.wrap ((d : Int) + 1) = (d : Int) + 1 := by rw [IntKind.wrap_u64]; omega
    have r2 : (t : Int).tdiv ((d : Int) + 1) = (s : Int) := by rw [hs]; norm_cast
    have r2' : (t : Int) / ((d : Int) + 1) = (s : Int) := by rw [hs]; norm_cast
    have ht64 : t < 18446744073709551616 := by omega
    have hs64 : s ≤ t := by rw [hs]; exact Nat.div_le_self _ _
    clear hs
    go_enter Tryd.func77, Tryd.ntmps77
    go_wp2
    go_ret
    exact ⟨max 1 s, by rw [← max_cast]; rfl, hok.out.1, hok.out.2.1, hok.out.2.2, rfl⟩
end Go.Proofs.YthccccpcjafdcaaDoor
