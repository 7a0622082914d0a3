import Derived.Test.YticncpeeeiobfaaDoorModA
namespace Go.Proofs.YticncpeeeiobfaaDoor
open Go.RowKit

theorem NEnv.sub {B : Nat} {w : World} {L L' : List (Value × Nat × Bool)} (h : NEnv B w L) (hs : ∀ p ∈ L', p ∈ L) : NEnv B w L' := ⟨h.1, fun p hp => h.2 p (hs p hp)⟩
theorem NEnv.drop2 {B : Nat} {w : World} {L : List (Value × Nat × Bool)} {a b : Value × Nat × Bool} (h : NEnv B w (a :: b :: L)) : NEnv B w (a :: L) := h.sub fun p hp => by
  rcases List.mem_cons.1 hp with rfl | hp
  · exact List.mem_cons_self
  · exact List.mem_cons_of_mem _ (List.mem_cons_of_mem _ hp)
theorem NEnv.drop1 {B : Nat} {w : World} {L : List (Value × Nat × Bool)} {a : Value × Nat × Bool} (h : NEnv B w (a :: L)) : NEnv B w L := h.sub fun _ hp => List.mem_cons_of_mem _ hp
theorem m_bits {B : Nat} {w : World} {L : List (Value × Nat × Bool)} {v1 : Value} {n1 : Nat} {k1 : Bool} (hE : NEnv B w L) (h1 : (v1, n1, k1) ∈ L) :
    Calls Tryd.prog 46 #[v1] w fun e w' => ∃ k : Nat, e = .returned (.int .i64 (k : Nat)) ∧ BitsIs n1 k ∧ k ≤ 8192 ∧ w = w' := by
  obtain ⟨a, ca, xs, rfl, ho1, hb1, rfl, hl1, -⟩ := hE.get h1
  refine (bits_any a _ ca xs w rfl (by omega) (own64.room ho1).1 (own64.rd ho1).2 hb1).mono ?_
  rintro e w' ⟨⟨k, rfl, hk, hk2⟩, rfl⟩
  have f1 := fl_le_128 hl1
  exact ⟨k, rfl, hk, by omega, rfl⟩
/-- A list of one limb that the code writes out. -/
theorem m_lit {B : Nat} {w : World} {L : List (Value × Nat × Bool)} (x : Nat) (hx : x < 18446744073709551616) (h0 : 0 < x) (hE : NEnv B w L) : NEnv B (w.alloc (.cells #[.int .u64 (x : Nat)] 23)) ((.slice (some ⟨w.heap.size, 0, none⟩) 1 1, x, true) :: L) := by
  have hb : Below w.heap.size w (w.alloc (.cells #[.int .u64 (x : Nat)] 23)) := (Below.refl _ _).alloc (Nat.le_refl _) _
  have hown : own64 (w.alloc (.cells #[.int .u64 (x : Nat)] 23)) w.heap.size (.slice (some ⟨w.heap.size, 0, none⟩) 1 1) [x] :=
    own64_of_blk (zs := [x]) (c := 1) (heap_new w _) (Nat.le_refl _) (by simp) (by decide) rfl ⟨by simp, fun i hi => by
      obtain rfl : i = 0 := by simp at hi; omega
      rfl⟩
  have hN : Num [x] x := ⟨Bd.nil.cons hx, fun _ => by show x ≠ 0; omega, by simp [val]⟩
  refine hE.add hb (isn_of_num (own64.low hown hE.1) hN (Nat.lt_trans hx ?_))
  decide +kernel
set_option maxHeartbeats 2000000 in
theorem m_left {B : Nat} {w : World} {L : List (Value × Nat × Bool)} {vm va : Value} {M A : Nat} {km ka : Bool} (hE : NEnv B w L) (h1 : (vm, M, km) ∈ L) (h2 : (va, A, ka) ∈ L) (h0 : 0 < M) :
    Calls Tryd.prog 30 #[vm, va] w fun e w' => ∃ v, e = .returned v ∧ NEnv B w' ((v, A % M, true) :: L) ∧ Below w.heap.size w w' := by
  have HC := Lib.hid (n_div hE h2 h1 h0)
  clear hE h1 h2 h0
  go_enter Tryd.func30, Tryd.ntmps30
  go_wp2_with fail
  refine HC.out.mono ?_
  rintro e w2 ⟨q, v, rfl, hE, hb⟩
  have HE := Lib.hid (And.intro hE.drop1 hb)
  clear hE hb
  go_wp2
  go_ret
  exact ⟨v, rfl, HE.out⟩
set_option maxHeartbeats 2000000 in
theorem m_sum {B : Nat} {w : World} {L : List (Value × Nat × Bool)} {vm va vb : Value} {M A C : Nat} {km ka kb : Bool} (hE : NEnv B w L) (h1 : (vm, M, km) ∈ L) (h2 : (va, A, ka) ∈ L) (h3 : (vb, C, kb) ∈ L) (h0 : 0 < M) (hl : A + C < 18446744073709551616 ^ 128) :
    Calls Tryd.prog 31 #[vm, va, vb] w fun e w' => ∃ v, e = .returned v ∧ NEnv B w' ((v, (A + C) % M, true) :: L) ∧ Below w.heap.size w w' := by
  have HC := Lib.hid (n_add hE h2 h3 hl)
  have HM := Lib.hid (And.intro h1 h0)
  clear hE h1 h2 h3 h0 hl
  go_enter Tryd.func31, Tryd.ntmps31
  go_wp2_with fail
  refine HC.out.mono ?_
  rintro e w2 ⟨s, rfl, hE, hb⟩
  have HE := Lib.hid (And.intro hE hb)
  clear hE hb
  go_wp2_with fail
  refine (m_left HE.out.1 (List.mem_cons_of_mem _ HM.out.1) List.mem_cons_self HM.out.2).mono ?_
  rintro e w3 ⟨v, rfl, hE, hb⟩
  have HE := Lib.hid (And.intro hE.drop2 (HE.out.2.trans (hb.mono HE.out.2.size)))
  clear hE hb
  go_wp2
  go_ret
  exact ⟨v, rfl, HE.out⟩
set_option maxHeartbeats 2000000 in
theorem m_product {B : Nat} {w : World} {L : List (Value × Nat × Bool)} {vm va vb : Value} {M A C : Nat} {km ka kb : Bool} (hE : NEnv B w L) (hT : Trig w) (h1 : (vm, M, km) ∈ L) (h2 : (va, A, ka) ∈ L) (h3 : (vb, C, kb) ∈ L) (h0 : 0 < M) (hl : A * C < 18446744073709551616 ^ 128) :
    Calls Tryd.prog 33 #[vm, va, vb] w fun e w' => ∃ v, e = .returned v ∧ NEnv B w' ((v, (A * C) % M, true) :: L) ∧ Below w.heap.size w w' := by
  have HC := Lib.hid (n_mul hE hT h2 h3 hl)
  have HM := Lib.hid (And.intro h1 h0)
  clear hE h1 h2 h3 h0 hl hT
  go_enter Tryd.func33, Tryd.ntmps33
  go_wp2_with fail
  refine HC.out.mono ?_
  rintro e w2 ⟨s, rfl, hE, hb⟩
  have HE := Lib.hid (And.intro hE hb)
  clear hE hb
  go_wp2_with fail
  refine (m_left HE.out.1 (List.mem_cons_of_mem _ HM.out.1) List.mem_cons_self HM.out.2).mono ?_
  rintro e w3 ⟨v, rfl, hE, hb⟩
  have HE := Lib.hid (And.intro hE.drop2 (HE.out.2.trans (hb.mono HE.out.2.size)))
  clear hE hb
  go_wp2
  go_ret
  exact ⟨v, rfl, HE.out⟩
set_option maxHeartbeats 2000000 in
theorem m_difference {B : Nat} {w : World} {L : List (Value × Nat × Bool)} {vm va vb : Value} {M A C : Nat} {km ka kb : Bool} (hE : NEnv B w L) (h1 : (vm, M, km) ∈ L) (h2 : (va, A, ka) ∈ L) (h3 : (vb, C, kb) ∈ L) (hA : A < M) (hC : C < M) (hl : M + M < 18446744073709551616 ^ 128) :
    Calls Tryd.prog 32 #[vm, va, vb] w fun e w' => ∃ v, e = .returned v ∧ NEnv B w' ((v, mdiff A C M, true) :: L) ∧ Below w.heap.size w w' := by
  have HC := Lib.hid (n_cmp hE h2 h3)
  have HM := Lib.hid (And.intro h1 (And.intro h2 h3))
  have HL := Lib.hid (show A + M < 18446744073709551616 ^ 128 by omega)
  have HAC := Lib.hid (And.intro hA hC)
  clear hE h1 h2 h3 hA hC hl
  go_enter Tryd.func32, Tryd.ntmps32
  go_wp2_with fail
  refine HC.out.mono ?_
  rintro e w2 ⟨rfl, hE, hb⟩
  have HE := Lib.hid (And.intro hE hb)
  clear hE hb
  by_cases hlt : A < C
  · rw [show cmpI A C = -1 by unfold cmpI; rw [if_pos hlt]]
    have HLT := Lib.hid hlt
    clear hlt
    go_wp2_with fail
    refine (n_add (v1 := va) (v2 := vm) HE.out.1 HM.out.2.1 HM.out.1 HL.out).mono ?_
    rintro e w3 ⟨s, rfl, hE, hb⟩
    have HE := Lib.hid (And.intro hE (HE.out.2.trans (hb.mono HE.out.2.size)))
    clear hE hb
    go_wp2_with fail
    refine (n_sub (v1 := s) (v2 := vb) HE.out.1 List.mem_cons_self (List.mem_cons_of_mem _ HM.out.2.2) (by have := HAC.out; omega)).mono ?_
    rintro e w4 ⟨v, rfl, hE, hb⟩
    have hE := hE.drop2
    rw [show A + M - C = mdiff A C M by unfold mdiff; rw [if_pos HLT.out]] at hE
    have HE := Lib.hid (And.intro hE (HE.out.2.trans (hb.mono HE.out.2.size)))
    clear hE hb
    go_wp2
    go_ret
    exact ⟨v, rfl, HE.out⟩
  · have hd : decide (cmpI A C < 0) = false := by unfold cmpI; rw [if_neg hlt]; split <;> decide
    have HLT := Lib.hid hlt
    clear hlt
    generalize cmpI A C = cc at hd ⊢
    go_wp2_with fail
    refine (n_sub (v1 := va) (v2 := vb) HE.out.1 HM.out.2.1 HM.out.2.2 (Nat.le_of_not_lt HLT.out)).mono ?_
    rintro e w4 ⟨v, rfl, hE, hb⟩
    rw [show A - C = mdiff A C M by unfold mdiff; rw [if_neg HLT.out]] at hE
    have HE := Lib.hid (And.intro hE (HE.out.2.trans (hb.mono HE.out.2.size)))
    clear hE hb
    go_wp2
    go_ret
    exact ⟨v, rfl, HE.out⟩
end Go.Proofs.YticncpeeeiobfaaDoor
