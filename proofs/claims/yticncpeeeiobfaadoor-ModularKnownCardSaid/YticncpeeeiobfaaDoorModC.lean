import Derived.Test.YticncpeeeiobfaaDoorModB
import Derived.ScopeJumps
import Derived.WalkMore
namespace Go.Proofs.YticncpeeeiobfaaDoor
open Go.RowKit

theorem box1 (w : World) (v : Value) (t : TypeId) (P : Value → Prop) (h : P v) : ∀ i, i < 1 → ∃ x, (w.alloc (.cells #[v] t)).cell? ⟨w.heap.size, 0 + i, none⟩ = some x ∧ P x := fun i hi => by
  obtain rfl : i = 0 := by omega
  exact ⟨v, World.cell?_alloc_at _ _ _ _ rfl, h⟩
theorem box2 (w : World) (v u : Value) (t : TypeId) (P : Value → Prop) (h : P v) (h2 : P u) : ∀ i, i < 2 → ∃ x, (w.alloc (.cells #[v, u] t)).cell? ⟨w.heap.size, 0 + i, none⟩ = some x ∧ P x := fun i hi => by
  rcases Nat.lt_or_ge i 1 with h1 | h1
  · obtain rfl : i = 0 := by omega
    exact ⟨v, World.cell?_alloc_at _ _ _ _ rfl, h⟩
  · obtain rfl : i = 1 := by omega
    exact ⟨u, World.cell?_alloc_at _ _ _ _ rfl, h2⟩
set_option exponentiation.threshold 10000 in
theorem lim64 {M : Nat} (h : M < 18446744073709551616 ^ 64) : M + M < 18446744073709551616 ^ 128 ∧ M * M < 18446744073709551616 ^ 128 := by
  have h1 : M * M < 18446744073709551616 ^ 64 * 18446744073709551616 ^ 64 := Nat.mul_lt_mul'' h h
  rw [← Nat.pow_add] at h1
  have h2 : (18446744073709551616 : Nat) ^ 64 + 18446744073709551616 ^ 64 ≤ 18446744073709551616 ^ 128 := by decide +kernel
  exact ⟨by omega, h1⟩
set_option exponentiation.threshold 10000 in
theorem bits_4096 {n k : Nat} (h : BitsIs n k) (hn : n < 18446744073709551616 ^ 64) : k ≤ 4096 := by
  rcases h with ⟨_, h⟩ | ⟨h0, h1, _⟩
  · omega
  · have h2 := Nat.lt_of_le_of_lt h1 hn
    rw [show (18446744073709551616 : Nat) = 2 ^ 64 by decide, ← Nat.pow_mul] at h2
    have := (Nat.pow_lt_pow_iff_right (by decide : 1 < 2)).1 h2
    omega
theorem NEnv.sl {B : Nat} {w : World} {L : List (Value × Nat × Bool)} {v : Value} {n : Nat} {k : Bool} (h : NEnv B w L) (hm : (v, n, k) ∈ L) : ∃ a k c, v = .slice a k c := by
  obtain ⟨a, c, zs, rfl, _⟩ := h.get hm
  exact ⟨a, _, c, rfl⟩
def InL (L : List (Value × Nat × Bool)) (v : Value) : Prop := ∃ N k, (v, N, k) ∈ L
set_option maxHeartbeats 2000000 in
theorem m_check {B : Nat} {w : World} {L : List (Value × Nat × Bool)} {vm : Value} {M : Nat} {km : Bool} (g off n c : Nat) (hE : NEnv B w L) (h1 : (vm, M, km) ∈ L) (hn : n ≤ 2) (hc : ∀ i, i < n → ∃ v, w.cell? ⟨g, off + i, none⟩ = some v ∧ InL L v) (h0 : 0 < M) (hM : M < 18446744073709551616 ^ 64) :
    Calls Tryd.prog 29 #[vm, .slice (some ⟨g, off, none⟩) n c] w fun e w' => ∃ v, e = .returned (.tuple #[v, .int .i64 0]) ∧ NEnv B w' ((v, M, true) :: L) ∧ Below w.heap.size w w' := by
  have HM := Lib.hid h1
  have HC := Lib.hid hc
  have HE := Lib.hid hE
  have HB := Lib.hid (m_bits hE h1)
  have HN := Lib.hid (fun (_ : Unit) => n_norm hE h1)
  have H0 := Lib.hid h0
  have HL := Lib.hid (fun k (h : BitsIs M k) => bits_4096 h hM)
  clear hE h1 hc h0 hM
  go_enter Tryd.func29, Tryd.ntmps29
  go_wp2
  go_loopw [11] (fun i wr => ∃ k : Nat, k ≤ n ∧ i = .int .i64 k ∧ w = wr) (fun i _ => n - (intOf i).toNat)
  case atStart => exact ⟨0, Nat.zero_le _, rfl, rfl⟩
  case round =>
    obtain ⟨k, hk, rfl, rfl⟩ := hrel
    by_cases hlt : k < n
    · obtain ⟨v, hcell, hin⟩ := HC.out k hlt
      obtain ⟨N, kv, hv⟩ := hin
      have HV := Lib.hid hv
      clear hv
      have hq1 : decide (k < n) = true := by rw [decide_eq_true_iff]; omega
      go_wp2_with fail
      refine (m_bits HE.out HV.out).mono ?_
      rintro e w' ⟨q, rfl, -, hq8, rfl⟩
      have hq2 : decide ((8192 : Int) < (q : Int)) = false := by rw [decide_eq_false_iff_not]; omega
      clear hcell
      go_wp2
      go_roundw
      case rel => exact ⟨k + 1, by omega, by go_num, by first | rfl | trivial⟩
      case measure => simp [intOf]; omega
    · have hq1 : decide (k < n) = false := by rw [decide_eq_false_iff_not]; omega
      go_wp2_with fail
      refine HB.out.mono ?_
      rintro e w' ⟨q, rfl, hb, hq8, rfl⟩
      have hq4 := HL.out q hb
      have hq5 : decide ((4096 : Int) < (q : Int)) = false := by rw [decide_eq_false_iff_not]; omega
      have hq6 : ((q : Int) == 0) = false := by
        have : q ≠ 0 := by
          rcases hb with ⟨h, _⟩ | ⟨h, _⟩
          · have := H0.out; omega
          · omega
        simp; omega
      clear hb hq4
      go_wp2_with fail
      refine (HN.out ()).mono ?_
      rintro e w2 ⟨v, rfl, hE, hb⟩
      have HE2 := Lib.hid (And.intro hE hb)
      clear hE hb
      go_wp2
      go_ret2
      exact ⟨v, rfl, HE2.out⟩
set_option maxHeartbeats 2000000 in
theorem m_check0 {B : Nat} {w : World} {L : List (Value × Nat × Bool)} {vm : Value} {M : Nat} {km : Bool} (g off n c : Nat) (hE : NEnv B w L) (h1 : (vm, M, km) ∈ L) (hn : n ≤ 2) (hc : ∀ i, i < n → ∃ v, w.cell? ⟨g, off + i, none⟩ = some v ∧ InL L v) (h0 : M = 0) :
    Calls Tryd.prog 29 #[vm, .slice (some ⟨g, off, none⟩) n c] w fun e w' => e = .returned (.tuple #[.slice none 0 0, .int .i64 11]) ∧ NEnv B w' L ∧ Below w.heap.size w w' := by
  have HM := Lib.hid h1
  have HC := Lib.hid hc
  have HE := Lib.hid hE
  have HB := Lib.hid (m_bits hE h1)
  have HN := Lib.hid (fun (_ : Unit) => n_norm hE h1)
  have H0 := Lib.hid h0
  
  clear hE h1 hc h0 
  go_enter Tryd.func29, Tryd.ntmps29
  go_wp2
  go_loopw [11] (fun i wr => ∃ k : Nat, k ≤ n ∧ i = .int .i64 k ∧ w = wr) (fun i _ => n - (intOf i).toNat)
  case atStart => exact ⟨0, Nat.zero_le _, rfl, rfl⟩
  case round =>
    obtain ⟨k, hk, rfl, rfl⟩ := hrel
    by_cases hlt : k < n
    · obtain ⟨v, hcell, hin⟩ := HC.out k hlt
      obtain ⟨N, kv, hv⟩ := hin
      have HV := Lib.hid hv
      clear hv
      have hq1 : decide (k < n) = true := by rw [decide_eq_true_iff]; omega
      go_wp2_with fail
      refine (m_bits HE.out HV.out).mono ?_
      rintro e w' ⟨q, rfl, -, hq8, rfl⟩
      have hq2 : decide ((8192 : Int) < (q : Int)) = false := by rw [decide_eq_false_iff_not]; omega
      clear hcell
      go_wp2
      go_roundw
      case rel => exact ⟨k + 1, by omega, by go_num, by first | rfl | trivial⟩
      case measure => simp [intOf]; omega
    · have hq1 : decide (k < n) = false := by rw [decide_eq_false_iff_not]; omega
      go_wp2_with fail
      refine HB.out.mono ?_
      rintro e w' ⟨q, rfl, hb, hq8, rfl⟩
      obtain rfl : q = 0 := by
        rcases hb with ⟨_, h⟩ | ⟨h, h2, _⟩
        · exact h
        · have := H0.out
          have := Nat.two_pow_pos (q - 1)
          omega
      clear hb
      go_wp2
      go_ret2
      exact ⟨rfl, HE.out, Below.refl _ _⟩
set_option maxHeartbeats 4000000 in
theorem m_of {B : Nat} {w : World} {L : List (Value × Nat × Bool)} {vm va : Value} {M A : Nat} {km ka : Bool} (hE : NEnv B w L) (g0 : (vm, M, km) ∈ L) (g1 : (va, A, ka) ∈ L) (hp : 0 < M) (hM : M < 18446744073709551616 ^ 64) :
    Calls Tryd.prog 11 #[va, vm] w fun e w' => ∃ v, e = .returned (.tuple #[v, .int .i64 0]) ∧ NEnv B w' ((v, A % M, true) :: L) ∧ Below w.heap.size w w' := by
  obtain ⟨aa, la, ca, rfl⟩ := hE.sl g1
  have HA : Hid ((vm, M, km) ∈ L ∧ ((.slice aa la ca), A, ka) ∈ L) := ⟨g0, g1⟩
  have HM := Lib.hid (And.intro g0 (And.intro hp hM))
  have HL := Lib.hid (lim64 hM)
  have hal : Below w.heap.size w (w.alloc (.cells #[(.slice aa la ca)] 25)) := (Below.refl _ _).alloc (Nat.le_refl _) _
  have HE := Lib.hid (And.intro (hE.below hal) hal)
  have HBX := Lib.hid (box1 w (.slice aa la ca) 25 (InL L) ⟨_, _, g1⟩)
  clear hE hal g0 g1 hp hM
  go_enter Tryd.func11, Tryd.ntmps11
  go_wp2_with fail
  refine (m_check _ 0 _ _ HE.out.1 HA.out.1 (by decide) HBX.out HM.out.2.1 HM.out.2.2).mono ?_
  rintro e w2 ⟨vc, rfl, hE, hb⟩
  have HE := Lib.hid (And.intro hE (HE.out.2.trans (hb.mono HE.out.2.size)))
  clear hE hb HBX
  go_wp2_with fail
  refine (m_left (vm := vc) (va := (.slice aa la ca)) HE.out.1 (by repeat first | exact List.mem_cons_self | apply List.mem_cons_of_mem) (by have := HA.out; repeat first | exact List.mem_cons_self | exact HA.out.2 | apply List.mem_cons_of_mem) HM.out.2.1).mono ?_
  rintro e w3 ⟨vz, rfl, hE, hb⟩
  have HE := Lib.hid (And.intro hE (HE.out.2.trans (hb.mono HE.out.2.size)))
  clear hE hb
  go_wp2
  go_ret2
  exact ⟨vz, rfl, HE.out.1.sub fun p hp => by
    rcases List.mem_cons.1 hp with rfl | hp
    · exact List.mem_cons_self
    · repeat first | exact hp | apply List.mem_cons_of_mem, HE.out.2⟩
set_option maxHeartbeats 4000000 in
theorem m_add {B : Nat} {w : World} {L : List (Value × Nat × Bool)} {vm va vb : Value} {M A C : Nat} {km ka kb : Bool} (hE : NEnv B w L) (g0 : (vm, M, km) ∈ L) (g1 : (va, A, ka) ∈ L) (g2 : (vb, C, kb) ∈ L) (hp : 0 < M) (hM : M < 18446744073709551616 ^ 64) :
    Calls Tryd.prog 12 #[va, vb, vm] w fun e w' => ∃ v, e = .returned (.tuple #[v, .int .i64 0]) ∧ NEnv B w' ((v, (A % M + C % M) % M, true) :: L) ∧ Below w.heap.size w w' := by
  obtain ⟨aa, la, ca, rfl⟩ := hE.sl g1
  obtain ⟨ab, lb, cb, rfl⟩ := hE.sl g2
  have HA : Hid ((vm, M, km) ∈ L ∧ ((.slice aa la ca), A, ka) ∈ L ∧ ((.slice ab lb cb), C, kb) ∈ L) := ⟨g0, g1, g2⟩
  have HM := Lib.hid (And.intro g0 (And.intro hp hM))
  have HL := Lib.hid (lim64 hM)
  have hal : Below w.heap.size w (w.alloc (.cells #[(.slice aa la ca), (.slice ab lb cb)] 25)) := (Below.refl _ _).alloc (Nat.le_refl _) _
  have HE := Lib.hid (And.intro (hE.below hal) hal)
  have HBX := Lib.hid (box2 w (.slice aa la ca) (.slice ab lb cb) 25 (InL L) ⟨_, _, g1⟩ ⟨_, _, g2⟩)
  clear hE hal g0 g1 g2 hp hM
  go_enter Tryd.func12, Tryd.ntmps12
  go_wp2_with fail
  refine (m_check _ 0 _ _ HE.out.1 HA.out.1 (by decide) HBX.out HM.out.2.1 HM.out.2.2).mono ?_
  rintro e w2 ⟨vc, rfl, hE, hb⟩
  have HE := Lib.hid (And.intro hE (HE.out.2.trans (hb.mono HE.out.2.size)))
  clear hE hb HBX
  go_wp2_with fail
  refine (m_left (vm := vc) (va := (.slice aa la ca)) HE.out.1 (by repeat first | exact List.mem_cons_self | apply List.mem_cons_of_mem) (by have := HA.out; repeat first | exact List.mem_cons_self | exact HA.out.2.1 | apply List.mem_cons_of_mem) HM.out.2.1).mono ?_
  rintro e w3 ⟨xa, rfl, hE, hb⟩
  have HE := Lib.hid (And.intro hE (HE.out.2.trans (hb.mono HE.out.2.size)))
  clear hE hb
  go_wp2_with fail
  refine (m_left (vm := vc) (va := (.slice ab lb cb)) HE.out.1 (by repeat first | exact List.mem_cons_self | apply List.mem_cons_of_mem) (by have := HA.out; repeat first | exact List.mem_cons_self | exact HA.out.2.2 | apply List.mem_cons_of_mem) HM.out.2.1).mono ?_
  rintro e w4 ⟨xb, rfl, hE, hb⟩
  have HE := Lib.hid (And.intro hE (HE.out.2.trans (hb.mono HE.out.2.size)))
  clear hE hb
  go_wp2_with fail
  refine (m_sum (vm := vc) (va := xa) (vb := xb) HE.out.1 (by repeat first | exact List.mem_cons_self | apply List.mem_cons_of_mem) (by repeat first | exact List.mem_cons_self | apply List.mem_cons_of_mem) (by repeat first | exact List.mem_cons_self | apply List.mem_cons_of_mem) HM.out.2.1 (by have h1 := Nat.mod_lt A HM.out.2.1; have h2 := Nat.mod_lt C HM.out.2.1; have h3 := HL.out.1; omega)).mono ?_
  rintro e w5 ⟨vz, rfl, hE, hb⟩
  have HE := Lib.hid (And.intro hE (HE.out.2.trans (hb.mono HE.out.2.size)))
  clear hE hb
  go_wp2
  go_ret2
  exact ⟨vz, rfl, HE.out.1.sub fun p hp => by
    rcases List.mem_cons.1 hp with rfl | hp
    · exact List.mem_cons_self
    · repeat first | exact hp | apply List.mem_cons_of_mem, HE.out.2⟩
set_option maxHeartbeats 4000000 in
theorem m_sub {B : Nat} {w : World} {L : List (Value × Nat × Bool)} {vm va vb : Value} {M A C : Nat} {km ka kb : Bool} (hE : NEnv B w L) (g0 : (vm, M, km) ∈ L) (g1 : (va, A, ka) ∈ L) (g2 : (vb, C, kb) ∈ L) (hp : 0 < M) (hM : M < 18446744073709551616 ^ 64) :
    Calls Tryd.prog 13 #[va, vb, vm] w fun e w' => ∃ v, e = .returned (.tuple #[v, .int .i64 0]) ∧ NEnv B w' ((v, mdiff (A % M) (C % M) M, true) :: L) ∧ Below w.heap.size w w' := by
  obtain ⟨aa, la, ca, rfl⟩ := hE.sl g1
  obtain ⟨ab, lb, cb, rfl⟩ := hE.sl g2
  have HA : Hid ((vm, M, km) ∈ L ∧ ((.slice aa la ca), A, ka) ∈ L ∧ ((.slice ab lb cb), C, kb) ∈ L) := ⟨g0, g1, g2⟩
  have HM := Lib.hid (And.intro g0 (And.intro hp hM))
  have HL := Lib.hid (lim64 hM)
  have hal : Below w.heap.size w (w.alloc (.cells #[(.slice aa la ca), (.slice ab lb cb)] 25)) := (Below.refl _ _).alloc (Nat.le_refl _) _
  have HE := Lib.hid (And.intro (hE.below hal) hal)
  have HBX := Lib.hid (box2 w (.slice aa la ca) (.slice ab lb cb) 25 (InL L) ⟨_, _, g1⟩ ⟨_, _, g2⟩)
  clear hE hal g0 g1 g2 hp hM
  go_enter Tryd.func13, Tryd.ntmps13
  go_wp2_with fail
  refine (m_check _ 0 _ _ HE.out.1 HA.out.1 (by decide) HBX.out HM.out.2.1 HM.out.2.2).mono ?_
  rintro e w2 ⟨vc, rfl, hE, hb⟩
  have HE := Lib.hid (And.intro hE (HE.out.2.trans (hb.mono HE.out.2.size)))
  clear hE hb HBX
  go_wp2_with fail
  refine (m_left (vm := vc) (va := (.slice aa la ca)) HE.out.1 (by repeat first | exact List.mem_cons_self | apply List.mem_cons_of_mem) (by have := HA.out; repeat first | exact List.mem_cons_self | exact HA.out.2.1 | apply List.mem_cons_of_mem) HM.out.2.1).mono ?_
  rintro e w3 ⟨xa, rfl, hE, hb⟩
  have HE := Lib.hid (And.intro hE (HE.out.2.trans (hb.mono HE.out.2.size)))
  clear hE hb
  go_wp2_with fail
  refine (m_left (vm := vc) (va := (.slice ab lb cb)) HE.out.1 (by repeat first | exact List.mem_cons_self | apply List.mem_cons_of_mem) (by have := HA.out; repeat first | exact List.mem_cons_self | exact HA.out.2.2 | apply List.mem_cons_of_mem) HM.out.2.1).mono ?_
  rintro e w4 ⟨xb, rfl, hE, hb⟩
  have HE := Lib.hid (And.intro hE (HE.out.2.trans (hb.mono HE.out.2.size)))
  clear hE hb
  go_wp2_with fail
  refine (m_difference (vm := vc) (va := xa) (vb := xb) HE.out.1 (by repeat first | exact List.mem_cons_self | apply List.mem_cons_of_mem) (by repeat first | exact List.mem_cons_self | apply List.mem_cons_of_mem) (by repeat first | exact List.mem_cons_self | apply List.mem_cons_of_mem) (Nat.mod_lt _ HM.out.2.1) (Nat.mod_lt _ HM.out.2.1) HL.out.1).mono ?_
  rintro e w5 ⟨vz, rfl, hE, hb⟩
  have HE := Lib.hid (And.intro hE (HE.out.2.trans (hb.mono HE.out.2.size)))
  clear hE hb
  go_wp2
  go_ret2
  exact ⟨vz, rfl, HE.out.1.sub fun p hp => by
    rcases List.mem_cons.1 hp with rfl | hp
    · exact List.mem_cons_self
    · repeat first | exact hp | apply List.mem_cons_of_mem, HE.out.2⟩
set_option maxHeartbeats 4000000 in
theorem m_mul {B : Nat} {w : World} {L : List (Value × Nat × Bool)} {vm va vb : Value} {M A C : Nat} {km ka kb : Bool} (hE : NEnv B w L) (hT : Trig w) (g0 : (vm, M, km) ∈ L) (g1 : (va, A, ka) ∈ L) (g2 : (vb, C, kb) ∈ L) (hp : 0 < M) (hM : M < 18446744073709551616 ^ 64) :
    Calls Tryd.prog 14 #[va, vb, vm] w fun e w' => ∃ v, e = .returned (.tuple #[v, .int .i64 0]) ∧ NEnv B w' ((v, (A % M * (C % M)) % M, true) :: L) ∧ Below w.heap.size w w' := by
  obtain ⟨aa, la, ca, rfl⟩ := hE.sl g1
  obtain ⟨ab, lb, cb, rfl⟩ := hE.sl g2
  have HA : Hid ((vm, M, km) ∈ L ∧ ((.slice aa la ca), A, ka) ∈ L ∧ ((.slice ab lb cb), C, kb) ∈ L) := ⟨g0, g1, g2⟩
  have HM := Lib.hid (And.intro g0 (And.intro hp hM))
  have HL := Lib.hid (lim64 hM)
  have HT := Lib.hid (fun (W : World) (h : Below w.heap.size w W) => hT.below h)
  have hal : Below w.heap.size w (w.alloc (.cells #[(.slice aa la ca), (.slice ab lb cb)] 25)) := (Below.refl _ _).alloc (Nat.le_refl _) _
  have HE := Lib.hid (And.intro (hE.below hal) hal)
  have HBX := Lib.hid (box2 w (.slice aa la ca) (.slice ab lb cb) 25 (InL L) ⟨_, _, g1⟩ ⟨_, _, g2⟩)
  clear hE hal g0 g1 g2 hp hM hT
  go_enter Tryd.func14, Tryd.ntmps14
  go_wp2_with fail
  refine (m_check _ 0 _ _ HE.out.1 HA.out.1 (by decide) HBX.out HM.out.2.1 HM.out.2.2).mono ?_
  rintro e w2 ⟨vc, rfl, hE, hb⟩
  have HE := Lib.hid (And.intro hE (HE.out.2.trans (hb.mono HE.out.2.size)))
  clear hE hb HBX
  go_wp2_with fail
  refine (m_left (vm := vc) (va := (.slice aa la ca)) HE.out.1 (by repeat first | exact List.mem_cons_self | apply List.mem_cons_of_mem) (by have := HA.out; repeat first | exact List.mem_cons_self | exact HA.out.2.1 | apply List.mem_cons_of_mem) HM.out.2.1).mono ?_
  rintro e w3 ⟨xa, rfl, hE, hb⟩
  have HE := Lib.hid (And.intro hE (HE.out.2.trans (hb.mono HE.out.2.size)))
  clear hE hb
  go_wp2_with fail
  refine (m_left (vm := vc) (va := (.slice ab lb cb)) HE.out.1 (by repeat first | exact List.mem_cons_self | apply List.mem_cons_of_mem) (by have := HA.out; repeat first | exact List.mem_cons_self | exact HA.out.2.2 | apply List.mem_cons_of_mem) HM.out.2.1).mono ?_
  rintro e w4 ⟨xb, rfl, hE, hb⟩
  have HE := Lib.hid (And.intro hE (HE.out.2.trans (hb.mono HE.out.2.size)))
  clear hE hb
  go_wp2_with fail
  refine (m_product (vm := vc) (va := xa) (vb := xb) HE.out.1 (HT.out _ HE.out.2) (by repeat first | exact List.mem_cons_self | apply List.mem_cons_of_mem) (by repeat first | exact List.mem_cons_self | apply List.mem_cons_of_mem) (by repeat first | exact List.mem_cons_self | apply List.mem_cons_of_mem) HM.out.2.1 (Nat.lt_of_le_of_lt (Nat.mul_le_mul (Nat.le_of_lt (Nat.mod_lt _ HM.out.2.1)) (Nat.le_of_lt (Nat.mod_lt _ HM.out.2.1))) HL.out.2)).mono ?_
  rintro e w5 ⟨vz, rfl, hE, hb⟩
  have HE := Lib.hid (And.intro hE (HE.out.2.trans (hb.mono HE.out.2.size)))
  clear hE hb
  go_wp2
  go_ret2
  exact ⟨vz, rfl, HE.out.1.sub fun p hp => by
    rcases List.mem_cons.1 hp with rfl | hp
    · exact List.mem_cons_self
    · repeat first | exact hp | apply List.mem_cons_of_mem, HE.out.2⟩
set_option maxHeartbeats 4000000 in
theorem m_of0 {B : Nat} {w : World} {L : List (Value × Nat × Bool)} {vm va : Value} {M A : Nat} {km ka : Bool} (hE : NEnv B w L) (g0 : (vm, M, km) ∈ L) (g1 : (va, A, ka) ∈ L) (h0 : M = 0) :
    Calls Tryd.prog 11 #[va, vm] w fun e w' => e = .returned (.tuple #[.slice none 0 0, .int .i64 11]) ∧ NEnv B w' L ∧ Below w.heap.size w w' := by
  obtain ⟨aa, la, ca, rfl⟩ := hE.sl g1
  have HA : Hid ((vm, M, km) ∈ L ∧ ((.slice aa la ca), A, ka) ∈ L) := ⟨g0, g1⟩
  have HM := Lib.hid h0
  have hal : Below w.heap.size w (w.alloc (.cells #[(.slice aa la ca)] 25)) := (Below.refl _ _).alloc (Nat.le_refl _) _
  have HE := Lib.hid (And.intro (hE.below hal) hal)
  have HBX := Lib.hid (box1 w (.slice aa la ca) 25 (InL L) ⟨_, _, g1⟩)
  clear hE hal g0 g1 h0
  go_enter Tryd.func11, Tryd.ntmps11
  go_wp2_with fail
  refine (m_check0 _ 0 _ _ HE.out.1 HA.out.1 (by decide) HBX.out HM.out).mono ?_
  rintro e w2 ⟨rfl, hE, hb⟩
  have HE := Lib.hid (And.intro hE (HE.out.2.trans (hb.mono HE.out.2.size)))
  clear hE hb HBX
  go_wp2
  go_ret2
  exact ⟨rfl, HE.out⟩
set_option maxHeartbeats 4000000 in
theorem m_mul0 {B : Nat} {w : World} {L : List (Value × Nat × Bool)} {vm va vb : Value} {M A C : Nat} {km ka kb : Bool} (hE : NEnv B w L) (g0 : (vm, M, km) ∈ L) (g1 : (va, A, ka) ∈ L) (g2 : (vb, C, kb) ∈ L) (h0 : M = 0) :
    Calls Tryd.prog 14 #[va, vb, vm] w fun e w' => e = .returned (.tuple #[.slice none 0 0, .int .i64 11]) ∧ NEnv B w' L ∧ Below w.heap.size w w' := by
  obtain ⟨aa, la, ca, rfl⟩ := hE.sl g1
  obtain ⟨ab, lb, cb, rfl⟩ := hE.sl g2
  have HA : Hid ((vm, M, km) ∈ L ∧ ((.slice aa la ca), A, ka) ∈ L ∧ ((.slice ab lb cb), C, kb) ∈ L) := ⟨g0, g1, g2⟩
  have HM := Lib.hid h0
  have hal : Below w.heap.size w (w.alloc (.cells #[(.slice aa la ca), (.slice ab lb cb)] 25)) := (Below.refl _ _).alloc (Nat.le_refl _) _
  have HE := Lib.hid (And.intro (hE.below hal) hal)
  have HBX := Lib.hid (box2 w (.slice aa la ca) (.slice ab lb cb) 25 (InL L) ⟨_, _, g1⟩ ⟨_, _, g2⟩)
  clear hE hal g0 g1 g2 h0
  go_enter Tryd.func14, Tryd.ntmps14
  go_wp2_with fail
  refine (m_check0 _ 0 _ _ HE.out.1 HA.out.1 (by decide) HBX.out HM.out).mono ?_
  rintro e w2 ⟨rfl, hE, hb⟩
  have HE := Lib.hid (And.intro hE (HE.out.2.trans (hb.mono HE.out.2.size)))
  clear hE hb HBX
  go_wp2
  go_ret2
  exact ⟨rfl, HE.out⟩
end Go.Proofs.YticncpeeeiobfaaDoor
