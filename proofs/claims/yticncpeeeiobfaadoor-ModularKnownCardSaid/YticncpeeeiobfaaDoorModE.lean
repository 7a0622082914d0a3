import Derived.Test.YticncpeeeiobfaaDoorModD
namespace Go.Proofs.YticncpeeeiobfaaDoor
open Go.RowKit

set_option maxHeartbeats 4000000 in
theorem m_pow {B : Nat} {w : World} {L : List (Value × Nat × Bool)} {vm va vb : Value} {M A N : Nat} {km ka kb : Bool} (hE : NEnv B w L) (hT : Trig w) (g0 : (vm, M, km) ∈ L) (g1 : (va, A, ka) ∈ L) (g2 : (vb, N, kb) ∈ L) (hp : 0 < M) (hM : M < 18446744073709551616 ^ 64) :
    Calls Tryd.prog 25 #[va, vb, vm] w fun e w' => ∃ v, e = .returned (.tuple #[v, .int .i64 0]) ∧ NEnv B w' ((v, A ^ N % M, true) :: L) ∧ Below w.heap.size w w' := by
  obtain ⟨aa, la, ca, rfl⟩ := hE.sl g1
  obtain ⟨ab, lb, cb, rfl⟩ := hE.sl g2
  have HA : Hid ((vm, M, km) ∈ L ∧ ((.slice aa la ca), A, ka) ∈ L ∧ ((.slice ab lb cb), N, kb) ∈ L) := ⟨g0, g1, g2⟩
  have HM := Lib.hid (And.intro g0 (And.intro hp hM))
  have HL := Lib.hid (lim64 hM)
  have HT := Lib.hid (fun (W : World) (h : Below w.heap.size w W) => hT.below h)
  have hal : Below w.heap.size w (w.alloc (.cells #[(.slice aa la ca), (.slice ab lb cb)] 25)) := (Below.refl _ _).alloc (Nat.le_refl _) _
  have HE := Lib.hid (And.intro (hE.below hal) hal)
  have HBX := Lib.hid (box2 w (.slice aa la ca) (.slice ab lb cb) 25 (InL L) ⟨_, _, g1⟩ ⟨_, _, g2⟩)
  clear hE hal g0 g1 g2 hp hM hT
  go_enter Tryd.func25, Tryd.ntmps25
  go_wp2_with fail
  refine (m_check _ 0 _ _ HE.out.1 HA.out.1 (by decide) HBX.out HM.out.2.1 HM.out.2.2).mono ?_
  rintro e w2 ⟨vc, rfl, hE, hb⟩
  have HE := Lib.hid (And.intro hE (HE.out.2.trans (hb.mono HE.out.2.size)))
  clear hE hb HBX
  go_wp2_with fail
  refine (m_left (vm := vc) (va := (.slice aa la ca)) HE.out.1 (by repeat first | exact List.mem_cons_self | apply List.mem_cons_of_mem) (by have := HA.out; repeat first | exact List.mem_cons_self | exact HA.out.2.1 | apply List.mem_cons_of_mem) HM.out.2.1).mono ?_
  rintro e w3 ⟨xa, rfl, hE, hb⟩
  have HE := Lib.hid (And.intro hE (HE.out.2.trans (hb.mono HE.out.2.size)))
  clear hE hb
  go_wp2_with fail
  refine (m_power (vm := vc) (va := xa) (vn := .slice ab lb cb) HE.out.1 (HT.out _ HE.out.2) (by repeat first | exact List.mem_cons_self | apply List.mem_cons_of_mem) (by repeat first | exact List.mem_cons_self | apply List.mem_cons_of_mem) (by have hmm := HA.out.2.2; repeat first | exact List.mem_cons_self | exact hmm | apply List.mem_cons_of_mem) HM.out.2.1 (Nat.mod_lt _ HM.out.2.1) HM.out.2.2).mono ?_
  rintro e w5 ⟨vz, rfl, hE, hb⟩
  rw [← Nat.pow_mod] at hE
  have HE := Lib.hid (And.intro hE (HE.out.2.trans (hb.mono HE.out.2.size)))
  clear hE hb
  go_wp2
  go_ret2
  exact ⟨vz, rfl, HE.out.1.sub fun p hp => by
    rcases List.mem_cons.1 hp with rfl | hp
    · exact List.mem_cons_self
    · repeat first | exact hp | apply List.mem_cons_of_mem, HE.out.2⟩
set_option maxHeartbeats 4000000 in
theorem m_inv {B : Nat} {w : World} {L : List (Value × Nat × Bool)} {vm va : Value} {M A : Nat} {km ka : Bool} (hE : NEnv B w L) (hT : Trig w) (g0 : (vm, M, km) ∈ L) (g1 : (va, A, ka) ∈ L) (hp : 0 < M) (hM : M < 18446744073709551616 ^ 64) :
    Calls Tryd.prog 15 #[va, vm] w fun e w' => Below w.heap.size w w' ∧ ((Nat.gcd M A = 1 ∧ ∃ v x, e = .returned (.tuple #[v, .int .i64 0]) ∧ NEnv B w' ((v, x, true) :: L) ∧ x < M ∧ x * A % M = 1 % M) ∨
      (Nat.gcd M A ≠ 1 ∧ e = .returned (.tuple #[.slice none 0 0, .int .i64 40]) ∧ NEnv B w' L)) := by
  obtain ⟨aa, la, ca, rfl⟩ := hE.sl g1
  have HA : Hid ((vm, M, km) ∈ L ∧ ((.slice aa la ca), A, ka) ∈ L) := ⟨g0, g1⟩
  have HM := Lib.hid (And.intro g0 (And.intro hp hM))
  have HL := Lib.hid (lim64 hM)
  have HT := Lib.hid (fun (W : World) (h : Below w.heap.size w W) => hT.below h)
  have hal : Below w.heap.size w (w.alloc (.cells #[(.slice aa la ca)] 25)) := (Below.refl _ _).alloc (Nat.le_refl _) _
  have HE := Lib.hid (And.intro (hE.below hal) hal)
  have HBX := Lib.hid (box1 w (.slice aa la ca) 25 (InL L) ⟨_, _, g1⟩)
  clear hE hal g0 g1 hp hM hT
  go_enter Tryd.func15, Tryd.ntmps15
  go_wp2_with fail
  refine (m_check _ 0 _ _ HE.out.1 HA.out.1 (by decide) HBX.out HM.out.2.1 HM.out.2.2).mono ?_
  rintro e w2 ⟨vc, rfl, hE, hb⟩
  have HE := Lib.hid (And.intro hE (HE.out.2.trans (hb.mono HE.out.2.size)))
  clear hE hb HBX
  go_wp2_with fail
  refine (m_left (vm := vc) (va := (.slice aa la ca)) HE.out.1 (by repeat first | exact List.mem_cons_self | apply List.mem_cons_of_mem) (by have := HA.out; repeat first | exact List.mem_cons_self | exact HA.out.2 | apply List.mem_cons_of_mem) HM.out.2.1).mono ?_
  rintro e w3 ⟨xa, rfl, hE, hb⟩
  have HE := Lib.hid (And.intro hE (HE.out.2.trans (hb.mono HE.out.2.size)))
  clear hE hb
  have HG : Hid (Nat.gcd M (A % M) = Nat.gcd M A) := by show _ = _; rw [Nat.gcd_comm, ← Nat.gcd_rec]
  go_wp2_with fail
  refine (m_inverse (vm := vc) (va := xa) HE.out.1 (HT.out _ HE.out.2) (by repeat first | exact List.mem_cons_self | apply List.mem_cons_of_mem) (by repeat first | exact List.mem_cons_self | apply List.mem_cons_of_mem) (Nat.mod_lt _ HM.out.2.1) HM.out.2.2).mono ?_
  rintro e w5 ⟨hb, hor⟩
  have HB := Lib.hid (HE.out.2.trans (hb.mono HE.out.2.size))
  clear hb
  rw [HG.out] at hor
  rcases hor with ⟨hg, vz, x, rfl, hE, hx, hxa⟩ | ⟨hg, rfl, hE⟩
  · rw [Nat.mul_mod_mod] at hxa
    have HF : Hid (Nat.gcd M A = 1 ∧ x < M ∧ x * A % M = 1 % M) := ⟨hg, hx, hxa⟩
    have HN := Lib.hid hE
    clear hg hx hxa hE
    go_wp2
    go_ret2
    exact ⟨HB.out, .inl ⟨HF.out.1, vz, x, rfl, HN.out.sub fun p hp => by
      rcases List.mem_cons.1 hp with rfl | hp
      · exact List.mem_cons_self
      · repeat first | exact hp | apply List.mem_cons_of_mem, HF.out.2⟩⟩
  · have HF := Lib.hid hg
    have HN := Lib.hid hE
    clear hg hE
    go_wp2
    go_ret2
    exact ⟨HB.out, .inr ⟨HF.out, rfl, HN.out.sub fun p hp => by repeat first | exact hp | apply List.mem_cons_of_mem⟩⟩
theorem sz_alloc (w : World) (o : Obj) : (w.alloc o).heap.size = w.heap.size + 1 := by simp
abbrev cu (x : Nat) : Obj := .cells #[.int .u64 (x : Nat)] 23
theorem m_litb {B : Nat} {w w0 : World} {L : List (Value × Nat × Bool)} (x n : Nat) (hx : x < 18446744073709551616) (h0 : 0 < x) (hE : NEnv B w L ∧ Below w0.heap.size w0 w) (hn : w.heap.size = n) : NEnv B (w.alloc (.cells #[.int .u64 (x : Nat)] 23)) ((.slice (some ⟨n, 0, none⟩) 1 1, x, true) :: L) ∧ Below w0.heap.size w0 (w.alloc (.cells #[.int .u64 (x : Nat)] 23)) := by
  subst hn
  exact ⟨m_lit x hx h0 hE.1, hE.2.alloc hE.2.size _⟩
set_option maxHeartbeats 4000000 in
set_option maxRecDepth 100000 in
theorem mworks_any (w : World) (hT : Trig w) :
    Calls Tryd.prog 8 #[] w fun e w' => e = .returned (.bool true) ∧ Below w.heap.size w w' := by
  have HT := Lib.hid (fun (W : World) (h : Below w.heap.size w W) => hT.below h)
  have HE : Hid (NEnv w.heap.size w [] ∧ Below w.heap.size w w) := ⟨⟨Nat.le_refl _, fun _ h => by cases h⟩, Below.refl _ _⟩
  clear hT
  go_enter Tryd.func8, Tryd.ntmps8
  have HE := Lib.hid (m_litb 14 w.heap.size (by decide) (by decide) HE.out rfl)
  have HE := Lib.hid (m_litb 21 (w.heap.size + 1) (by decide) (by decide) HE.out (by simp))
  have HE := Lib.hid (m_litb 5 (w.heap.size + 2) (by decide) (by decide) HE.out (by simp))
  go_wp2_with fail
  refine (m_sub (vm := (.slice (some ⟨w.heap.size + 2, 0, none⟩) 1 1)) (va := (.slice (some ⟨w.heap.size, 0, none⟩) 1 1)) (vb := (.slice (some ⟨w.heap.size + 1, 0, none⟩) 1 1)) (M := 5) (A := 14) (C := 21) HE.out.1 (by repeat first | exact List.mem_cons_self | apply List.mem_cons_of_mem) (by repeat first | exact List.mem_cons_self | apply List.mem_cons_of_mem) (by repeat first | exact List.mem_cons_self | apply List.mem_cons_of_mem) (by decide) (by decide +kernel)).mono ?_
  rintro e w1 ⟨vd, rfl, hE, hb⟩
  have HE := Lib.hid (And.intro hE (HE.out.2.trans (hb.mono HE.out.2.size)))
  clear hE hb
  have HE := Lib.hid (m_litb 2 w1.heap.size (by decide) (by decide) HE.out rfl)
  have HE := Lib.hid (m_litb 10 (w1.heap.size + 1) (by decide) (by decide) HE.out (by simp))
  have HE := Lib.hid (m_litb 1000 (w1.heap.size + 2) (by decide) (by decide) HE.out (by simp))
  go_wp2_with fail
  refine (m_pow (vm := (.slice (some ⟨w1.heap.size + 2, 0, none⟩) 1 1)) (va := (.slice (some ⟨w1.heap.size, 0, none⟩) 1 1)) (vb := (.slice (some ⟨w1.heap.size + 1, 0, none⟩) 1 1)) (M := 1000) (A := 2) (N := 10) HE.out.1 (HT.out _ HE.out.2) (by repeat first | exact List.mem_cons_self | apply List.mem_cons_of_mem) (by repeat first | exact List.mem_cons_self | apply List.mem_cons_of_mem) (by repeat first | exact List.mem_cons_self | apply List.mem_cons_of_mem) (by decide) (by decide +kernel)).mono ?_
  rintro e w2 ⟨vp, rfl, hE, hb⟩
  have HE := Lib.hid (And.intro hE (HE.out.2.trans (hb.mono HE.out.2.size)))
  clear hE hb
  have HE := Lib.hid (m_litb 10 w2.heap.size (by decide) (by decide) HE.out rfl)
  have HE := Lib.hid (m_litb 7 (w2.heap.size + 1) (by decide) (by decide) HE.out (by simp))
  go_wp2_with fail
  refine (m_inv (vm := (.slice (some ⟨w2.heap.size + 1, 0, none⟩) 1 1)) (va := (.slice (some ⟨w2.heap.size, 0, none⟩) 1 1)) (M := 7) (A := 10) HE.out.1 (HT.out _ HE.out.2) (by repeat first | exact List.mem_cons_self | apply List.mem_cons_of_mem) (by repeat first | exact List.mem_cons_self | apply List.mem_cons_of_mem) (by decide) (by decide +kernel)).mono ?_
  rintro e w3 ⟨hb, hor⟩
  rcases hor with ⟨-, vi, x, rfl, hE, hx, hxa⟩ | ⟨hg, -⟩
  rotate_left
  · exact absurd (by decide) hg
  obtain rfl : x = 5 := by omega
  clear hx hxa
  have HE := Lib.hid (And.intro hE (HE.out.2.trans (hb.mono HE.out.2.size)))
  clear hE hb
  have HE := Lib.hid (m_litb 2 w3.heap.size (by decide) (by decide) HE.out rfl)
  have HE := Lib.hid (m_litb 4 (w3.heap.size + 1) (by decide) (by decide) HE.out (by simp))
  go_wp2_with fail
  refine (m_inv (vm := (.slice (some ⟨w3.heap.size + 1, 0, none⟩) 1 1)) (va := (.slice (some ⟨w3.heap.size, 0, none⟩) 1 1)) (M := 4) (A := 2) HE.out.1 (HT.out _ HE.out.2) (by repeat first | exact List.mem_cons_self | apply List.mem_cons_of_mem) (by repeat first | exact List.mem_cons_self | apply List.mem_cons_of_mem) (by decide) (by decide +kernel)).mono ?_
  rintro e w4 ⟨hb, hor⟩
  rcases hor with ⟨hg, -⟩ | ⟨-, rfl, hE⟩
  · exact absurd hg (by decide)
  have HE := Lib.hid (And.intro hE (HE.out.2.trans (hb.mono HE.out.2.size)))
  clear hE hb
  have HE := Lib.hid (m_litb 2 w4.heap.size (by decide) (by decide) HE.out rfl)
  have HE := Lib.hid (And.intro HE.out.1.nil HE.out.2)
  go_wp2_with fail
  refine (m_of0 (vm := .slice none 0 0) (va := (.slice (some ⟨w4.heap.size, 0, none⟩) 1 1)) HE.out.1 (by repeat first | exact List.mem_cons_self | apply List.mem_cons_of_mem) (by repeat first | exact List.mem_cons_self | apply List.mem_cons_of_mem) rfl).mono ?_
  rintro e w5 ⟨rfl, hE, hb⟩
  have HE := Lib.hid (And.intro hE (HE.out.2.trans (hb.mono HE.out.2.size)))
  clear hE hb
  have HE := Lib.hid (m_litb 3 w5.heap.size (by decide) (by decide) HE.out rfl)
  go_wp2_with fail
  refine (n_same (v1 := vd) (v2 := (.slice (some ⟨w5.heap.size, 0, none⟩) 1 1)) HE.out.1 (by repeat first | exact List.mem_cons_self | apply List.mem_cons_of_mem) (by repeat first | exact List.mem_cons_self | apply List.mem_cons_of_mem) (by decide)).mono ?_
  rintro e w6 ⟨rfl, hE, hb⟩
  have HE := Lib.hid (And.intro hE (HE.out.2.trans (hb.mono HE.out.2.size)))
  clear hE hb
  have HE := Lib.hid (m_litb 24 w6.heap.size (by decide) (by decide) HE.out rfl)
  go_wp2_with fail
  refine (n_same (v1 := vp) (v2 := (.slice (some ⟨w6.heap.size, 0, none⟩) 1 1)) HE.out.1 (by repeat first | exact List.mem_cons_self | apply List.mem_cons_of_mem) (by repeat first | exact List.mem_cons_self | apply List.mem_cons_of_mem) (by decide)).mono ?_
  rintro e w7 ⟨rfl, hE, hb⟩
  have HE := Lib.hid (And.intro hE (HE.out.2.trans (hb.mono HE.out.2.size)))
  clear hE hb
  have HE := Lib.hid (m_litb 5 w7.heap.size (by decide) (by decide) HE.out rfl)
  go_wp2_with fail
  refine (n_same (v1 := vi) (v2 := (.slice (some ⟨w7.heap.size, 0, none⟩) 1 1)) HE.out.1 (by repeat first | exact List.mem_cons_self | apply List.mem_cons_of_mem) (by repeat first | exact List.mem_cons_self | apply List.mem_cons_of_mem) (rfl)).mono ?_
  rintro e w8 ⟨rfl, hE, hb⟩
  have HE := Lib.hid (And.intro hE (HE.out.2.trans (hb.mono HE.out.2.size)))
  clear hE hb
  go_wp2
  go_ret
  exact ⟨rfl, HE.out.2⟩
end Go.Proofs.YticncpeeeiobfaaDoor
