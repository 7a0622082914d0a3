import Derived.Test.YtaookoejdnkkoaaGreatDoorKNParts
import Derived.ScopeJumps
import Derived.WalkMore
namespace Go.Proofs.YtaookoejdnkkoaaGreatDoor
open Go.RowKit

theorem pw_sq (A q m : Nat) : (A ^ q % m * (A ^ q % m)) % m = A ^ (2 * q) % m := by
  rw [← Nat.mul_mod, ← Nat.pow_add, Nat.two_mul]
theorem pw_mul (A q m : Nat) : (A ^ (2 * q) % m * (A % m)) % m = A ^ (2 * q + 1) % m := by
  rw [← Nat.mul_mod, Nat.pow_succ]
/-- A bit of a list of limbs. -/
theorem limb_bit {xs : List Nat} (h : Bd xs) (k : Nat) (hk : k / 64 < xs.length) : at0 xs (k / 64) / 2 ^ (k % 64) % 2 = val xs / 2 ^ k % 2 := by
  rw [at0_val h _ hk]
  have e : val xs / 2 ^ k = val xs / 18446744073709551616 ^ (k / 64) / 2 ^ (k % 64) := by
    rw [Nat.div_div_eq_div_mul, show (18446744073709551616 : Nat) = 2 ^ 64 by decide, ← Nat.pow_mul, ← Nat.pow_add, Nat.div_add_mod]
  rw [e]
  generalize val xs / 18446744073709551616 ^ (k / 64) = V
  have hs : k % 64 < 64 := Nat.mod_lt _ (by decide)
  generalize k % 64 = s at *
  rw [show (18446744073709551616 : Nat) = 2 ^ s * 2 ^ (64 - s) by rw [← Nat.pow_add, show s + (64 - s) = 64 by omega], Nat.mod_mul_right_div_self]
  have : (2 : Nat) ∣ 2 ^ (64 - s) := ⟨2 ^ (63 - s), by rw [← Nat.pow_succ', show 64 - s = 63 - s + 1 by omega]⟩
  exact Nat.mod_mod_of_dvd _ this
theorem half_step (N k : Nat) : N / 2 ^ k = 2 * (N / 2 ^ (k + 1)) + N / 2 ^ k % 2 := by
  rw [Nat.pow_succ, ← Nat.div_div_eq_div_mul]; omega

theorem NEnv.sub {B : Nat} {w : World} {L L' : List (Value × Nat × Bool)} (h : NEnv B w L) (hs : ∀ p ∈ L', p ∈ L) : NEnv B w L' := ⟨h.1, fun p hp => h.2 p (hs p hp)⟩
theorem NEnv.drop2 {B : Nat} {w : World} {L : List (Value × Nat × Bool)} {a b : Value × Nat × Bool} (h : NEnv B w (a :: b :: L)) : NEnv B w (a :: L) := h.sub fun p hp => by
  rcases List.mem_cons.1 hp with rfl | hp
  · exact List.mem_cons_self
  · exact List.mem_cons_of_mem _ (List.mem_cons_of_mem _ hp)
theorem NEnv.drop1 {B : Nat} {w : World} {L : List (Value × Nat × Bool)} {a : Value × Nat × Bool} (h : NEnv B w (a :: L)) : NEnv B w L := h.sub fun _ hp => List.mem_cons_of_mem _ hp
/-- A list of one limb that the code writes out. -/
theorem m_lit {B : Nat} {w : World} {L : List (Value × Nat × Bool)} (x : Nat) (hx : x < 18446744073709551616) (h0 : 0 < x) (hE : NEnv B w L) : NEnv B (w.alloc (.cells #[.int .u64 (x : Nat)] 47)) ((.slice (some ⟨w.heap.size, 0, none⟩) 1 1, x, true) :: L) := by
  have hb : Below w.heap.size w (w.alloc (.cells #[.int .u64 (x : Nat)] 47)) := (Below.refl _ _).alloc (Nat.le_refl _) _
  have hown : own64 (w.alloc (.cells #[.int .u64 (x : Nat)] 47)) w.heap.size (.slice (some ⟨w.heap.size, 0, none⟩) 1 1) [x] :=
    own64_of_blk (zs := [x]) (c := 1) (heap_new w _) (Nat.le_refl _) (by simp) (by decide) rfl ⟨by simp, fun i hi => by
      obtain rfl : i = 0 := by simp at hi; omega
      rfl⟩
  have hN : Num [x] x := ⟨Bd.nil.cons hx, fun _ => by show x ≠ 0; omega, by simp [val]⟩
  refine hE.add hb (isn_of_num (own64.low hown hE.1) hN (Nat.lt_trans hx ?_))
  decide +kernel
set_option maxHeartbeats 2000000 in
theorem m_left {B : Nat} {w : World} {L : List (Value × Nat × Bool)} {vm va : Value} {M A : Nat} {km ka : Bool} (hE : NEnv B w L) (h1 : (vm, M, km) ∈ L) (h2 : (va, A, ka) ∈ L) (h0 : 0 < M) :
    Calls Tryz.prog 118 #[vm, va] w fun e w' => ∃ v, e = .returned v ∧ NEnv B w' ((v, A % M, true) :: L) ∧ Below w.heap.size w w' := by
  have HC := Lib.hid (n_div hE h2 h1 h0)
  clear hE h1 h2 h0
  go_enter Tryz.func118, Tryz.ntmps118
  go_wp2_with fail
  refine HC.out.mono ?_
  rintro e w2 ⟨q, v, rfl, hE, hb⟩
  have HE := Lib.hid (And.intro hE.drop1 hb)
  clear hE hb
  go_wp2
  go_ret
  exact ⟨v, rfl, HE.out⟩
set_option maxHeartbeats 2000000 in
theorem m_product {B : Nat} {w : World} {L : List (Value × Nat × Bool)} {vm va vb : Value} {M A C : Nat} {km ka kb : Bool} (hE : NEnv B w L) (hT : Trig w) (h1 : (vm, M, km) ∈ L) (h2 : (va, A, ka) ∈ L) (h3 : (vb, C, kb) ∈ L) (h0 : 0 < M) (hl : A * C < 18446744073709551616 ^ 128) :
    Calls Tryz.prog 164 #[vm, va, vb] w fun e w' => ∃ v, e = .returned v ∧ NEnv B w' ((v, (A * C) % M, true) :: L) ∧ Below w.heap.size w w' := by
  have HC := Lib.hid (n_mul hE hT h2 h3 hl)
  have HM := Lib.hid (And.intro h1 h0)
  clear hE h1 h2 h3 h0 hl hT
  go_enter Tryz.func164, Tryz.ntmps164
  go_wp2_with fail
  refine HC.out.mono ?_
  rintro e w2 ⟨s, rfl, hE, hb⟩
  have HE := Lib.hid (And.intro hE hb)
  clear hE hb
  go_wp2_with fail
  refine (m_left HE.out.1 (List.mem_cons_of_mem _ HM.out.1) List.mem_cons_self HM.out.2).mono ?_
  rintro e w3 ⟨v, rfl, hE, hb⟩
  have HE := Lib.hid (And.intro hE.drop2 (HE.out.2.trans (hb.mono HE.out.2.size)))
  clear hE hb
  go_wp2
  go_ret
  exact ⟨v, rfl, HE.out⟩
set_option exponentiation.threshold 10000 in
theorem lim64 {M : Nat} (h : M < 18446744073709551616 ^ 64) : M + M < 18446744073709551616 ^ 128 ∧ M * M < 18446744073709551616 ^ 128 := by
  have h1 : M * M < 18446744073709551616 ^ 64 * 18446744073709551616 ^ 64 := Nat.mul_lt_mul'' h h
  rw [← Nat.pow_add] at h1
  have h2 : (18446744073709551616 : Nat) ^ 64 + 18446744073709551616 ^ 64 ≤ 18446744073709551616 ^ 128 := by decide +kernel
  exact ⟨by omega, h1⟩
theorem NEnv.sl {B : Nat} {w : World} {L : List (Value × Nat × Bool)} {v : Value} {n : Nat} {k : Bool} (h : NEnv B w L) (hm : (v, n, k) ∈ L) : ∃ a k c, v = .slice a k c := by
  obtain ⟨a, c, zs, rfl, _⟩ := h.get hm
  exact ⟨a, _, c, rfl⟩
theorem NEnv.nil {B : Nat} {w : World} {L : List (Value × Nat × Bool)} (h : NEnv B w L) : NEnv B w ((.slice none 0 0, 0, true) :: L) :=
  ⟨h.1, fun p hp => by
    rcases List.mem_cons.1 hp with rfl | hp
    · exact ⟨none, 0, [], rfl, own64_nil _ _, Bd.nil, rfl, Nat.zero_le _, fun _ => Num.nil⟩
    · exact h.2 p hp⟩
theorem and_one (a : Nat) (h : a < 18446744073709551616) : bits BinOp.and IntKind.u64 (a : Int) 1 = ((a % 2 : Nat) : Int) := by
  have := u64_and_nat a 1 h (by decide)
  rw [show ((1 : Nat) : Int) = 1 from rfl] at this
  rw [this]
  exact congrArg _ (Nat.and_two_pow_sub_one_eq_mod a 1)
theorem bits_limb {ns : List Nat} {N k ln j : Nat} (h : BitsIs N k) (hb : Bd ns) (hv : val ns = N) (hl : ns.length = ln) (hj : j < k) : j / 64 < ln := by
  have h1 := val_lt hb
  rw [hv, hl, show (18446744073709551616 : Nat) = 2 ^ 64 by decide, ← Nat.pow_mul] at h1
  rcases h with ⟨_, h2⟩ | ⟨h0, h2, _⟩
  · omega
  · have := (Nat.pow_lt_pow_iff_right (by decide : 1 < 2)).1 (Nat.lt_of_le_of_lt h2 h1)
    omega
end Go.Proofs.YtaookoejdnkkoaaGreatDoor
