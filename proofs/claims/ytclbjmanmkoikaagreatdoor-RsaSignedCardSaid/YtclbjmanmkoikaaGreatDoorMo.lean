import Derived.Test.YtclbjmanmkoikaaGreatDoorNParts
import Derived.ScopeJumps
import Derived.WalkMore
namespace Go.Proofs.YtclbjmanmkoikaaGreatDoor
open Go.RowKit

/-- The number below m that, with y, leaves as much as x (both below m). -/
def mdiff (x y m : Nat) : Nat := if x < y then x + m - y else x - y
theorem mdiff_lt {x y m : Nat} (_hx : x < m) (_hy : y < m) : mdiff x y m < m := by
  unfold mdiff; split <;> omega
theorem mdiff_add {x y m : Nat} (hx : x < m) (hy : y < m) : (mdiff x y m + y) % m = x := by
  unfold mdiff
  split
  · rw [show x + m - y + y = x + m by omega, Nat.add_mod_right, Nat.mod_eq_of_lt hx]
  · rw [show x - y + y = x by omega, Nat.mod_eq_of_lt hx]
theorem mdiff_int {x y m : Nat} (hx : x < m) (hy : y < m) : ∃ k : Int, (mdiff x y m : Int) = x - y + k * m := by
  unfold mdiff
  split
  · exact ⟨1, by omega⟩
  · exact ⟨0, by omega⟩
/-- f times a leaves as much as r. -/
def Lv (f a r m : Nat) : Prop := ∃ k : Int, (f : Int) * a = r + k * m
theorem mod_int (x m : Nat) : ∃ k : Int, ((x % m : Nat) : Int) = x + k * m :=
  ⟨-(x / m : Nat), by
    have h := Nat.mod_add_div x m
    have h2 : ((x % m : Nat) : Int) + (m : Int) * ((x / m : Nat) : Int) = x := by rw [← Int.natCast_mul, ← Int.natCast_add, h]
    rw [Int.neg_mul, Int.mul_comm]
    omega⟩
theorem Lv.step {aF bF a A b q r m : Nat} (h1 : Lv aF a A m) (h2 : Lv bF a b m) (hq : A = q * b + r) (haF : aF < m) : Lv (mdiff aF (q * bF % m) m) a r m := by
  obtain ⟨k1, h1⟩ := h1
  obtain ⟨k2, h2⟩ := h2
  obtain ⟨k3, h3⟩ := mdiff_int haF (Nat.mod_lt (q * bF) (Nat.zero_lt_of_lt haF))
  obtain ⟨k4, h4⟩ := mod_int (q * bF) m
  have hq' : (A : Int) = q * b + r := by rw [hq]; push_cast; rfl
  have h4' : ((q * bF % m : Nat) : Int) = q * bF + k4 * m := by rw [h4]; push_cast; rfl
  refine ⟨k1 - q * k2 - k4 * a + k3 * a, ?_⟩
  rw [h3, h4']
  generalize (mdiff aF (q * bF % m) m : Int) = d at *
  generalize ((q * bF % m : Nat) : Int) = e at *
  grind
theorem Lv.zero (a m : Nat) : Lv 0 a m m := ⟨-1, by rw [Int.natCast_zero, Int.zero_mul]; omega⟩
theorem Lv.one (a m : Nat) : Lv 1 a a m := ⟨0, by simp⟩
theorem Lv.mod {f a r m : Nat} (h : Lv f a r m) : (f * a) % m = r % m := by
  obtain ⟨k, h⟩ := h
  have h1 : ((f * a : Nat) : Int) % (m : Int) = (r : Int) % m := by
    rw [Int.natCast_mul, h, Int.add_mul_emod_self_right]
  have h2 := h1
  rw [← Int.natCast_emod, ← Int.natCast_emod] at h2
  exact Int.ofNat.inj h2
theorem Lv.dvd {f a r m d : Nat} (h : Lv f a r m) (h1 : d ∣ a) (h2 : d ∣ m) : d ∣ r := by
  obtain ⟨k, h⟩ := h
  have e1 : (d : Int) ∣ (f : Int) * a := Int.dvd_mul_of_dvd_right (Int.natCast_dvd_natCast.2 h1)
  have e2 : (d : Int) ∣ k * m := Int.dvd_mul_of_dvd_right (Int.natCast_dvd_natCast.2 h2)
  have e3 : (d : Int) ∣ (r : Int) := by
    have := Int.dvd_sub e1 e2
    rw [h, Int.add_sub_cancel] at this
    exact this
  exact Int.natCast_dvd_natCast.1 e3
theorem pw_sq (A q m : Nat) : (A ^ q % m * (A ^ q % m)) % m = A ^ (2 * q) % m := by
  rw [← Nat.mul_mod, ← Nat.pow_add, Nat.two_mul]
theorem pw_mul (A q m : Nat) : (A ^ (2 * q) % m * (A % m)) % m = A ^ (2 * q + 1) % m := by
  rw [← Nat.mul_mod, Nat.pow_succ]
/-- A bit of a list of limbs. -/
theorem limb_bit {xs : List Nat} (h : Bd xs) (k : Nat) (hk : k / 64 < xs.length) : at0 xs (k / 64) / 2 ^ (k % 64) % 2 = val xs / 2 ^ k % 2 := by
  rw [at0_val h _ hk]
  have e : val xs / 2 ^ k = val xs / 18446744073709551616 ^ (k / 64) / 2 ^ (k % 64) := by
    rw [Nat.div_div_eq_div_mul, show (18446744073709551616 : Nat) = 2 ^ 64 by decide, ← Nat.pow_mul, ← Nat.pow_add, Nat.div_add_mod]
  rw [e]
  generalize val xs / 18446744073709551616 ^ (k / 64) = V
  have hs : k % 64 < 64 := Nat.mod_lt _ (by decide)
  generalize k % 64 = s at *
  rw [show (18446744073709551616 : Nat) = 2 ^ s * 2 ^ (64 - s) by rw [← Nat.pow_add, show s + (64 - s) = 64 by omega], Nat.mod_mul_right_div_self]
  have : (2 : Nat) ∣ 2 ^ (64 - s) := ⟨2 ^ (63 - s), by rw [← Nat.pow_succ', show 64 - s = 63 - s + 1 by omega]⟩
  exact Nat.mod_mod_of_dvd _ this
theorem half_step (N k : Nat) : N / 2 ^ k = 2 * (N / 2 ^ (k + 1)) + N / 2 ^ k % 2 := by
  rw [Nat.pow_succ, ← Nat.div_div_eq_div_mul]; omega

theorem NEnv.sub {B : Nat} {w : World} {L L' : List (Value × Nat × Bool)} (h : NEnv B w L) (hs : ∀ p ∈ L', p ∈ L) : NEnv B w L' := ⟨h.1, fun p hp => h.2 p (hs p hp)⟩
theorem NEnv.drop2 {B : Nat} {w : World} {L : List (Value × Nat × Bool)} {a b : Value × Nat × Bool} (h : NEnv B w (a :: b :: L)) : NEnv B w (a :: L) := h.sub fun p hp => by
  rcases List.mem_cons.1 hp with rfl | hp
  · exact List.mem_cons_self
  · exact List.mem_cons_of_mem _ (List.mem_cons_of_mem _ hp)
theorem NEnv.drop1 {B : Nat} {w : World} {L : List (Value × Nat × Bool)} {a : Value × Nat × Bool} (h : NEnv B w (a :: L)) : NEnv B w L := h.sub fun _ hp => List.mem_cons_of_mem _ hp
theorem m_bits {B : Nat} {w : World} {L : List (Value × Nat × Bool)} {v1 : Value} {n1 : Nat} {k1 : Bool} (hE : NEnv B w L) (h1 : (v1, n1, k1) ∈ L) :
    Calls Tryz.prog 41 #[v1] w fun e w' => ∃ k : Nat, e = .returned (.int .i64 (k : Nat)) ∧ BitsIs n1 k ∧ k ≤ 8192 ∧ w = w' := by
  obtain ⟨a, ca, xs, rfl, ho1, hb1, rfl, hl1, -⟩ := hE.get h1
  refine (bits_any a _ ca xs w rfl (by omega) (own64.room ho1).1 (own64.rd ho1).2 hb1).mono ?_
  rintro e w' ⟨⟨k, rfl, hk, hk2⟩, rfl⟩
  have f1 := fl_le_128 hl1
  exact ⟨k, rfl, hk, by omega, rfl⟩
/-- A list of one limb that the code writes out. -/
theorem m_lit {B : Nat} {w : World} {L : List (Value × Nat × Bool)} (x : Nat) (hx : x < 18446744073709551616) (h0 : 0 < x) (hE : NEnv B w L) : NEnv B (w.alloc (.cells #[.int .u64 (x : Nat)] 51)) ((.slice (some ⟨w.heap.size, 0, none⟩) 1 1, x, true) :: L) := by
  have hb : Below w.heap.size w (w.alloc (.cells #[.int .u64 (x : Nat)] 51)) := (Below.refl _ _).alloc (Nat.le_refl _) _
  have hown : own64 (w.alloc (.cells #[.int .u64 (x : Nat)] 51)) w.heap.size (.slice (some ⟨w.heap.size, 0, none⟩) 1 1) [x] :=
    own64_of_blk (zs := [x]) (c := 1) (heap_new w _) (Nat.le_refl _) (by simp) (by decide) rfl ⟨by simp, fun i hi => by
      obtain rfl : i = 0 := by simp at hi; omega
      rfl⟩
  have hN : Num [x] x := ⟨Bd.nil.cons hx, fun _ => by show x ≠ 0; omega, by simp [val]⟩
  refine hE.add hb (isn_of_num (own64.low hown hE.1) hN (Nat.lt_trans hx ?_))
  decide +kernel
set_option maxHeartbeats 2000000 in
theorem m_left {B : Nat} {w : World} {L : List (Value × Nat × Bool)} {vm va : Value} {M A : Nat} {km ka : Bool} (hE : NEnv B w L) (h1 : (vm, M, km) ∈ L) (h2 : (va, A, ka) ∈ L) (h0 : 0 < M) :
    Calls Tryz.prog 73 #[vm, va] w fun e w' => ∃ v, e = .returned v ∧ NEnv B w' ((v, A % M, true) :: L) ∧ Below w.heap.size w w' := by
  have HC := Lib.hid (n_div hE h2 h1 h0)
  clear hE h1 h2 h0
  go_enter Tryz.func73, Tryz.ntmps73
  go_wp2_with fail
  refine HC.out.mono ?_
  rintro e w2 ⟨q, v, rfl, hE, hb⟩
  have HE := Lib.hid (And.intro hE.drop1 hb)
  clear hE hb
  go_wp2
  go_ret
  exact ⟨v, rfl, HE.out⟩
set_option maxHeartbeats 2000000 in
theorem m_product {B : Nat} {w : World} {L : List (Value × Nat × Bool)} {vm va vb : Value} {M A C : Nat} {km ka kb : Bool} (hE : NEnv B w L) (hT : Trig w) (h1 : (vm, M, km) ∈ L) (h2 : (va, A, ka) ∈ L) (h3 : (vb, C, kb) ∈ L) (h0 : 0 < M) (hl : A * C < 18446744073709551616 ^ 128) :
    Calls Tryz.prog 93 #[vm, va, vb] w fun e w' => ∃ v, e = .returned v ∧ NEnv B w' ((v, (A * C) % M, true) :: L) ∧ Below w.heap.size w w' := by
  have HC := Lib.hid (n_mul hE hT h2 h3 hl)
  have HM := Lib.hid (And.intro h1 h0)
  clear hE h1 h2 h3 h0 hl hT
  go_enter Tryz.func93, Tryz.ntmps93
  go_wp2_with fail
  refine HC.out.mono ?_
  rintro e w2 ⟨s, rfl, hE, hb⟩
  have HE := Lib.hid (And.intro hE hb)
  clear hE hb
  go_wp2_with fail
  refine (m_left HE.out.1 (List.mem_cons_of_mem _ HM.out.1) List.mem_cons_self HM.out.2).mono ?_
  rintro e w3 ⟨v, rfl, hE, hb⟩
  have HE := Lib.hid (And.intro hE.drop2 (HE.out.2.trans (hb.mono HE.out.2.size)))
  clear hE hb
  go_wp2
  go_ret
  exact ⟨v, rfl, HE.out⟩
theorem box1 (w : World) (v : Value) (t : TypeId) (P : Value → Prop) (h : P v) : ∀ i, i < 1 → ∃ x, (w.alloc (.cells #[v] t)).cell? ⟨w.heap.size, 0 + i, none⟩ = some x ∧ P x := fun i hi => by
  obtain rfl : i = 0 := by omega
  exact ⟨v, World.cell?_alloc_at _ _ _ _ rfl, h⟩
theorem box2 (w : World) (v u : Value) (t : TypeId) (P : Value → Prop) (h : P v) (h2 : P u) : ∀ i, i < 2 → ∃ x, (w.alloc (.cells #[v, u] t)).cell? ⟨w.heap.size, 0 + i, none⟩ = some x ∧ P x := fun i hi => by
  rcases Nat.lt_or_ge i 1 with h1 | h1
  · obtain rfl : i = 0 := by omega
    exact ⟨v, World.cell?_alloc_at _ _ _ _ rfl, h⟩
  · obtain rfl : i = 1 := by omega
    exact ⟨u, World.cell?_alloc_at _ _ _ _ rfl, h2⟩
set_option exponentiation.threshold 10000 in
theorem lim64 {M : Nat} (h : M < 18446744073709551616 ^ 64) : M + M < 18446744073709551616 ^ 128 ∧ M * M < 18446744073709551616 ^ 128 := by
  have h1 : M * M < 18446744073709551616 ^ 64 * 18446744073709551616 ^ 64 := Nat.mul_lt_mul'' h h
  rw [← Nat.pow_add] at h1
  have h2 : (18446744073709551616 : Nat) ^ 64 + 18446744073709551616 ^ 64 ≤ 18446744073709551616 ^ 128 := by decide +kernel
  exact ⟨by omega, h1⟩
set_option exponentiation.threshold 10000 in
theorem bits_4096 {n k : Nat} (h : BitsIs n k) (hn : n < 18446744073709551616 ^ 64) : k ≤ 4096 := by
  rcases h with ⟨_, h⟩ | ⟨h0, h1, _⟩
  · omega
  · have h2 := Nat.lt_of_le_of_lt h1 hn
    rw [show (18446744073709551616 : Nat) = 2 ^ 64 by decide, ← Nat.pow_mul] at h2
    have := (Nat.pow_lt_pow_iff_right (by decide : 1 < 2)).1 h2
    omega
theorem NEnv.sl {B : Nat} {w : World} {L : List (Value × Nat × Bool)} {v : Value} {n : Nat} {k : Bool} (h : NEnv B w L) (hm : (v, n, k) ∈ L) : ∃ a k c, v = .slice a k c := by
  obtain ⟨a, c, zs, rfl, _⟩ := h.get hm
  exact ⟨a, _, c, rfl⟩
def InL (L : List (Value × Nat × Bool)) (v : Value) : Prop := ∃ N k, (v, N, k) ∈ L
set_option maxHeartbeats 2000000 in
theorem m_check {B : Nat} {w : World} {L : List (Value × Nat × Bool)} {vm : Value} {M : Nat} {km : Bool} (g off n c : Nat) (hE : NEnv B w L) (h1 : (vm, M, km) ∈ L) (hn : n ≤ 2) (hc : ∀ i, i < n → ∃ v, w.cell? ⟨g, off + i, none⟩ = some v ∧ InL L v) (h0 : 0 < M) (hM : M < 18446744073709551616 ^ 64) :
    Calls Tryz.prog 71 #[vm, .slice (some ⟨g, off, none⟩) n c] w fun e w' => ∃ v, e = .returned (.tuple #[v, .int .i64 0]) ∧ NEnv B w' ((v, M, true) :: L) ∧ Below w.heap.size w w' := by
  have HM := Lib.hid h1
  have HC := Lib.hid hc
  have HE := Lib.hid hE
  have HB := Lib.hid (m_bits hE h1)
  have HN := Lib.hid (fun (_ : Unit) => n_norm hE h1)
  have H0 := Lib.hid h0
  have HL := Lib.hid (fun k (h : BitsIs M k) => bits_4096 h hM)
  clear hE h1 hc h0 hM
  go_enter Tryz.func71, Tryz.ntmps71
  go_wp2
  go_loopw [11] (fun i wr => ∃ k : Nat, k ≤ n ∧ i = .int .i64 k ∧ w = wr) (fun i _ => n - (intOf i).toNat)
  case atStart => exact ⟨0, Nat.zero_le _, rfl, rfl⟩
  case round =>
    obtain ⟨k, hk, rfl, rfl⟩ := hrel
    by_cases hlt : k < n
    · obtain ⟨v, hcell, hin⟩ := HC.out k hlt
      obtain ⟨N, kv, hv⟩ := hin
      have HV := Lib.hid hv
      clear hv
      have hq1 : decide (k < n) = true := by rw [decide_eq_true_iff]; omega
      go_wp2_with fail
      refine (m_bits HE.out HV.out).mono ?_
      rintro e w' ⟨q, rfl, -, hq8, rfl⟩
      have hq2 : decide ((8192 : Int) < (q : Int)) = false := by rw [decide_eq_false_iff_not]; omega
      clear hcell
      go_wp2
      go_roundw
      case rel => exact ⟨k + 1, by omega, by go_num, by first | rfl | trivial⟩
      case measure => simp [intOf]; omega
    · have hq1 : decide (k < n) = false := by rw [decide_eq_false_iff_not]; omega
      go_wp2_with fail
      refine HB.out.mono ?_
      rintro e w' ⟨q, rfl, hb, hq8, rfl⟩
      have hq4 := HL.out q hb
      have hq5 : decide ((4096 : Int) < (q : Int)) = false := by rw [decide_eq_false_iff_not]; omega
      have hq6 : ((q : Int) == 0) = false := by
        have : q ≠ 0 := by
          rcases hb with ⟨h, _⟩ | ⟨h, _⟩
          · have := H0.out; omega
          · omega
        simp; omega
      clear hb hq4
      go_wp2_with fail
      refine (HN.out ()).mono ?_
      rintro e w2 ⟨v, rfl, hE, hb⟩
      have HE2 := Lib.hid (And.intro hE hb)
      clear hE hb
      go_wp2
      go_ret2
      exact ⟨v, rfl, HE2.out⟩
set_option maxHeartbeats 2000000 in
theorem m_check0 {B : Nat} {w : World} {L : List (Value × Nat × Bool)} {vm : Value} {M : Nat} {km : Bool} (g off n c : Nat) (hE : NEnv B w L) (h1 : (vm, M, km) ∈ L) (hn : n ≤ 2) (hc : ∀ i, i < n → ∃ v, w.cell? ⟨g, off + i, none⟩ = some v ∧ InL L v) (h0 : M = 0) :
    Calls Tryz.prog 71 #[vm, .slice (some ⟨g, off, none⟩) n c] w fun e w' => e = .returned (.tuple #[.slice none 0 0, .int .i64 11]) ∧ NEnv B w' L ∧ Below w.heap.size w w' := by
  have HM := Lib.hid h1
  have HC := Lib.hid hc
  have HE := Lib.hid hE
  have HB := Lib.hid (m_bits hE h1)
  have HN := Lib.hid (fun (_ : Unit) => n_norm hE h1)
  have H0 := Lib.hid h0
  
  clear hE h1 hc h0 
  go_enter Tryz.func71, Tryz.ntmps71
  go_wp2
  go_loopw [11] (fun i wr => ∃ k : Nat, k ≤ n ∧ i = .int .i64 k ∧ w = wr) (fun i _ => n - (intOf i).toNat)
  case atStart => exact ⟨0, Nat.zero_le _, rfl, rfl⟩
  case round =>
    obtain ⟨k, hk, rfl, rfl⟩ := hrel
    by_cases hlt : k < n
    · obtain ⟨v, hcell, hin⟩ := HC.out k hlt
      obtain ⟨N, kv, hv⟩ := hin
      have HV := Lib.hid hv
      clear hv
      have hq1 : decide (k < n) = true := by rw [decide_eq_true_iff]; omega
      go_wp2_with fail
      refine (m_bits HE.out HV.out).mono ?_
      rintro e w' ⟨q, rfl, -, hq8, rfl⟩
      have hq2 : decide ((8192 : Int) < (q : Int)) = false := by rw [decide_eq_false_iff_not]; omega
      clear hcell
      go_wp2
      go_roundw
      case rel => exact ⟨k + 1, by omega, by go_num, by first | rfl | trivial⟩
      case measure => simp [intOf]; omega
    · have hq1 : decide (k < n) = false := by rw [decide_eq_false_iff_not]; omega
      go_wp2_with fail
      refine HB.out.mono ?_
      rintro e w' ⟨q, rfl, hb, hq8, rfl⟩
      obtain rfl : q = 0 := by
        rcases hb with ⟨_, h⟩ | ⟨h, h2, _⟩
        · exact h
        · have := H0.out
          have := Nat.two_pow_pos (q - 1)
          omega
      clear hb
      go_wp2
      go_ret2
      exact ⟨rfl, HE.out, Below.refl _ _⟩
theorem NEnv.nil {B : Nat} {w : World} {L : List (Value × Nat × Bool)} (h : NEnv B w L) : NEnv B w ((.slice none 0 0, 0, true) :: L) :=
  ⟨h.1, fun p hp => by
    rcases List.mem_cons.1 hp with rfl | hp
    · exact ⟨none, 0, [], rfl, own64_nil _ _, Bd.nil, rfl, Nat.zero_le _, fun _ => Num.nil⟩
    · exact h.2 p hp⟩
/-- Of a number in its form: its list. -/
theorem NEnv.opens {B : Nat} {w : World} {L : List (Value × Nat × Bool)} {v : Value} {n : Nat} (h : NEnv B w L) (hm : (v, n, true) ∈ L) : ∃ a k c, v = .slice a k c ∧ (k = 0 ↔ n = 0) := by
  obtain ⟨a, c, zs, rfl, _, _, _, _, hN⟩ := h.get hm
  refine ⟨a, _, c, rfl, ?_⟩
  have h1 := (hN rfl).len_le (k := 0)
  rw [Nat.pow_zero] at h1
  omega
theorem and_one (a : Nat) (h : a < 18446744073709551616) : bits BinOp.and IntKind.u64 (a : Int) 1 = ((a % 2 : Nat) : Int) := by
  have := u64_and_nat a 1 h (by decide)
  rw [show ((1 : Nat) : Int) = 1 from rfl] at this
  rw [this]
  exact congrArg _ (Nat.and_two_pow_sub_one_eq_mod a 1)
theorem bits_one {n q : Nat} (h : BitsIs n q) : 1 < q ↔ 1 < n := by
  rcases h with ⟨h1, h2⟩ | ⟨h0, h1, h2⟩
  · omega
  · obtain ⟨r, rfl⟩ : ∃ r, q = r + 1 := ⟨q - 1, by omega⟩
    rw [Nat.add_sub_cancel] at h1
    rcases r with _ | s
    · simp at h1 h2; omega
    · rw [Nat.pow_succ] at h1
      have := Nat.two_pow_pos s
      omega
theorem bits_limb {ns : List Nat} {N k ln j : Nat} (h : BitsIs N k) (hb : Bd ns) (hv : val ns = N) (hl : ns.length = ln) (hj : j < k) : j / 64 < ln := by
  have h1 := val_lt hb
  rw [hv, hl, show (18446744073709551616 : Nat) = 2 ^ 64 by decide, ← Nat.pow_mul] at h1
  rcases h with ⟨_, h2⟩ | ⟨h0, h2, _⟩
  · omega
  · have := (Nat.pow_lt_pow_iff_right (by decide : 1 < 2)).1 (Nat.lt_of_le_of_lt h2 h1)
    omega
set_option maxHeartbeats 800000 in
set_option maxRecDepth 100000 in
theorem m_power {B : Nat} {w : World} {L : List (Value × Nat × Bool)} {vm va vn : Value} {M A N : Nat} {km ka kn : Bool} (hE : NEnv B w L) (hT : Trig w) (g0 : (vm, M, km) ∈ L) (g1 : (va, A, ka) ∈ L) (g2 : (vn, N, kn) ∈ L) (hp : 0 < M) (hA : A < M) (hM : M < 18446744073709551616 ^ 64) :
    Calls Tryz.prog 72 #[vm, va, vn] w fun e w' => ∃ v, e = .returned v ∧ NEnv B w' ((v, A ^ N % M, true) :: L) ∧ Below w.heap.size w w' := by
  have HBITS := Lib.hid (fun (W : World) (L' : List (Value × Nat × Bool)) (h : NEnv B W L') (hm : (vn, N, kn) ∈ L') => m_bits h hm)
  obtain ⟨an, cn, ns, hvn, ho, bn, hvl, hl128, -⟩ := hE.get g2
  subst hvn
  have hr := (own64.rd ho).2
  have HR := Lib.hid (fun (W : World) (h : Below w.heap.size w W) => hr.below h)
  generalize hln : ns.length = ln at *
  have HLN := Lib.hid hln
  have HBN := Lib.hid bn
  have HVL := Lib.hid hvl
  have HM : Hid ((vm, M, km) ∈ L ∧ (va, A, ka) ∈ L ∧ (.slice an ln cn, N, kn) ∈ L) := ⟨g0, g1, g2⟩
  have HL := Lib.hid (lim64 hM)
  have HAM := Lib.hid (And.intro hp hA)
  have HT := Lib.hid (fun (W : World) (h : Below w.heap.size w W) => hT.below h)
  have hlit := m_lit 1 (by decide) (by decide) hE
  have hal : Below w.heap.size w (w.alloc (.cells #[.int .u64 (1 : Nat)] 51)) := (Below.refl _ _).alloc (Nat.le_refl _) _
  have HE := Lib.hid (And.intro hlit hal)
  clear hE hlit hal g0 g1 g2 hp hA hM hT ho hr hln bn hvl hl128
  go_enter Tryz.func72, Tryz.ntmps72
  go_wp2
  refine wp_scope_jumps 0 (fun a' w' => ∃ (k : Nat) (pv u3 u4 u5 u6 u9 u10 u11 u12 u13 u14 u15 u16 u17 u18 u19 u20 u21 u22 u23 u24 u25 u26 u27 u28 u29 u30 u31 u32 u33 u34 u35 u36 : Value), a' = { tmps := #[vm, va, .slice an ln cn, u3, u4, u5, u6, pv, .int .i64 (k : Nat), u9, u10, u11, u12, u13, u14, u15, u16, u17, u18, u19, u20, u21, u22, u23, u24, u25, u26, u27, u28, u29, u30, u31, u32, u33, u34, u35, u36], defers := [] } ∧ k ≤ 8192 ∧ Hid (∀ j, j < k → j / 64 < ln) ∧ Hid (NEnv B w' ((pv, A ^ (N / 2 ^ k) % M, true) :: L) ∧ Below w.heap.size w w')) (fun a' _ => (intOf (a'.tmps.getD 8 undef)).toNat) rfl ?_ ?_
  · go_wp2_with fail
    refine (m_left (vm := vm) HE.out.1 (by have hmm := HM.out.1; repeat first | exact List.mem_cons_self | exact hmm | apply List.mem_cons_of_mem) (by repeat first | exact List.mem_cons_self | apply List.mem_cons_of_mem) HAM.out.1).mono ?_
    rintro e w2 ⟨pv, rfl, hE, hb⟩
    have HE2 := Lib.hid (And.intro hE.drop2 (HE.out.2.trans (hb.mono HE.out.2.size)))
    clear hE hb
    go_wp2_with fail
    refine (HBITS.out _ _ HE2.out.1 (List.mem_cons_of_mem _ HM.out.2.2)).mono ?_
    rintro e w3 ⟨k, rfl, hk, hk8, rfl⟩
    have HKL : Hid (∀ j, j < k → j / 64 < ln) := fun j hj => bits_limb hk HBN.out HVL.out HLN.out hj
    have hstart : A ^ (N / 2 ^ k) % M = 1 % M := by rw [Nat.div_eq_of_lt (bits_lt hk), Nat.pow_zero]
    have HE3 : Hid (NEnv B w2 ((pv, A ^ (N / 2 ^ k) % M, true) :: L) ∧ Below w.heap.size w w2) := by show _ ∧ _; rw [hstart]; exact HE2.out
    clear hk HE HE2 hstart
    go_wp2
    go_step3
    have HK := HKL
    have HS := HE3
    have hk := hk8
    clear HKL HE3 hk8
    by_cases hk0 : k = 0
    · subst hk0
      go_wp2
      simp only [Exit.jump]
      go_ret
      refine ⟨_, rfl, ?_, HS.out.2⟩
      have h1 := HS.out.1
      rw [Nat.pow_zero, Nat.div_one] at h1
      exact h1
    · obtain ⟨j, rfl⟩ : ∃ j, k = j + 1 := ⟨k - 1, by omega⟩
      have hq0 : (((j + 1 : Nat) : Int) == 0) = false := by simp; omega
      have HJ := Lib.hid (And.intro hk (HK.out j (by omega)))
      clear hk0
      go_wp2_with fail
      refine (m_product (vm := vm) (va := pv) (vb := pv) HS.out.1 (HT.out _ HS.out.2) (by have hmm := HM.out.1; repeat first | exact List.mem_cons_self | exact hmm | apply List.mem_cons_of_mem) (by repeat first | exact List.mem_cons_self | apply List.mem_cons_of_mem) (by repeat first | exact List.mem_cons_self | apply List.mem_cons_of_mem) HAM.out.1 (Nat.lt_of_le_of_lt (Nat.mul_le_mul (Nat.le_of_lt (Nat.mod_lt _ HAM.out.1)) (Nat.le_of_lt (Nat.mod_lt _ HAM.out.1))) HL.out.2)).mono ?_
      rintro e w4 ⟨p2, rfl, hE, hb⟩
      rw [pw_sq] at hE
      have HS2 := Lib.hid (And.intro hE.drop2 (HS.out.2.trans (hb.mono HS.out.2.size)))
      clear hE hb hq0
      obtain ⟨b, off, rfl⟩ := (HR.out _ HS2.out.2).isAt (by have h1 := HLN.out; have h2 := HJ.out.2; omega)
      have hc := (HR.out _ HS2.out.2).cell (i := j / 64) (by have h1 := HLN.out; have h2 := HJ.out.2; omega)
      have hx := HBN.out.at0 (j / 64)
      have HV := Lib.hid (limb_bit HBN.out j (by have h1 := HLN.out; have h2 := HJ.out.2; omega))
      generalize at0 ns (j / 64) = x at *
      have hx2 : x / 2 ^ (j % 64) < 18446744073709551616 := Nat.lt_of_le_of_lt (Nat.div_le_self _ _) hx
      have HBT : Hid (bits BinOp.and IntKind.u64 ((x : Int) / 2 ^ (j % 64)) 1 = ((N / 2 ^ j % 2 : Nat) : Int)) := by
        show _ = _
        rw [← HVL.out, ← HV.out, ← and_one _ hx2, Int.natCast_ediv, Int.natCast_pow]; rfl
      clear hx2
      have hjl := HJ.out.2
      have hj8 : j ≤ 8192 := by have := HJ.out.1; omega
      by_cases hbit : N / 2 ^ j % 2 = 0
      · have hbt : (bits BinOp.and IntKind.u64 ((x : Int) / 2 ^ (j % 64)) 1 == 0) = true := by rw [HBT.out, hbit]; rfl
        have HEN : Hid (NEnv B w4 ((p2, A ^ (N / 2 ^ j) % M, true) :: L) ∧ Below w.heap.size w w4) := ⟨by
          have h1 := half_step N j
          rw [hbit, Nat.add_zero] at h1
          rw [h1]
          exact HS2.out.1, HS2.out.2⟩
        clear HS2 HBT HV hbit
        go_wp2
        go_step3
        exact ⟨rfl, j, p2, _, _, _, _, _, _, _, _, _, _, _, _, _, _, _, _, _, _, _, _, _, _, _, _, _, _, _, _, _, _, _, _, rfl, by have := HJ.out.1; omega, fun i hi => HK.out i (by omega), HEN.out⟩
      · have hbt : (bits BinOp.and IntKind.u64 ((x : Int) / 2 ^ (j % 64)) 1 == 0) = false := by rw [HBT.out, show N / 2 ^ j % 2 = 1 by omega]; rfl
        have HBIT : Hid (N / 2 ^ j % 2 = 1) := by show _ = _; omega
        clear HBT HV hbit
        go_wp2_with fail
        refine (m_product (vm := vm) (va := p2) (vb := va) HS2.out.1 (HT.out _ HS2.out.2) (by have hmm := HM.out.1; repeat first | exact List.mem_cons_self | exact hmm | apply List.mem_cons_of_mem) (by repeat first | exact List.mem_cons_self | apply List.mem_cons_of_mem) (by have hmm := HM.out.2.1; repeat first | exact List.mem_cons_self | exact hmm | apply List.mem_cons_of_mem) HAM.out.1 (Nat.lt_of_le_of_lt (Nat.mul_le_mul (Nat.le_of_lt (Nat.mod_lt _ HAM.out.1)) (Nat.le_of_lt HAM.out.2)) HL.out.2)).mono ?_
        rintro e w5 ⟨p3, rfl, hE, hb⟩
        have HEN : Hid (NEnv B w5 ((p3, A ^ (N / 2 ^ j) % M, true) :: L) ∧ Below w.heap.size w w5) := ⟨by
          have h1 := half_step N j
          rw [HBIT.out] at h1
          rw [h1, ← pw_mul, Nat.mod_eq_of_lt HAM.out.2]
          exact hE.drop2, HS2.out.2.trans (hb.mono HS2.out.2.size)⟩
        clear HS2 hE hb
        go_wp2
        go_step3
        exact ⟨rfl, j, p3, _, _, _, _, _, _, _, _, _, _, _, _, _, _, _, _, _, _, _, _, _, _, _, _, _, _, _, _, _, _, _, _, rfl, by have := HJ.out.1; omega, fun i hi => HK.out i (by omega), HEN.out⟩

  · rintro a' w' ⟨k, pv, u3, u4, u5, u6, u9, u10, u11, u12, u13, u14, u15, u16, u17, u18, u19, u20, u21, u22, u23, u24, u25, u26, u27, u28, u29, u30, u31, u32, u33, u34, u35, u36, rfl, hk, HK, HS⟩
    by_cases hk0 : k = 0
    · subst hk0
      go_wp2
      simp only [Exit.jump]
      go_ret
      refine ⟨_, rfl, ?_, HS.out.2⟩
      have h1 := HS.out.1
      rw [Nat.pow_zero, Nat.div_one] at h1
      exact h1
    · obtain ⟨j, rfl⟩ : ∃ j, k = j + 1 := ⟨k - 1, by omega⟩
      have hq0 : (((j + 1 : Nat) : Int) == 0) = false := by simp; omega
      have HJ := Lib.hid (And.intro hk (HK.out j (by omega)))
      clear hk0
      go_wp2_with fail
      refine (m_product (vm := vm) (va := pv) (vb := pv) HS.out.1 (HT.out _ HS.out.2) (by have hmm := HM.out.1; repeat first | exact List.mem_cons_self | exact hmm | apply List.mem_cons_of_mem) (by repeat first | exact List.mem_cons_self | apply List.mem_cons_of_mem) (by repeat first | exact List.mem_cons_self | apply List.mem_cons_of_mem) HAM.out.1 (Nat.lt_of_le_of_lt (Nat.mul_le_mul (Nat.le_of_lt (Nat.mod_lt _ HAM.out.1)) (Nat.le_of_lt (Nat.mod_lt _ HAM.out.1))) HL.out.2)).mono ?_
      rintro e w4 ⟨p2, rfl, hE, hb⟩
      rw [pw_sq] at hE
      have HS2 := Lib.hid (And.intro hE.drop2 (HS.out.2.trans (hb.mono HS.out.2.size)))
      clear hE hb hq0
      obtain ⟨b, off, rfl⟩ := (HR.out _ HS2.out.2).isAt (by have h1 := HLN.out; have h2 := HJ.out.2; omega)
      have hc := (HR.out _ HS2.out.2).cell (i := j / 64) (by have h1 := HLN.out; have h2 := HJ.out.2; omega)
      have hx := HBN.out.at0 (j / 64)
      have HV := Lib.hid (limb_bit HBN.out j (by have h1 := HLN.out; have h2 := HJ.out.2; omega))
      generalize at0 ns (j / 64) = x at *
      have hx2 : x / 2 ^ (j % 64) < 18446744073709551616 := Nat.lt_of_le_of_lt (Nat.div_le_self _ _) hx
      have HBT : Hid (bits BinOp.and IntKind.u64 ((x : Int) / 2 ^ (j % 64)) 1 = ((N / 2 ^ j % 2 : Nat) : Int)) := by
        show _ = _
        rw [← HVL.out, ← HV.out, ← and_one _ hx2, Int.natCast_ediv, Int.natCast_pow]; rfl
      clear hx2
      have hjl := HJ.out.2
      have hj8 : j ≤ 8192 := by have := HJ.out.1; omega
      by_cases hbit : N / 2 ^ j % 2 = 0
      · have hbt : (bits BinOp.and IntKind.u64 ((x : Int) / 2 ^ (j % 64)) 1 == 0) = true := by rw [HBT.out, hbit]; rfl
        have HEN : Hid (NEnv B w4 ((p2, A ^ (N / 2 ^ j) % M, true) :: L) ∧ Below w.heap.size w w4) := ⟨by
          have h1 := half_step N j
          rw [hbit, Nat.add_zero] at h1
          rw [h1]
          exact HS2.out.1, HS2.out.2⟩
        clear HS2 HBT HV hbit
        go_wp2
        go_step3
        refine ⟨rfl, ⟨j, p2, _, _, _, _, _, _, _, _, _, _, _, _, _, _, _, _, _, _, _, _, _, _, _, _, _, _, _, _, _, _, _, _, rfl, by have := HJ.out.1; omega, fun i hi => HK.out i (by omega), HEN.out⟩, ?_⟩
        simp [intOf]
      · have hbt : (bits BinOp.and IntKind.u64 ((x : Int) / 2 ^ (j % 64)) 1 == 0) = false := by rw [HBT.out, show N / 2 ^ j % 2 = 1 by omega]; rfl
        have HBIT : Hid (N / 2 ^ j % 2 = 1) := by show _ = _; omega
        clear HBT HV hbit
        go_wp2_with fail
        refine (m_product (vm := vm) (va := p2) (vb := va) HS2.out.1 (HT.out _ HS2.out.2) (by have hmm := HM.out.1; repeat first | exact List.mem_cons_self | exact hmm | apply List.mem_cons_of_mem) (by repeat first | exact List.mem_cons_self | apply List.mem_cons_of_mem) (by have hmm := HM.out.2.1; repeat first | exact List.mem_cons_self | exact hmm | apply List.mem_cons_of_mem) HAM.out.1 (Nat.lt_of_le_of_lt (Nat.mul_le_mul (Nat.le_of_lt (Nat.mod_lt _ HAM.out.1)) (Nat.le_of_lt HAM.out.2)) HL.out.2)).mono ?_
        rintro e w5 ⟨p3, rfl, hE, hb⟩
        have HEN : Hid (NEnv B w5 ((p3, A ^ (N / 2 ^ j) % M, true) :: L) ∧ Below w.heap.size w w5) := ⟨by
          have h1 := half_step N j
          rw [HBIT.out] at h1
          rw [h1, ← pw_mul, Nat.mod_eq_of_lt HAM.out.2]
          exact hE.drop2, HS2.out.2.trans (hb.mono HS2.out.2.size)⟩
        clear HS2 hE hb
        go_wp2
        go_step3
        refine ⟨rfl, ⟨j, p3, _, _, _, _, _, _, _, _, _, _, _, _, _, _, _, _, _, _, _, _, _, _, _, _, _, _, _, _, _, _, _, _, rfl, by have := HJ.out.1; omega, fun i hi => HK.out i (by omega), HEN.out⟩, ?_⟩
        simp [intOf]

set_option maxHeartbeats 4000000 in
theorem m_pow {B : Nat} {w : World} {L : List (Value × Nat × Bool)} {vm va vb : Value} {M A N : Nat} {km ka kb : Bool} (hE : NEnv B w L) (hT : Trig w) (g0 : (vm, M, km) ∈ L) (g1 : (va, A, ka) ∈ L) (g2 : (vb, N, kb) ∈ L) (hp : 0 < M) (hM : M < 18446744073709551616 ^ 64) :
    Calls Tryz.prog 45 #[va, vb, vm] w fun e w' => ∃ v, e = .returned (.tuple #[v, .int .i64 0]) ∧ NEnv B w' ((v, A ^ N % M, true) :: L) ∧ Below w.heap.size w w' := by
  obtain ⟨aa, la, ca, rfl⟩ := hE.sl g1
  obtain ⟨ab, lb, cb, rfl⟩ := hE.sl g2
  have HA : Hid ((vm, M, km) ∈ L ∧ ((.slice aa la ca), A, ka) ∈ L ∧ ((.slice ab lb cb), N, kb) ∈ L) := ⟨g0, g1, g2⟩
  have HM := Lib.hid (And.intro g0 (And.intro hp hM))
  have HL := Lib.hid (lim64 hM)
  have HT := Lib.hid (fun (W : World) (h : Below w.heap.size w W) => hT.below h)
  have hal : Below w.heap.size w (w.alloc (.cells #[(.slice aa la ca), (.slice ab lb cb)] 22)) := (Below.refl _ _).alloc (Nat.le_refl _) _
  have HE := Lib.hid (And.intro (hE.below hal) hal)
  have HBX := Lib.hid (box2 w (.slice aa la ca) (.slice ab lb cb) 22 (InL L) ⟨_, _, g1⟩ ⟨_, _, g2⟩)
  clear hE hal g0 g1 g2 hp hM hT
  go_enter Tryz.func45, Tryz.ntmps45
  go_wp2_with fail
  refine (m_check _ 0 _ _ HE.out.1 HA.out.1 (by decide) HBX.out HM.out.2.1 HM.out.2.2).mono ?_
  rintro e w2 ⟨vc, rfl, hE, hb⟩
  have HE := Lib.hid (And.intro hE (HE.out.2.trans (hb.mono HE.out.2.size)))
  clear hE hb HBX
  go_wp2_with fail
  refine (m_left (vm := vc) (va := (.slice aa la ca)) HE.out.1 (by repeat first | exact List.mem_cons_self | apply List.mem_cons_of_mem) (by have := HA.out; repeat first | exact List.mem_cons_self | exact HA.out.2.1 | apply List.mem_cons_of_mem) HM.out.2.1).mono ?_
  rintro e w3 ⟨xa, rfl, hE, hb⟩
  have HE := Lib.hid (And.intro hE (HE.out.2.trans (hb.mono HE.out.2.size)))
  clear hE hb
  go_wp2_with fail
  refine (m_power (vm := vc) (va := xa) (vn := .slice ab lb cb) HE.out.1 (HT.out _ HE.out.2) (by repeat first | exact List.mem_cons_self | apply List.mem_cons_of_mem) (by repeat first | exact List.mem_cons_self | apply List.mem_cons_of_mem) (by have hmm := HA.out.2.2; repeat first | exact List.mem_cons_self | exact hmm | apply List.mem_cons_of_mem) HM.out.2.1 (Nat.mod_lt _ HM.out.2.1) HM.out.2.2).mono ?_
  rintro e w5 ⟨vz, rfl, hE, hb⟩
  rw [← Nat.pow_mod] at hE
  have HE := Lib.hid (And.intro hE (HE.out.2.trans (hb.mono HE.out.2.size)))
  clear hE hb
  go_wp2
  go_ret2
  exact ⟨vz, rfl, HE.out.1.sub fun p hp => by
    rcases List.mem_cons.1 hp with rfl | hp
    · exact List.mem_cons_self
    · repeat first | exact hp | apply List.mem_cons_of_mem, HE.out.2⟩
theorem sz_alloc (w : World) (o : Obj) : (w.alloc o).heap.size = w.heap.size + 1 := by simp
abbrev cu (x : Nat) : Obj := .cells #[.int .u64 (x : Nat)] 51
theorem m_litb {B : Nat} {w w0 : World} {L : List (Value × Nat × Bool)} (x n : Nat) (hx : x < 18446744073709551616) (h0 : 0 < x) (hE : NEnv B w L ∧ Below w0.heap.size w0 w) (hn : w.heap.size = n) : NEnv B (w.alloc (.cells #[.int .u64 (x : Nat)] 51)) ((.slice (some ⟨n, 0, none⟩) 1 1, x, true) :: L) ∧ Below w0.heap.size w0 (w.alloc (.cells #[.int .u64 (x : Nat)] 51)) := by
  subst hn
  exact ⟨m_lit x hx h0 hE.1, hE.2.alloc hE.2.size _⟩
end Go.Proofs.YtclbjmanmkoikaaGreatDoor
