import Derived.Test.YtfjhmnbbjknflaaDoorModE
import Derived.Test.YtfjhmnbbjknflaaDoorModP
namespace Go.Proofs.YtfjhmnbbjknflaaDoor
open Go.RowKit

set_option exponentiation.threshold 10000 in
theorem lims_l {A C M : Nat} (hA : A < 18446744073709551616 ^ 60) (hC : C < 18446744073709551616 ^ 60) (hM : M < 18446744073709551616 ^ 20) :
    A + M < 18446744073709551616 ^ 128 ∧ A + C < 18446744073709551616 ^ 128 ∧ A * C < 18446744073709551616 ^ 128 ∧ M < 18446744073709551616 ^ 64 := by
  have k1 : A * C ≤ 18446744073709551616 ^ 60 * 18446744073709551616 ^ 60 := Nat.mul_le_mul (Nat.le_of_lt hA) (Nat.le_of_lt hC)
  rw [← Nat.pow_add] at k1
  have p1 : (18446744073709551616 : Nat) ^ 60 * 4 ≤ 18446744073709551616 ^ 128 := by decide +kernel
  have p2 : (18446744073709551616 : Nat) ^ (60 + 60) < 18446744073709551616 ^ 128 := by decide +kernel
  have p3 : (18446744073709551616 : Nat) ^ 20 ≤ 18446744073709551616 ^ 60 := by decide +kernel
  have p4 : (18446744073709551616 : Nat) ^ 20 ≤ 18446744073709551616 ^ 64 := by decide +kernel
  generalize A * C = ac at *
  generalize (18446744073709551616 : Nat) ^ 60 = m60 at *
  generalize (18446744073709551616 : Nat) ^ 20 = m20 at *
  generalize (18446744073709551616 : Nat) ^ 64 = m64 at *
  generalize (18446744073709551616 : Nat) ^ (60 + 60) = m120 at *
  generalize (18446744073709551616 : Nat) ^ 128 = m at *
  refine ⟨by omega, by omega, by omega, by omega⟩
/-- A list of two limbs that the code writes out. -/
theorem m_lit2 {B : Nat} {w w0 : World} {L : List (Value × Nat × Bool)} (X Y : Int) (x y n : Nat) (hX : X = (x : Nat)) (hY : Y = (y : Nat)) (hx : x < 18446744073709551616) (hy : y < 18446744073709551616) (h0 : 0 < y) (hE : NEnv B w L ∧ Below w0.heap.size w0 w) (hn : w.heap.size = n) : NEnv B (w.alloc (.cells #[.int .u64 X, .int .u64 Y] 33)) ((.slice (some ⟨n, 0, none⟩) 2 2, x + 18446744073709551616 * y, true) :: L) ∧ Below w0.heap.size w0 (w.alloc (.cells #[.int .u64 X, .int .u64 Y] 33)) := by
  subst hn hX hY
  have hb : Below w.heap.size w (w.alloc (.cells #[.int .u64 (x : Nat), .int .u64 (y : Nat)] 33)) := (Below.refl _ _).alloc (Nat.le_refl _) _
  have hown : own64 (w.alloc (.cells #[.int .u64 (x : Nat), .int .u64 (y : Nat)] 33)) w.heap.size (.slice (some ⟨w.heap.size, 0, none⟩) 2 2) [x, y] :=
    own64_of_blk (zs := [x, y]) (c := 2) (heap_new w _) (Nat.le_refl _) (by simp) (by decide) rfl ⟨by simp, fun i hi => by
      rcases Nat.lt_or_ge i 1 with h1 | h1
      · obtain rfl : i = 0 := by omega
        rfl
      · obtain rfl : i = 1 := by simp at hi; omega
        rfl⟩
  have hN : Num [x, y] (x + 18446744073709551616 * y) := ⟨(Bd.nil.cons hy).cons hx, fun _ => by show y ≠ 0; omega, by simp [val]⟩
  refine ⟨hE.1.add hb (isn_of_num (own64.low hown hE.1.1) hN (Nat.lt_trans (show _ < 18446744073709551616 ^ 2 by omega) (by decide +kernel))), hE.2.alloc hE.2.size _⟩
/-- One of the primes. -/
def OneP (p : Nat) : Prop := Fm p ∧ p < 18446744073709551616 ^ 4
theorem boxp (w : World) (v0 v1 v2 v3 v4 v5 : Value) (t : TypeId) (P : Value → Prop) (h0 : P v0) (h1 : P v1) (h2 : P v2) (h3 : P v3) (h4 : P v4) (h5 : P v5) : ∀ i, i < 6 → ∃ x, (w.alloc (.cells #[v0, v1, v2, v3, v4, v5] t)).cell? ⟨w.heap.size, i, none⟩ = some x ∧ P x := fun i hi => by
  rcases (show i = 0 ∨ i = 1 ∨ i = 2 ∨ i = 3 ∨ i = 4 ∨ i = 5 by omega) with rfl | rfl | rfl | rfl | rfl | rfl
  · exact ⟨v0, World.cell?_alloc_at _ _ _ _ rfl, h0⟩
  · exact ⟨v1, World.cell?_alloc_at _ _ _ _ rfl, h1⟩
  · exact ⟨v2, World.cell?_alloc_at _ _ _ _ rfl, h2⟩
  · exact ⟨v3, World.cell?_alloc_at _ _ _ _ rfl, h3⟩
  · exact ⟨v4, World.cell?_alloc_at _ _ _ _ rfl, h4⟩
  · exact ⟨v5, World.cell?_alloc_at _ _ _ _ rfl, h5⟩
set_option exponentiation.threshold 10000 in
theorem lim_4 {p : Nat} (h : p < 18446744073709551616 ^ 4) : p < 18446744073709551616 ^ 64 := Nat.lt_of_lt_of_le h (by decide +kernel)
theorem m_litZ {B : Nat} {w w0 : World} {L : List (Value × Nat × Bool)} (X : Int) (x n : Nat) (hX : X = (x : Nat)) (hx : x < 18446744073709551616) (h0 : 0 < x) (hE : NEnv B w L ∧ Below w0.heap.size w0 w) (hn : w.heap.size = n) : NEnv B (w.alloc (.cells #[.int .u64 X] 33)) ((.slice (some ⟨n, 0, none⟩) 1 1, x, true) :: L) ∧ Below w0.heap.size w0 (w.alloc (.cells #[.int .u64 X] 33)) := by
  subst hX
  exact m_litb x n hx h0 hE hn
theorem oneP_0 : OneP 2 := ⟨fm_2, by decide +kernel⟩
theorem oneP_1 : OneP 3 := ⟨fm_3, by decide +kernel⟩
theorem oneP_2 : OneP 65537 := ⟨fm_65537, by decide +kernel⟩
theorem oneP_3 : OneP 2305843009213693951 := ⟨fm_2305843009213693951, by decide +kernel⟩
theorem oneP_4 : OneP 18446744073709551557 := ⟨fm_18446744073709551557, by decide +kernel⟩
theorem oneP_5 : OneP (18446744073709551615 + 18446744073709551616 * 9223372036854775807) := ⟨fm_170141183460469231731687303715884105727, by decide +kernel⟩
set_option maxHeartbeats 8000000 in
set_option maxRecDepth 100000 in
theorem mprimes_any (a1 : Option Addr) (l1 c1 : Nat) (xs1 : List Nat) (w : World) (hl1 : xs1.length = l1) (hb1 : l1 ≤ 9223372036854775807) (hr1 : Rd .u64 w a1 xs1) (bx1 : Bd xs1) (hT : Trig w) :
    Calls Tryd.prog 6 #[.slice a1 l1 c1] w fun e w' => e = .returned (.bool true) ∧ Below w.heap.size w w' := by
  have HT := Lib.hid (fun (W : World) (h : Below w.heap.size w W) => hT.below h)
  have HS1 := Lib.hid (fun (W : World) (h : Below w.heap.size w W) => msome_any a1 l1 c1 4 xs1 W hl1 hb1 (by decide) (hr1.below h) bx1)
  have HLA := Lib.hid (val_take_lt bx1 4)
  clear hT hl1 hb1 hr1 bx1
  generalize Go.Proofs.YtfjhmnbbjknflaaDoor.val (xs1.take 4) = A at *
  have HE : Hid (NEnv w.heap.size w [] ∧ Below w.heap.size w w) := ⟨⟨Nat.le_refl _, fun _ h => by cases h⟩, Below.refl _ _⟩
  go_enter Tryd.func6, Tryd.ntmps6
  go_wp2_with fail
  refine (HS1.out _ HE.out.2).mono ?_
  rintro e w1 ⟨vA, rfl, hI, hb⟩
  have hE := HE.out.1.add hb (hI.base HE.out.2.size)
  clear hI
  have HE := Lib.hid (And.intro hE (HE.out.2.trans (hb.mono HE.out.2.size)))
  clear hE hb
  clear HLA HS1
  have HE := Lib.hid (m_litZ 2 2 w1.heap.size rfl (by decide) (by decide) HE.out rfl)
  have HE := Lib.hid (m_litZ 3 3 (w1.heap.size + 1) rfl (by decide) (by decide) HE.out (by simp))
  have HE := Lib.hid (m_litZ 65537 65537 (w1.heap.size + 2) rfl (by decide) (by decide) HE.out (by simp))
  have HE := Lib.hid (m_litZ 2305843009213693951 2305843009213693951 (w1.heap.size + 3) rfl (by decide) (by decide) HE.out (by simp))
  have HE := Lib.hid (m_litZ 18446744073709551557 18446744073709551557 (w1.heap.size + 4) rfl (by decide) (by decide) HE.out (by simp))
  have HE := Lib.hid (m_lit2 18446744073709551615 9223372036854775807 18446744073709551615 9223372036854775807 (w1.heap.size + 5) rfl rfl (by decide) (by decide) (by decide) HE.out (by simp))
  have hbx := boxp ((((((w1.alloc (.cells #[.int .u64 2] 33)).alloc (.cells #[.int .u64 3] 33)).alloc (.cells #[.int .u64 65537] 33)).alloc (.cells #[.int .u64 2305843009213693951] 33)).alloc (.cells #[.int .u64 18446744073709551557] 33)).alloc (.cells #[.int .u64 18446744073709551615, .int .u64 9223372036854775807] 33)) (.slice (some ⟨w1.heap.size, 0, none⟩) 1 1) (.slice (some ⟨w1.heap.size + 1, 0, none⟩) 1 1) (.slice (some ⟨w1.heap.size + 2, 0, none⟩) 1 1) (.slice (some ⟨w1.heap.size + 3, 0, none⟩) 1 1) (.slice (some ⟨w1.heap.size + 4, 0, none⟩) 1 1) (.slice (some ⟨w1.heap.size + 5, 0, none⟩) 2 2) 22 (fun v => ∃ p, (v, p, true) ∈ [((.slice (some ⟨w1.heap.size + 5, 0, none⟩) 2 2), (18446744073709551615 + 18446744073709551616 * 9223372036854775807), true), ((.slice (some ⟨w1.heap.size + 4, 0, none⟩) 1 1), 18446744073709551557, true), ((.slice (some ⟨w1.heap.size + 3, 0, none⟩) 1 1), 2305843009213693951, true), ((.slice (some ⟨w1.heap.size + 2, 0, none⟩) 1 1), 65537, true), ((.slice (some ⟨w1.heap.size + 1, 0, none⟩) 1 1), 3, true), ((.slice (some ⟨w1.heap.size, 0, none⟩) 1 1), 2, true), (vA, A, false)] ∧ OneP p) ⟨_, (by repeat first | exact List.mem_cons_self | apply List.mem_cons_of_mem), oneP_0⟩ ⟨_, (by repeat first | exact List.mem_cons_self | apply List.mem_cons_of_mem), oneP_1⟩ ⟨_, (by repeat first | exact List.mem_cons_self | apply List.mem_cons_of_mem), oneP_2⟩ ⟨_, (by repeat first | exact List.mem_cons_self | apply List.mem_cons_of_mem), oneP_3⟩ ⟨_, (by repeat first | exact List.mem_cons_self | apply List.mem_cons_of_mem), oneP_4⟩ ⟨_, (by repeat first | exact List.mem_cons_self | apply List.mem_cons_of_mem), oneP_5⟩
  rw [show ((((((w1.alloc (.cells #[.int .u64 2] 33)).alloc (.cells #[.int .u64 3] 33)).alloc (.cells #[.int .u64 65537] 33)).alloc (.cells #[.int .u64 2305843009213693951] 33)).alloc (.cells #[.int .u64 18446744073709551557] 33)).alloc (.cells #[.int .u64 18446744073709551615, .int .u64 9223372036854775807] 33)).heap.size = w1.heap.size + 6 by simp] at hbx
  have hal : Below ((((((w1.alloc (.cells #[.int .u64 2] 33)).alloc (.cells #[.int .u64 3] 33)).alloc (.cells #[.int .u64 65537] 33)).alloc (.cells #[.int .u64 2305843009213693951] 33)).alloc (.cells #[.int .u64 18446744073709551557] 33)).alloc (.cells #[.int .u64 18446744073709551615, .int .u64 9223372036854775807] 33)).heap.size ((((((w1.alloc (.cells #[.int .u64 2] 33)).alloc (.cells #[.int .u64 3] 33)).alloc (.cells #[.int .u64 65537] 33)).alloc (.cells #[.int .u64 2305843009213693951] 33)).alloc (.cells #[.int .u64 18446744073709551557] 33)).alloc (.cells #[.int .u64 18446744073709551615, .int .u64 9223372036854775807] 33)) (((((((w1.alloc (.cells #[.int .u64 2] 33)).alloc (.cells #[.int .u64 3] 33)).alloc (.cells #[.int .u64 65537] 33)).alloc (.cells #[.int .u64 2305843009213693951] 33)).alloc (.cells #[.int .u64 18446744073709551557] 33)).alloc (.cells #[.int .u64 18446744073709551615, .int .u64 9223372036854775807] 33)).alloc (.cells #[(.slice (some ⟨w1.heap.size, 0, none⟩) 1 1), (.slice (some ⟨w1.heap.size + 1, 0, none⟩) 1 1), (.slice (some ⟨w1.heap.size + 2, 0, none⟩) 1 1), (.slice (some ⟨w1.heap.size + 3, 0, none⟩) 1 1), (.slice (some ⟨w1.heap.size + 4, 0, none⟩) 1 1), (.slice (some ⟨w1.heap.size + 5, 0, none⟩) 2 2)] 22)) := (Below.refl _ _).alloc (Nat.le_refl _) _
  have HE := Lib.hid (And.intro (HE.out.1.below hal) (HE.out.2.trans (hal.mono HE.out.2.size)))
  have HBX := Lib.hid hbx
  clear hbx hal
  go_wp2
  generalize hWC : (((((((w1.alloc (.cells #[.int .u64 2] 33)).alloc (.cells #[.int .u64 3] 33)).alloc (.cells #[.int .u64 65537] 33)).alloc (.cells #[.int .u64 2305843009213693951] 33)).alloc (.cells #[.int .u64 18446744073709551557] 33)).alloc (.cells #[.int .u64 18446744073709551615, .int .u64 9223372036854775807] 33)).alloc (.cells #[(.slice (some ⟨w1.heap.size, 0, none⟩) 1 1), (.slice (some ⟨w1.heap.size + 1, 0, none⟩) 1 1), (.slice (some ⟨w1.heap.size + 2, 0, none⟩) 1 1), (.slice (some ⟨w1.heap.size + 3, 0, none⟩) 1 1), (.slice (some ⟨w1.heap.size + 4, 0, none⟩) 1 1), (.slice (some ⟨w1.heap.size + 5, 0, none⟩) 2 2)] 22)) = WC at *
  clear hWC
  obtain ⟨LP, hLP⟩ : ∃ LP : List (Value × Nat × Bool), LP = [((.slice (some ⟨w1.heap.size + 5, 0, none⟩) 2 2), (18446744073709551615 + 18446744073709551616 * 9223372036854775807), true), ((.slice (some ⟨w1.heap.size + 4, 0, none⟩) 1 1), 18446744073709551557, true), ((.slice (some ⟨w1.heap.size + 3, 0, none⟩) 1 1), 2305843009213693951, true), ((.slice (some ⟨w1.heap.size + 2, 0, none⟩) 1 1), 65537, true), ((.slice (some ⟨w1.heap.size + 1, 0, none⟩) 1 1), 3, true), ((.slice (some ⟨w1.heap.size, 0, none⟩) 1 1), 2, true), (vA, A, false)] := ⟨_, rfl⟩
  rw [← hLP] at HE HBX
  have HVA : Hid ((vA, A, false) ∈ LP) := by show _ ∈ _; rw [hLP]; simp
  have HBC : Hid (∀ (W : World), Below WC.heap.size WC W → ∀ i, i < 6 → ∃ x, W.cell? ⟨w1.heap.size + 6, i, none⟩ = some x ∧ ∃ p, (x, p, true) ∈ LP ∧ OneP p) := fun W hb i hi => by
    obtain ⟨x, h1, h2⟩ := HBX.out i hi
    exact ⟨x, below_cell hb _ _ h1, h2⟩
  have HB0 := Lib.hid HE.out.2
  have HN0 := Lib.hid HE.out.1
  clear hLP HBX
  generalize w1.heap.size = gg at *
  clear HE
  go_loopw [22] (fun i wr => ∃ k : Nat, k ≤ 6 ∧ i = .int .i64 k ∧ Hid (NEnv w.heap.size wr LP ∧ Below WC.heap.size WC wr)) (fun i _ => 6 - (intOf i).toNat)
  case atStart => exact ⟨0, by omega, rfl, HN0.out, Below.refl _ _⟩
  case round =>
    obtain ⟨k, hk, rfl, HE⟩ := hrel
    have HWB := Lib.hid (HB0.out.trans (HE.out.2.mono HB0.out.size))
    by_cases hlt : k < 6
    · have hq : decide ((k : Int) < 6) = true := by rw [decide_eq_true_iff]; omega
      obtain ⟨x, hcell, p, hm, hp⟩ := HBC.out _ HE.out.2 k hlt
      have HP : Hid ((x, p, true) ∈ LP ∧ Fm p ∧ p < 18446744073709551616 ^ 64 ∧ 0 < p) := ⟨hm, hp.1, lim_4 hp.2, by have := hp.1.1; omega⟩
      have HK := Lib.hid (And.intro hk hlt)
      clear hm hp
      go_wp2_with fail
      refine (m_of (vm := x) (va := vA) HE.out.1 HP.out.1 HVA.out HP.out.2.2.2 HP.out.2.2.1).mono ?_
      rintro e w2 ⟨vl, rfl, hE, hb⟩
      have HE2 := Lib.hid (m_litb 1 w2.heap.size (by decide) (by decide) (And.intro hE (HE.out.2.trans (hb.mono HE.out.2.size))) rfl)
      clear hE hb hcell
      go_wp2_with fail
      refine (n_sub (v1 := x) (v2 := .slice (some ⟨w2.heap.size, 0, none⟩) 1 1) HE2.out.1 (by have h := HP.out.1; repeat first | exact h | apply List.mem_cons_of_mem) List.mem_cons_self HP.out.2.2.2).mono ?_
      rintro e w3 ⟨vn, rfl, hE, hb⟩
      have HE3 := Lib.hid (And.intro hE (HE2.out.2.trans (hb.mono HE2.out.2.size)))
      clear hE hb
      go_wp2_with fail
      refine (m_pow (vm := x) (va := vA) (vb := vn) HE3.out.1 (HT.out _ (HB0.out.trans (HE3.out.2.mono HB0.out.size))) (by have h := HP.out.1; repeat first | exact h | apply List.mem_cons_of_mem) (by have h := HVA.out; repeat first | exact h | apply List.mem_cons_of_mem) List.mem_cons_self HP.out.2.2.2 HP.out.2.2.1).mono ?_
      rintro e w4 ⟨vr, rfl, hE, hb⟩
      have HE4 := Lib.hid (And.intro hE (HE3.out.2.trans (hb.mono HE3.out.2.size)))
      clear hE hb
      by_cases hz : A % p = 0
      · have hr0 : A ^ (p - 1) % p = 0 := by
          have h1 := HP.out.2.1.1
          obtain ⟨q, hq⟩ : ∃ q, p - 1 = q + 1 := ⟨p - 2, by omega⟩
          rw [hq, Nat.pow_succ, Nat.mul_mod, hz, Nat.mul_zero, Nat.zero_mod]
        obtain ⟨al, cl, rfl⟩ := n_zero (v := vl) HE4.out.1 (by repeat first | exact List.mem_cons_self | apply List.mem_cons_of_mem) hz
        obtain ⟨ar, cr, rfl⟩ := n_zero (v := vr) HE4.out.1 (by repeat first | exact List.mem_cons_self | apply List.mem_cons_of_mem) hr0
        have HF : Hid (NEnv w.heap.size w4 LP ∧ Below WC.heap.size WC w4) := ⟨HE4.out.1.drop1.drop1.drop1.drop1, HE4.out.2⟩
        clear hz hr0
        go_wp2
        go_roundw
        case rel => exact ⟨k + 1, HK.out.2, by go_num, HF.out⟩
        case measure => have := HK.out.2; simp [intOf]; omega
      · have hr1 := HP.out.2.1.2 A hz
        obtain ⟨al, kl, cl, rfl, hkl⟩ := HE4.out.1.opens (v := vl) (n := A % p) (by repeat first | exact List.mem_cons_self | apply List.mem_cons_of_mem)
        have hkp : 0 < kl := Nat.pos_of_ne_zero fun h => hz (hkl.1 h)
        have hq1 : decide (0 < kl) = true := decide_eq_true hkp
        have hq2 : ((kl : Int) == 0) = false := by simp; omega
        have HR1 := Lib.hid hr1
        have HE5 := Lib.hid (m_litb 1 w4.heap.size (by decide) (by decide) HE4.out rfl)
        clear hz hr1 hkl
        go_wp2_with fail
        refine (n_same (v1 := vr) (v2 := .slice (some ⟨w4.heap.size, 0, none⟩) 1 1) HE5.out.1 (by repeat first | exact List.mem_cons_self | apply List.mem_cons_of_mem) List.mem_cons_self HR1.out).mono ?_
        rintro e w5 ⟨rfl, hE, hb⟩
        have HF : Hid (NEnv w.heap.size w5 LP ∧ Below WC.heap.size WC w5) := ⟨hE.drop1.drop1.drop1.drop1.drop1, HE5.out.2.trans (hb.mono HE5.out.2.size)⟩
        clear hE hb
        go_wp2
        go_roundw
        case rel => exact ⟨k + 1, HK.out.2, by go_num, HF.out⟩
        case measure => have := HK.out.2; simp [intOf]; omega
    · have hq : decide ((k : Int) < 6) = false := by rw [decide_eq_false_iff_not]; omega
      go_wp2_with fail
      refine (mworks_any _ (HT.out _ HWB.out)).mono ?_
      rintro e wz ⟨rfl, hbz⟩
      have HZ := Lib.hid (HWB.out.trans (hbz.mono HWB.out.size))
      clear hbz
      go_wp2
      go_ret
      exact ⟨rfl, HZ.out⟩
end Go.Proofs.YtfjhmnbbjknflaaDoor
