import Derived.Test.YtaookoejdnkkoaaGreatDoorKModG
import Derived.Test.YtaookoejdnkkoaaGreatDoorKRc
namespace Go.Proofs.YtaookoejdnkkoaaGreatDoor
open Go.RowKit

theorem r4small_any (x : Nat) (w : World) (hx : x < 18446744073709551616) :
    Calls Tryz.prog 98 #[.int .u64 (x : Nat)] w fun e w' => ∃ a c zs, e = .returned (.slice a zs.length c) ∧ own64 w' w.heap.size (.slice a zs.length c) zs ∧ Num zs x ∧ Below w.heap.size w w' := by
  go_enter Tryz.func98, Tryz.ntmps98
  by_cases h0 : x = 0
  · have hq : ((x : Int) == 0) = true := by simp; omega
    have HX := Lib.hid h0
    clear h0
    go_wp2
    go_ret
    exact ⟨none, 0, [], rfl, own64_nil _ _, by rw [HX.out]; exact Num.nil, Below.refl _ _⟩
  · have hq : ((x : Int) == 0) = false := by simp; omega
    have HX := Lib.hid h0
    clear h0
    go_wp2
    go_ret
    refine ⟨_, _, [x], rfl, own64_of_blk (cur := #[.int .u64 (x : Nat)]) (heap_new w _) (Nat.le_refl _) (Nat.le_refl _) (by decide) rfl ⟨by simp, fun i hi => ?_⟩, ⟨Bd.nil.cons hx, fun _ => by unfold at0; simpa using HX.out, val_one x⟩, (Below.refl _ _).alloc (Nat.le_refl _) _⟩
    obtain rfl : i = 0 := by simp at hi; omega
    rfl


/-- Numbers in their form that the call made. -/
def QEnv (B : Nat) (w : World) (L : List (Value × Nat)) : Prop := B ≤ w.heap.size ∧ ∀ p ∈ L, ∃ zs, own64 w B p.1 zs ∧ Num zs p.2 ∧ p.2 < 18446744073709551616 ^ 1000
theorem QEnv.below {B : Nat} {w w' : World} {L : List (Value × Nat)} (h : QEnv B w L) (hb : Below w.heap.size w w') : QEnv B w' L :=
  ⟨Nat.le_trans h.1 hb.size, fun p hp => by
    obtain ⟨zs, h1, h2⟩ := h.2 p hp
    exact ⟨zs, own64.keep h1 hb, h2⟩⟩
theorem QEnv.raw {B : Nat} {w : World} {L : List (Value × Nat)} {v : Value} {n : Nat} (h : QEnv B w L) (hm : (v, n) ∈ L) : Raw w v n := by
  obtain ⟨zs, h1, h2, h3⟩ := h.2 _ hm
  exact raw_of_own h1 h2 h3
theorem QEnv.add {B : Nat} {w w' : World} {L : List (Value × Nat)} {v : Value} {n : Nat} {zs : List Nat} (h : QEnv B w L) (hb : Below w.heap.size w w') (ho : own64 w' w.heap.size v zs) (hN : Num zs n) (hn : n < 18446744073709551616 ^ 1000) : QEnv B w' ((v, n) :: L) :=
  ⟨Nat.le_trans h.1 hb.size, fun p hp => by
    rcases List.mem_cons.1 hp with rfl | hp
    · exact ⟨zs, owns_base ho h.1, hN, hn⟩
    · exact (h.below hb).2 p hp⟩
theorem QEnv.sub {B : Nat} {w : World} {L L' : List (Value × Nat)} (h : QEnv B w L) (hs : ∀ p ∈ L', p ∈ L) : QEnv B w L' := ⟨h.1, fun p hp => h.2 p (hs p hp)⟩
set_option exponentiation.threshold 100000 in
theorem QEnv.nil {B : Nat} {w : World} {L : List (Value × Nat)} (h : QEnv B w L) : QEnv B w ((.slice none 0 0, 0) :: L) :=
  ⟨h.1, fun p hp => by
    rcases List.mem_cons.1 hp with rfl | hp
    · exact ⟨[], own64_nil _ _, Num.nil, Nat.pow_pos (by decide)⟩
    · exact h.2 p hp⟩
/-- What a call answers that tells a number. -/
def QPost (B : Nat) (L : List (Value × Nat)) (n : Nat) (w : World) (e : Ending) (w' : World) : Prop := ∃ v, e = .returned v ∧ QEnv B w' ((v, n) :: L) ∧ Below w.heap.size w w'
theorem q_times {B : Nat} {w : World} {L : List (Value × Nat)} {va vb : Value} {A C : Nat} (hE : QEnv B w L) (h1 : Raw w va A) (h2 : Raw w vb C)  (hl : A * C < 18446744073709551616 ^ 1000) :
    Calls Tryz.prog 127 #[va, vb] w (QPost B L (A * C) w) := by
  obtain ⟨a, ca, xs, rfl, _, _, hr1, hb1, rfl, hl1⟩ := h1
  obtain ⟨b, cb, ys, rfl, _, _, hr2, hb2, rfl, hl2⟩ := h2
  refine (rtimes_any a b _ _ ca cb xs ys w rfl rfl (Nat.le_trans hl1 (by decide)) (Nat.le_trans hl2 (by decide)) hr1 hr2 hb1 hb2).mono ?_
  rintro e w' ⟨v, zs, rfl, ho, hN, hb⟩
  exact ⟨v, rfl, hE.add hb ho hN hl, hb⟩
set_option exponentiation.threshold 100000 in
theorem q_small {B : Nat} {w : World} {L : List (Value × Nat)} (x : Nat) (hE : QEnv B w L) (hx : x < 18446744073709551616) :
    Calls Tryz.prog 98 #[.int .u64 (x : Nat)] w (QPost B L x w) := by
  refine (r4small_any x w hx).mono ?_
  rintro e w' ⟨a, c, zs, rfl, ho, hN, hb⟩
  exact ⟨_, rfl, hE.add hb ho hN (Nat.lt_trans hx (by decide +kernel)), hb⟩
set_option exponentiation.threshold 100000 in
theorem q_length {B : Nat} {w : World} {L : List (Value × Nat)} {va : Value} {A : Nat} (hE : QEnv B w L) (h1 : Raw w va A) :
    Calls Tryz.prog 96 #[va] w fun e w' => ∃ k : Nat, e = .returned (.int .i64 (k : Nat)) ∧ BitsIs A k ∧ k ≤ 64000 ∧ QEnv B w' L ∧ Below w.heap.size w w' := by
  obtain ⟨a, ca, xs, rfl, _, _, hr1, hb1, rfl, hl1⟩ := h1
  refine (rlength_any a _ ca xs w rfl (Nat.le_trans hl1 (by decide)) hr1 hb1).mono ?_
  rintro e w' ⟨k, rfl, hk, hb⟩
  have h2 := (bits_fits (m := 1000) hk).2 (Nat.lt_of_lt_of_le (val_lt hb1) (Nat.pow_le_pow_right (by decide) hl1))
  exact ⟨k, rfl, hk, by omega, hE.below hb, hb⟩
theorem q_over {B : Nat} {w : World} {L : List (Value × Nat)} {va vb : Value} {A C : Nat} (hE : QEnv B w L) (h1 : Raw w va A) (h2 : Raw w vb C) (h0 : 0 < C) (hl : A < 18446744073709551616 ^ 1000) :
    Calls Tryz.prog 172 #[va, vb] w fun e w' => ∃ q r, e = .returned (.tuple #[q, r]) ∧ QEnv B w' ((q, A / C) :: (r, A % C) :: L) ∧ Below w.heap.size w w' := by
  obtain ⟨a, ca, xs, rfl, _, _, hr1, hb1, rfl, hl1⟩ := h1
  obtain ⟨b, cb, ys, rfl, _, _, hr2, hb2, rfl, hl2⟩ := h2
  refine (rover_any a b _ _ ca cb xs ys w rfl rfl (Nat.le_trans hl1 (by decide)) (Nat.le_trans hl2 (by decide)) hr1 hr2 hb1 hb2 h0).mono ?_
  rintro e w' ⟨q, r, qs, rs, rfl, oq, or, nq, nr, hb⟩
  have hr := hE.add hb or nr (Nat.lt_of_le_of_lt (Nat.mod_le _ _) hl)
  refine ⟨q, r, rfl, ⟨hr.1, fun p hp => ?_⟩, hb⟩
  rcases List.mem_cons.1 hp with rfl | hp
  · exact ⟨qs, owns_base oq hE.1, nq, Nat.lt_of_le_of_lt (Nat.div_le_self _ _) hl⟩
  · exact hr.2 p hp
set_option maxHeartbeats 1000000 in
theorem q_left {B : Nat} {w : World} {L : List (Value × Nat)} {va vm : Value} {A M : Nat} (hE : QEnv B w L) (h1 : Raw w va A) (h2 : Raw w vm M) (h0 : 0 < M) (hl : A < 18446744073709551616 ^ 1000) :
    Calls Tryz.prog 126 #[va, vm] w (QPost B L (A % M) w) := by
  have HC := Lib.hid (q_over hE h1 h2 h0 hl)
  clear hE h1 h2 h0 hl
  go_enter Tryz.func126, Tryz.ntmps126
  go_wp2_with fail
  refine HC.out.mono ?_
  rintro e w2 ⟨q, r, rfl, hE, hb⟩
  have HE := Lib.hid (And.intro (hE.sub (L' := (r, A % M) :: L) fun p hp => List.mem_cons_of_mem _ hp) hb)
  clear hE hb
  go_wp2
  go_ret
  exact ⟨r, rfl, HE.out⟩
set_option exponentiation.threshold 100000 in
/-- Bounds for what is left between. -/
theorem lims_q {A C M : Nat} (hA : A < 18446744073709551616 ^ 128) (hC : C < 18446744073709551616 ^ 128) (hM : M < 18446744073709551616 ^ 64) :
    A < 18446744073709551616 ^ 1000 ∧ A + C < 18446744073709551616 ^ 1000 ∧ A * C < 18446744073709551616 ^ 1000 ∧ M + M < 18446744073709551616 ^ 1000 ∧ M * M < 18446744073709551616 ^ 1000 ∧ M < 18446744073709551616 ^ 1000 := by
  have k1 : A * C ≤ 18446744073709551616 ^ 128 * 18446744073709551616 ^ 128 := Nat.mul_le_mul (Nat.le_of_lt hA) (Nat.le_of_lt hC)
  have k2 : M * M ≤ 18446744073709551616 ^ 64 * 18446744073709551616 ^ 64 := Nat.mul_le_mul (Nat.le_of_lt hM) (Nat.le_of_lt hM)
  rw [← Nat.pow_add] at k1 k2
  have p1 : (18446744073709551616 : Nat) ^ 128 * 4 ≤ 18446744073709551616 ^ 1000 := by decide +kernel
  have p2 : (18446744073709551616 : Nat) ^ (128 + 128) < 18446744073709551616 ^ 1000 := by decide +kernel
  have p3 : (18446744073709551616 : Nat) ^ (64 + 64) < 18446744073709551616 ^ 1000 := by decide +kernel
  have p4 : (18446744073709551616 : Nat) ^ 64 * 4 ≤ 18446744073709551616 ^ 1000 := by decide +kernel
  generalize A * C = ac at *
  generalize M * M = mm at *
  generalize (18446744073709551616 : Nat) ^ 64 = m64 at *
  generalize (18446744073709551616 : Nat) ^ 128 = m128 at *
  generalize (18446744073709551616 : Nat) ^ (128 + 128) = m256 at *
  generalize (18446744073709551616 : Nat) ^ (64 + 64) = m129 at *
  generalize (18446744073709551616 : Nat) ^ 1000 = m at *
  refine ⟨by omega, by omega, by omega, by omega, by omega, by omega⟩
set_option maxHeartbeats 4000000 in
set_option maxRecDepth 100000 in
theorem r4raised_any {w : World} {vm va vn : Value} {M A N : Nat} (g0 : Raw w vm M) (g1 : Raw w va A) (g2 : Raw w vn N) (hp : 0 < M) (hM : M < 18446744073709551616 ^ 64) (hA : A < 18446744073709551616 ^ 128) :
    Calls Tryz.prog 78 #[va, vn, vm] w (QPost w.heap.size [] (A ^ N % M) w) := by
  have HA := Lib.hid (fun (W : World) (h : Below w.heap.size w W) => And.intro (g0.below h) (And.intro (g1.below h) (g2.below h)))
  obtain ⟨an, cn, ns, rfl, -, -, hr, bn, hvl, -⟩ := g2
  have HR := Lib.hid (fun (W : World) (h : Below w.heap.size w W) => hr.below h)
  generalize hln : ns.length = ln at *
  have HLN := Lib.hid hln
  have HBN := Lib.hid bn
  have HVL := Lib.hid hvl
  have HL := Lib.hid (lims_q hA hA hM)
  have HP := Lib.hid hp
  have HE : Hid (QEnv w.heap.size w [] ∧ Below w.heap.size w w) := ⟨⟨Nat.le_refl _, fun _ h => by cases h⟩, Below.refl _ _⟩
  clear g0 g1 hr hln bn hvl hA hM hp
  go_enter Tryz.func78, Tryz.ntmps78
  go_wp2_with fail
  refine (q_small 1 HE.out.1 (by decide)).mono ?_
  rintro e w13 ⟨v1, rfl, hE, hb⟩
  have HE := Lib.hid (And.intro hE (HE.out.2.trans (hb.mono HE.out.2.size)))
  clear hE hb
  go_wp2_with fail
  refine (q_left HE.out.1 (HE.out.1.raw (v := v1) (by repeat first | exact List.mem_cons_self | apply List.mem_cons_of_mem)) (HA.out _ HE.out.2).1 HP.out (by decide +kernel)).mono ?_
  rintro e w14 ⟨vo, rfl, hE, hb⟩
  have HE := Lib.hid (And.intro hE (HE.out.2.trans (hb.mono HE.out.2.size)))
  clear hE hb
  go_wp2_with fail
  refine (q_left HE.out.1 (HA.out _ HE.out.2).2.1 (HA.out _ HE.out.2).1 HP.out HL.out.1).mono ?_
  rintro e w15 ⟨vx, rfl, hE, hb⟩
  have HE := Lib.hid (And.intro hE (HE.out.2.trans (hb.mono HE.out.2.size)))
  clear hE hb
  go_wp2_with fail
  refine (q_length HE.out.1 (HA.out _ HE.out.2).2.2).mono ?_
  rintro e wk ⟨K, rfl, hK, hK8, hE, hb⟩
  have hst : A ^ (N / 2 ^ K) % M = 1 % M := by rw [Nat.div_eq_of_lt (bits_lt hK), Nat.pow_zero]
  have HE3 : Hid (QEnv w.heap.size wk [(vo, A ^ (N / 2 ^ K) % M), (vx, A % M)] ∧ Below w.heap.size w wk) := ⟨hE.sub (by rw [hst]; simp), HE.out.2.trans (hb.mono HE.out.2.size)⟩
  have HKL : Hid (∀ j, j < K → j / 64 < ln) := fun j hj => bits_limb hK HBN.out HVL.out HLN.out hj
  clear hE hb hK hst HE
  go_wp2
  go_loopw [7, 9] (fun s7 s9 wr => ∃ (j : Nat) (iv : Int), s9 = .int .i64 iv ∧ Hid (iv + 1 = (j : Int)) ∧ j ≤ K ∧ Hid (QEnv w.heap.size wr [(s7, A ^ (N / 2 ^ j) % M), (vx, A % M)] ∧ Below w.heap.size w wr)) (fun _ i _ => (intOf i + 1).toNat)
  case atStart => exact ⟨K, _, rfl, by show _ = _; omega, Nat.le_refl _, HE3.out⟩
  case round =>
    obtain ⟨j, iv, rfl, hiv, hjK, HE⟩ := hrel
    clear HE3
    by_cases hj0 : j = 0
    · subst hj0
      obtain rfl : iv = -1 := by have := hiv.out; omega
      go_wp2
      go_ret
      have h1 := HE.out.1
      rw [Nat.pow_zero, Nat.div_one] at h1
      exact ⟨_, rfl, h1.sub (by simp), HE.out.2⟩
    · obtain ⟨j', rfl⟩ : ∃ j', j = j' + 1 := ⟨j - 1, by omega⟩
      obtain rfl : iv = (j' : Int) := by have := hiv.out; omega
      have hge : decide ((0 : Int) ≤ (j' : Int)) = true := by simp
      have HJ := Lib.hid (And.intro hjK (HKL.out j' (by omega)))
      clear hj0 hiv
      go_wp2_with fail
      refine (q_times HE.out.1 (HE.out.1.raw (n := A ^ (N / 2 ^ (j' + 1)) % M) (by repeat first | exact List.mem_cons_self | apply List.mem_cons_of_mem)) (HE.out.1.raw (n := A ^ (N / 2 ^ (j' + 1)) % M) (by repeat first | exact List.mem_cons_self | apply List.mem_cons_of_mem)) (Nat.lt_of_le_of_lt (Nat.mul_le_mul (Nat.le_of_lt (Nat.mod_lt _ HP.out)) (Nat.le_of_lt (Nat.mod_lt _ HP.out))) HL.out.2.2.2.2.1)).mono ?_
      rintro e w16 ⟨p1, rfl, hE, hb⟩
      have HE := Lib.hid (And.intro hE (HE.out.2.trans (hb.mono HE.out.2.size)))
      clear hE hb
      go_wp2_with fail
      refine (q_left HE.out.1 (HE.out.1.raw (v := p1) (by repeat first | exact List.mem_cons_self | apply List.mem_cons_of_mem)) (HA.out _ HE.out.2).1 HP.out (Nat.lt_of_le_of_lt (Nat.mul_le_mul (Nat.le_of_lt (Nat.mod_lt _ HP.out)) (Nat.le_of_lt (Nat.mod_lt _ HP.out))) HL.out.2.2.2.2.1)).mono ?_
      rintro e w17 ⟨p2, rfl, hE, hb⟩
      rw [pw_sq] at hE
      have HE := Lib.hid (And.intro hE (HE.out.2.trans (hb.mono HE.out.2.size)))
      clear hE hb
      obtain ⟨b, off, rfl⟩ := (HR.out _ HE.out.2).isAt (by have h1 := HLN.out; have h2 := HJ.out.2; omega)
      have hc := (HR.out _ HE.out.2).cell (i := j' / 64) (by have h1 := HLN.out; have h2 := HJ.out.2; omega)
      have hx := HBN.out.at0 (j' / 64)
      have HV := Lib.hid (limb_bit HBN.out j' (by have h1 := HLN.out; have h2 := HJ.out.2; omega))
      generalize at0 ns (j' / 64) = x at *
      have HBT : Hid (((x : Int) / 2 ^ (j' % 64)).tmod 2 = ((N / 2 ^ j' % 2 : Nat) : Int)) := by
        show _ = _
        rw [← HVL.out, ← HV.out, show (x : Int) / 2 ^ (j' % 64) = ((x / 2 ^ (j' % 64) : Nat) : Int) by rw [Int.natCast_ediv, Int.natCast_pow]; rfl]
        rfl
      have hjl := HJ.out.2
      have hj8 : j' ≤ 64000 := by have := HJ.out.1; omega
      by_cases hbit : N / 2 ^ j' % 2 = 1
      · have hbt : (((x : Int) / 2 ^ (j' % 64)).tmod 2 == 1) = true := by rw [HBT.out, hbit]; rfl
        have HBIT := Lib.hid hbit
        clear HBT HV hbit
        go_wp2_with fail
        refine (q_times HE.out.1 (HE.out.1.raw (v := p2) (by repeat first | exact List.mem_cons_self | apply List.mem_cons_of_mem)) (HE.out.1.raw (v := vx) (by repeat first | exact List.mem_cons_self | apply List.mem_cons_of_mem)) (Nat.lt_of_le_of_lt (Nat.mul_le_mul (Nat.le_of_lt (Nat.mod_lt _ HP.out)) (Nat.le_of_lt (Nat.mod_lt _ HP.out))) HL.out.2.2.2.2.1)).mono ?_
        rintro e w18 ⟨p3, rfl, hE, hb⟩
        have HE := Lib.hid (And.intro hE (HE.out.2.trans (hb.mono HE.out.2.size)))
        clear hE hb
        go_wp2_with fail
        refine (q_left HE.out.1 (HE.out.1.raw (v := p3) (by repeat first | exact List.mem_cons_self | apply List.mem_cons_of_mem)) (HA.out _ HE.out.2).1 HP.out (Nat.lt_of_le_of_lt (Nat.mul_le_mul (Nat.le_of_lt (Nat.mod_lt _ HP.out)) (Nat.le_of_lt (Nat.mod_lt _ HP.out))) HL.out.2.2.2.2.1)).mono ?_
        rintro e w19 ⟨p4, rfl, hE, hb⟩
        rw [pw_mul] at hE
        have HE := Lib.hid (And.intro hE (HE.out.2.trans (hb.mono HE.out.2.size)))
        clear hE hb
        go_wp2
        go_roundw
        case rel =>
          refine ⟨j', _, rfl, by show _ = _; omega, by omega, HE.out.1.sub ?_, HE.out.2⟩
          have h1 := half_step N j'
          rw [HBIT.out] at h1
          rw [h1]
          simp
        case measure => first | (simp [intOf]; done) | (simp [intOf]; omega)
      · have hb0 : N / 2 ^ j' % 2 = 0 := by omega
        have hbt : (((x : Int) / 2 ^ (j' % 64)).tmod 2 == 1) = false := by rw [HBT.out, hb0]; rfl
        have HBIT := Lib.hid hb0
        clear HBT HV hbit hb0
        go_wp2
        go_roundw
        case rel =>
          refine ⟨j', _, rfl, by show _ = _; omega, by omega, HE.out.1.sub ?_, HE.out.2⟩
          have h1 := half_step N j'
          rw [HBIT.out, Nat.add_zero] at h1
          rw [h1]
          simp
        case measure => first | (simp [intOf]; done) | (simp [intOf]; omega)
end Go.Proofs.YtaookoejdnkkoaaGreatDoor
