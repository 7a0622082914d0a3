import Derived.Test.YticncpeeeiobfaaDoorModG
import Derived.Test.YticncpeeeiobfaaDoorRc
import Derived.Test.YticncpeeeiobfaaDoorRe
namespace Go.Proofs.YticncpeeeiobfaaDoor
open Go.RowKit

theorem r4small_any (x : Nat) (w : World) (hx : x < 18446744073709551616) :
    Calls Tryd.prog 41 #[.int .u64 (x : Nat)] w fun e w' => ∃ a c zs, e = .returned (.slice a zs.length c) ∧ own64 w' w.heap.size (.slice a zs.length c) zs ∧ Num zs x ∧ Below w.heap.size w w' := by
  go_enter Tryd.func41, Tryd.ntmps41
  by_cases h0 : x = 0
  · have hq : ((x : Int) == 0) = true := by simp; omega
    have HX := Lib.hid h0
    clear h0
    go_wp2
    go_ret
    exact ⟨none, 0, [], rfl, own64_nil _ _, by rw [HX.out]; exact Num.nil, Below.refl _ _⟩
  · have hq : ((x : Int) == 0) = false := by simp; omega
    have HX := Lib.hid h0
    clear h0
    go_wp2
    go_ret
    refine ⟨_, _, [x], rfl, own64_of_blk (cur := #[.int .u64 (x : Nat)]) (heap_new w _) (Nat.le_refl _) (Nat.le_refl _) (by decide) rfl ⟨by simp, fun i hi => ?_⟩, ⟨Bd.nil.cons hx, fun _ => by unfold at0; simpa using HX.out, val_one x⟩, (Below.refl _ _).alloc (Nat.le_refl _) _⟩
    obtain rfl : i = 0 := by simp at hi; omega
    rfl


/-- Numbers in their form that the call made. -/
def QEnv (B : Nat) (w : World) (L : List (Value × Nat)) : Prop := B ≤ w.heap.size ∧ ∀ p ∈ L, ∃ zs, own64 w B p.1 zs ∧ Num zs p.2 ∧ p.2 < 18446744073709551616 ^ 1000
theorem QEnv.below {B : Nat} {w w' : World} {L : List (Value × Nat)} (h : QEnv B w L) (hb : Below w.heap.size w w') : QEnv B w' L :=
  ⟨Nat.le_trans h.1 hb.size, fun p hp => by
    obtain ⟨zs, h1, h2⟩ := h.2 p hp
    exact ⟨zs, own64.keep h1 hb, h2⟩⟩
theorem QEnv.raw {B : Nat} {w : World} {L : List (Value × Nat)} {v : Value} {n : Nat} (h : QEnv B w L) (hm : (v, n) ∈ L) : Raw w v n := by
  obtain ⟨zs, h1, h2, h3⟩ := h.2 _ hm
  exact raw_of_own h1 h2 h3
theorem QEnv.add {B : Nat} {w w' : World} {L : List (Value × Nat)} {v : Value} {n : Nat} {zs : List Nat} (h : QEnv B w L) (hb : Below w.heap.size w w') (ho : own64 w' w.heap.size v zs) (hN : Num zs n) (hn : n < 18446744073709551616 ^ 1000) : QEnv B w' ((v, n) :: L) :=
  ⟨Nat.le_trans h.1 hb.size, fun p hp => by
    rcases List.mem_cons.1 hp with rfl | hp
    · exact ⟨zs, owns_base ho h.1, hN, hn⟩
    · exact (h.below hb).2 p hp⟩
theorem QEnv.sub {B : Nat} {w : World} {L L' : List (Value × Nat)} (h : QEnv B w L) (hs : ∀ p ∈ L', p ∈ L) : QEnv B w L' := ⟨h.1, fun p hp => h.2 p (hs p hp)⟩
set_option exponentiation.threshold 100000 in
theorem QEnv.nil {B : Nat} {w : World} {L : List (Value × Nat)} (h : QEnv B w L) : QEnv B w ((.slice none 0 0, 0) :: L) :=
  ⟨h.1, fun p hp => by
    rcases List.mem_cons.1 hp with rfl | hp
    · exact ⟨[], own64_nil _ _, Num.nil, Nat.pow_pos (by decide)⟩
    · exact h.2 p hp⟩
theorem QEnv.opens {B : Nat} {w : World} {L : List (Value × Nat)} {v : Value} {n : Nat} (h : QEnv B w L) (hm : (v, n) ∈ L) : ∃ a k c, v = .slice a k c ∧ (k = 0 ↔ n = 0) := by
  obtain ⟨zs, h1, h2, h3⟩ := h.2 _ hm
  obtain ⟨a, c, rfl, _⟩ := own64.form h1
  refine ⟨a, _, c, rfl, ?_⟩
  have h1 := h2.len_le (k := 0)
  rw [Nat.pow_zero] at h1
  omega
theorem MPost.of_q {Q : Int → List Nat → Prop} {w w' : World} {L : List (Value × Nat)} {v : Value} {n : Nat} {k : Int} (hb : Below w.heap.size w w') (hE : QEnv w.heap.size w' L) (hm : (v, n) ∈ L) (hQ : ∀ zs, Num zs n → Q k zs) : MPost Q w (.returned (.tuple #[v, .int .i64 k])) w' := by
  obtain ⟨zs, ho, hN, _⟩ := hE.2 _ hm
  obtain ⟨a, c, rfl, _⟩ := own64.form ho
  exact ⟨hb, a, c, k, zs, rfl, ho, hQ _ hN⟩
/-- What a call answers that tells a number. -/
def QPost (B : Nat) (L : List (Value × Nat)) (n : Nat) (w : World) (e : Ending) (w' : World) : Prop := ∃ v, e = .returned v ∧ QEnv B w' ((v, n) :: L) ∧ Below w.heap.size w w'
theorem q_plus {B : Nat} {w : World} {L : List (Value × Nat)} {va vb : Value} {A C : Nat} (hE : QEnv B w L) (h1 : Raw w va A) (h2 : Raw w vb C)  (hl : A + C < 18446744073709551616 ^ 1000) :
    Calls Tryd.prog 37 #[va, vb] w (QPost B L (A + C) w) := by
  obtain ⟨a, ca, xs, rfl, _, _, hr1, hb1, rfl, hl1⟩ := h1
  obtain ⟨b, cb, ys, rfl, _, _, hr2, hb2, rfl, hl2⟩ := h2
  refine (rplus_any a b _ ca _ cb xs ys w rfl rfl (Nat.le_trans hl1 (by decide)) (Nat.le_trans hl2 (by decide)) hr1 hr2 hb1 hb2).mono ?_
  rintro e w' ⟨v, zs, rfl, ho, hN, hb⟩
  exact ⟨v, rfl, hE.add hb ho hN hl, hb⟩
theorem q_times {B : Nat} {w : World} {L : List (Value × Nat)} {va vb : Value} {A C : Nat} (hE : QEnv B w L) (h1 : Raw w va A) (h2 : Raw w vb C)  (hl : A * C < 18446744073709551616 ^ 1000) :
    Calls Tryd.prog 39 #[va, vb] w (QPost B L (A * C) w) := by
  obtain ⟨a, ca, xs, rfl, _, _, hr1, hb1, rfl, hl1⟩ := h1
  obtain ⟨b, cb, ys, rfl, _, _, hr2, hb2, rfl, hl2⟩ := h2
  refine (rtimes_any a b _ _ ca cb xs ys w rfl rfl (Nat.le_trans hl1 (by decide)) (Nat.le_trans hl2 (by decide)) hr1 hr2 hb1 hb2).mono ?_
  rintro e w' ⟨v, zs, rfl, ho, hN, hb⟩
  exact ⟨v, rfl, hE.add hb ho hN hl, hb⟩
theorem q_minus {B : Nat} {w : World} {L : List (Value × Nat)} {va vb : Value} {A C : Nat} (hE : QEnv B w L) (h1 : Raw w va A) (h2 : Raw w vb C) (hle : C ≤ A) (hl : A - C < 18446744073709551616 ^ 1000) :
    Calls Tryd.prog 38 #[va, vb] w (QPost B L (A - C) w) := by
  obtain ⟨a, ca, xs, rfl, _, _, hr1, hb1, rfl, hl1⟩ := h1
  obtain ⟨b, cb, ys, rfl, _, _, hr2, hb2, rfl, hl2⟩ := h2
  refine (rminusW_any a b _ ca _ cb xs ys w rfl rfl (Nat.le_trans hl1 (by decide)) (Nat.le_trans hl2 (by decide)) hr1 hr2 hb1 hb2 hle).mono ?_
  rintro e w' ⟨v, zs, rfl, ho, hN, hb⟩
  exact ⟨v, rfl, hE.add hb ho hN hl, hb⟩
theorem q_form {B : Nat} {w : World} {L : List (Value × Nat)} {va : Value} {A : Nat} (hE : QEnv B w L) (h1 : Raw w va A) (hl : A < 18446744073709551616 ^ 1000) :
    Calls Tryd.prog 40 #[va] w (QPost B L A w) := by
  obtain ⟨a, ca, xs, rfl, _, _, hr1, hb1, rfl, hl1⟩ := h1
  refine (rform_any a _ ca xs w rfl (Nat.le_trans hl1 (by decide)) hr1 hb1).mono ?_
  rintro e w' ⟨v, zs, rfl, ho, hN, hb⟩
  exact ⟨v, rfl, hE.add hb ho hN hl, hb⟩
set_option exponentiation.threshold 100000 in
theorem q_small {B : Nat} {w : World} {L : List (Value × Nat)} (x : Nat) (hE : QEnv B w L) (hx : x < 18446744073709551616) :
    Calls Tryd.prog 41 #[.int .u64 (x : Nat)] w (QPost B L x w) := by
  refine (r4small_any x w hx).mono ?_
  rintro e w' ⟨a, c, zs, rfl, ho, hN, hb⟩
  exact ⟨_, rfl, hE.add hb ho hN (Nat.lt_trans hx (by decide +kernel)), hb⟩
set_option exponentiation.threshold 100000 in
theorem q_length {B : Nat} {w : World} {L : List (Value × Nat)} {va : Value} {A : Nat} (hE : QEnv B w L) (h1 : Raw w va A) :
    Calls Tryd.prog 43 #[va] w fun e w' => ∃ k : Nat, e = .returned (.int .i64 (k : Nat)) ∧ BitsIs A k ∧ k ≤ 64000 ∧ QEnv B w' L ∧ Below w.heap.size w w' := by
  obtain ⟨a, ca, xs, rfl, _, _, hr1, hb1, rfl, hl1⟩ := h1
  refine (rlength_any a _ ca xs w rfl (Nat.le_trans hl1 (by decide)) hr1 hb1).mono ?_
  rintro e w' ⟨k, rfl, hk, hb⟩
  have h2 := (bits_fits (m := 1000) hk).2 (Nat.lt_of_lt_of_le (val_lt hb1) (Nat.pow_le_pow_right (by decide) hl1))
  exact ⟨k, rfl, hk, by omega, hE.below hb, hb⟩
theorem q_over {B : Nat} {w : World} {L : List (Value × Nat)} {va vb : Value} {A C : Nat} (hE : QEnv B w L) (h1 : Raw w va A) (h2 : Raw w vb C) (h0 : 0 < C) (hl : A < 18446744073709551616 ^ 1000) :
    Calls Tryd.prog 42 #[va, vb] w fun e w' => ∃ q r, e = .returned (.tuple #[q, r]) ∧ QEnv B w' ((q, A / C) :: (r, A % C) :: L) ∧ Below w.heap.size w w' := by
  obtain ⟨a, ca, xs, rfl, _, _, hr1, hb1, rfl, hl1⟩ := h1
  obtain ⟨b, cb, ys, rfl, _, _, hr2, hb2, rfl, hl2⟩ := h2
  refine (rover_any a b _ _ ca cb xs ys w rfl rfl (Nat.le_trans hl1 (by decide)) (Nat.le_trans hl2 (by decide)) hr1 hr2 hb1 hb2 h0).mono ?_
  rintro e w' ⟨q, r, qs, rs, rfl, oq, or, nq, nr, hb⟩
  have hr := hE.add hb or nr (Nat.lt_of_le_of_lt (Nat.mod_le _ _) hl)
  refine ⟨q, r, rfl, ⟨hr.1, fun p hp => ?_⟩, hb⟩
  rcases List.mem_cons.1 hp with rfl | hp
  · exact ⟨qs, owns_base oq hE.1, nq, Nat.lt_of_le_of_lt (Nat.div_le_self _ _) hl⟩
  · exact hr.2 p hp
set_option maxHeartbeats 1000000 in
theorem q_left {B : Nat} {w : World} {L : List (Value × Nat)} {va vm : Value} {A M : Nat} (hE : QEnv B w L) (h1 : Raw w va A) (h2 : Raw w vm M) (h0 : 0 < M) (hl : A < 18446744073709551616 ^ 1000) :
    Calls Tryd.prog 36 #[va, vm] w (QPost B L (A % M) w) := by
  have HC := Lib.hid (q_over hE h1 h2 h0 hl)
  clear hE h1 h2 h0 hl
  go_enter Tryd.func36, Tryd.ntmps36
  go_wp2_with fail
  refine HC.out.mono ?_
  rintro e w2 ⟨q, r, rfl, hE, hb⟩
  have HE := Lib.hid (And.intro (hE.sub (L' := (r, A % M) :: L) fun p hp => List.mem_cons_of_mem _ hp) hb)
  clear hE hb
  go_wp2
  go_ret
  exact ⟨r, rfl, HE.out⟩
set_option exponentiation.threshold 100000 in
set_option maxHeartbeats 2000000 in
theorem r4wrong_any {w : World} {vm : Value} {M : Nat} (NN : Nat → Nat) (g off n c : Nat) (h1 : Raw w vm M) (hn : n ≤ 2) (hc : ∀ i, i < n → ∃ v, w.cell? ⟨g, off + i, none⟩ = some v ∧ Raw w v (NN i)) :
    Calls Tryd.prog 35 #[.slice (some ⟨g, off, none⟩) n c, vm] w fun e w' => Below w.heap.size w w' ∧
      ((¬ ((∀ i, i < n → NN i < 18446744073709551616 ^ 128) ∧ M < 18446744073709551616 ^ 64) ∧ e = .returned (.int .i64 3)) ∨
       (((∀ i, i < n → NN i < 18446744073709551616 ^ 128) ∧ M < 18446744073709551616 ^ 64) ∧ M = 0 ∧ e = .returned (.int .i64 11)) ∨
       (((∀ i, i < n → NN i < 18446744073709551616 ^ 128) ∧ M < 18446744073709551616 ^ 64) ∧ 0 < M ∧ e = .returned (.int .i64 0))) := by
  have HC := Lib.hid hc
  have HM := Lib.hid (fun (W : World) (h : Below w.heap.size w W) => h1.below h)
  have HE0 : Hid (QEnv w.heap.size w []) := ⟨Nat.le_refl _, fun _ h => by cases h⟩
  have HX : Hid (∀ (v : Value) (N : Nat) (W : World), Raw W v N → N < 18446744073709551616 ^ 1000) := fun v N W h => by
    obtain ⟨a, c, zs, rfl, _, _, _, hb, rfl, hl⟩ := h
    exact Nat.lt_of_lt_of_le (val_lt hb) (Nat.pow_le_pow_right (by decide) hl)
  clear hc h1
  go_enter Tryd.func35, Tryd.ntmps35
  go_wp2
  go_loopw [5] (fun i wr => ∃ k : Nat, k ≤ n ∧ i = .int .i64 k ∧ Hid (Below w.heap.size w wr) ∧ Hid (∀ i, i < k → NN i < 18446744073709551616 ^ 128)) (fun i _ => n - (intOf i).toNat)
  case atStart => exact ⟨0, Nat.zero_le _, rfl, Below.refl _ _, fun i hi => absurd hi (Nat.not_lt_zero _)⟩
  case round =>
    obtain ⟨k, hk, rfl, HB, HF⟩ := hrel
    by_cases hlt : k < n
    · obtain ⟨v, hcell0, hin⟩ := HC.out k hlt
      have hcell := below_cell HB.out _ _ hcell0
      have HV := Lib.hid (hin.below HB.out)
      clear hin hcell0
      have hq1 : decide (k < n) = true := by rw [decide_eq_true_iff]; omega
      go_wp2_with fail
      refine (q_form (HE0.out.below HB.out) HV.out (HX.out _ _ _ HV.out)).mono ?_
      rintro e w2 ⟨u, rfl, hE, hb⟩
      obtain ⟨zs, ho, hN, -⟩ := hE.2 (u, NN k) List.mem_cons_self
      obtain ⟨au, cu, hu, -⟩ := own64.form ho
      have hu : u = .slice au zs.length cu := hu
      subst hu
      have hlen := hN.len_le (k := 128)
      have HB2 := Lib.hid (HB.out.trans (hb.mono HB.out.size))
      clear hcell ho hN hE hb
      generalize zs.length = lz at *
      by_cases hbig : 128 < lz
      · have hq2 : decide ((128 : Int) < (lz : Int)) = true := by rw [decide_eq_true_iff]; omega
        have HP : Hid (¬ ((∀ i, i < n → NN i < 18446744073709551616 ^ 128) ∧ M < 18446744073709551616 ^ 64)) := fun h => by have h2 := hlen.2 (h.1 k hlt); omega
        clear hlen hbig
        go_wp2
        go_ret
        exact ⟨HB2.out, .inl ⟨HP.out, rfl⟩⟩
      · have hq2 : decide ((128 : Int) < (lz : Int)) = false := by rw [decide_eq_false_iff_not]; omega
        have HF2 : Hid (∀ i, i < k + 1 → NN i < 18446744073709551616 ^ 128) := fun i hi => by
          rcases Nat.lt_or_ge i k with h | h
          · exact HF.out i h
          · obtain rfl : i = k := by omega
            exact hlen.1 (by omega)
        clear hlen hbig
        go_wp2
        go_roundw
        case rel => exact ⟨k + 1, by omega, by go_num, HB2.out, HF2.out⟩
        case measure => simp [intOf]; omega
    · obtain rfl : k = n := by omega
      have hq1 : decide (k < k) = false := by simp
      go_wp2_with fail
      refine (q_length (HE0.out.below HB.out) (HM.out _ HB.out)).mono ?_
      rintro e w2 ⟨q, rfl, hb, hq8, -, hbw⟩
      have HB2 := Lib.hid (HB.out.trans (hbw.mono HB.out.size))
      have hfit := bits_fits (m := 64) hb
      have HQ := Lib.hid hb
      clear hb hbw
      by_cases hbig : 4096 < q
      · have hq5 : decide ((4096 : Int) < (q : Int)) = true := by rw [decide_eq_true_iff]; omega
        have HP : Hid (¬ ((∀ i, i < k → NN i < 18446744073709551616 ^ 128) ∧ M < 18446744073709551616 ^ 64)) := fun h => by have h2 := hfit.2 h.2; omega
        clear hfit hbig
        go_wp2
        go_ret
        exact ⟨HB2.out, .inl ⟨HP.out, rfl⟩⟩
      · have hq5 : decide ((4096 : Int) < (q : Int)) = false := by rw [decide_eq_false_iff_not]; omega
        have HP : Hid ((∀ i, i < k → NN i < 18446744073709551616 ^ 128) ∧ M < 18446744073709551616 ^ 64) := ⟨HF.out, hfit.1 (by omega)⟩
        clear hfit hbig
        go_wp2_with fail
        refine (q_length (HE0.out.below HB2.out) (HM.out _ HB2.out)).mono ?_
        rintro e w3 ⟨q2, rfl, hb, hq9, -, hbw⟩
        have HB3 := Lib.hid (HB2.out.trans (hbw.mono HB2.out.size))
        have hz := bits_zero hb
        clear hb hbw
        by_cases hq0 : q2 = 0
        · subst hq0
          have HZ := Lib.hid (hz.1 rfl)
          clear hz
          go_wp2
          go_ret
          exact ⟨HB3.out, .inr (.inl ⟨HP.out, HZ.out, rfl⟩)⟩
        · have hq6 : ((q2 : Int) == 0) = false := by simp; omega
          have HZ : Hid (0 < M) := Nat.pos_of_ne_zero fun h => hq0 (hz.2 h)
          clear hz hq0
          go_wp2
          go_ret
          exact ⟨HB3.out, .inr (.inr ⟨HP.out, HZ.out, rfl⟩)⟩
set_option exponentiation.threshold 100000 in
/-- Bounds for what is left between. -/
theorem lims_q {A C M : Nat} (hA : A < 18446744073709551616 ^ 128) (hC : C < 18446744073709551616 ^ 128) (hM : M < 18446744073709551616 ^ 64) :
    A < 18446744073709551616 ^ 1000 ∧ A + C < 18446744073709551616 ^ 1000 ∧ A * C < 18446744073709551616 ^ 1000 ∧ M + M < 18446744073709551616 ^ 1000 ∧ M * M < 18446744073709551616 ^ 1000 ∧ M < 18446744073709551616 ^ 1000 := by
  have k1 : A * C ≤ 18446744073709551616 ^ 128 * 18446744073709551616 ^ 128 := Nat.mul_le_mul (Nat.le_of_lt hA) (Nat.le_of_lt hC)
  have k2 : M * M ≤ 18446744073709551616 ^ 64 * 18446744073709551616 ^ 64 := Nat.mul_le_mul (Nat.le_of_lt hM) (Nat.le_of_lt hM)
  rw [← Nat.pow_add] at k1 k2
  have p1 : (18446744073709551616 : Nat) ^ 128 * 4 ≤ 18446744073709551616 ^ 1000 := by decide +kernel
  have p2 : (18446744073709551616 : Nat) ^ (128 + 128) < 18446744073709551616 ^ 1000 := by decide +kernel
  have p3 : (18446744073709551616 : Nat) ^ (64 + 64) < 18446744073709551616 ^ 1000 := by decide +kernel
  have p4 : (18446744073709551616 : Nat) ^ 64 * 4 ≤ 18446744073709551616 ^ 1000 := by decide +kernel
  generalize A * C = ac at *
  generalize M * M = mm at *
  generalize (18446744073709551616 : Nat) ^ 64 = m64 at *
  generalize (18446744073709551616 : Nat) ^ 128 = m128 at *
  generalize (18446744073709551616 : Nat) ^ (128 + 128) = m256 at *
  generalize (18446744073709551616 : Nat) ^ (64 + 64) = m129 at *
  generalize (18446744073709551616 : Nat) ^ 1000 = m at *
  refine ⟨by omega, by omega, by omega, by omega, by omega, by omega⟩
set_option maxHeartbeats 4000000 in
theorem r4of_any {w : World} {vm va : Value} {M A : Nat} (g0 : Raw w vm M) (g1 : Raw w va A) :
    Calls Tryd.prog 16 #[va, vm] w (MPost (ModTells (A < 18446744073709551616 ^ 128 ∧ M < 18446744073709551616 ^ 64) M (A % M)) w) := by
  obtain ⟨aa, la, ca, rfl⟩ := g1.sl
  skip
  have hal : Below w.heap.size w (w.alloc (.cells #[(.slice aa la ca)] 25)) := (Below.refl _ _).alloc (Nat.le_refl _) _
  have HA := Lib.hid (fun (W : World) (h : Below w.heap.size w W) => And.intro (g0.below h) (g1.below h))
  have HAL := Lib.hid hal
  have hck := r4wrong_any (fun _ => A) w.heap.size 0 1 1 (g0.below hal) (by decide) (by
    intro i hi
    obtain rfl : i = 0 := by omega
    exact ⟨_, World.cell?_alloc_at _ _ _ _ rfl, g1.below hal⟩
    
    
    )
  have hfit : (∀ i, i < 1 → (fun _ => A) i < 18446744073709551616 ^ 128) ↔ A < 18446744073709551616 ^ 128 := by
    exact ⟨fun h => h 0 (by decide), fun h i _ => h⟩
    
    
    
    
    
  rw [hfit] at hck
  have HCK := Lib.hid hck
  clear hck hfit g0 g1 hal
  go_enter Tryd.func16, Tryd.ntmps16
  go_wp2_with fail
  refine HCK.out.mono ?_
  rintro e w2 ⟨hb, hor⟩
  have HB := Lib.hid (HAL.out.trans (hb.mono HAL.out.size))
  clear hb
  rcases hor with ⟨hP, rfl⟩ | ⟨hP, hM, rfl⟩ | ⟨hP, hM, rfl⟩
  · have HP := Lib.hid hP
    clear hP
    go_wp2
    go_ret2
    exact MPost.none HB.out (.inl ⟨HP.out, rfl, rfl⟩)
  · have HP := Lib.hid (And.intro hP hM)
    clear hP hM
    go_wp2
    go_ret2
    exact MPost.none HB.out (.inr (.inl ⟨HP.out.1, HP.out.2, rfl, rfl⟩))
  · have HP := Lib.hid (And.intro hP hM)
    have HL := Lib.hid (lims_q hP.1 hP.1 hP.2)
    have HE : Hid (QEnv w.heap.size w2 [] ∧ Below w.heap.size w w2) := ⟨⟨HB.out.size, fun _ h => by cases h⟩, HB.out⟩
    clear hP hM
    go_wp2_with fail
    refine (q_left HE.out.1 (HA.out _ HE.out.2).2 (HA.out _ HE.out.2).1 HP.out.2 HL.out.1).mono ?_
    rintro e w3 ⟨vz, rfl, hE, hb⟩
    have HE := Lib.hid (And.intro hE (HE.out.2.trans (hb.mono HE.out.2.size)))
    clear hE hb
    go_wp2
    go_ret2
    exact MPost.of_q (v := vz) HE.out.2 HE.out.1 (by repeat first | exact List.mem_cons_self | apply List.mem_cons_of_mem) (fun zs h => .inr (.inr ⟨HP.out.1, HP.out.2, rfl, h⟩))
set_option maxHeartbeats 4000000 in
theorem r4add_any {w : World} {vm va vb : Value} {M A C : Nat} (g0 : Raw w vm M) (g1 : Raw w va A) (g2 : Raw w vb C) :
    Calls Tryd.prog 17 #[va, vb, vm] w (MPost (ModTells ((A < 18446744073709551616 ^ 128 ∧ C < 18446744073709551616 ^ 128) ∧ M < 18446744073709551616 ^ 64) M ((A + C) % M)) w) := by
  obtain ⟨aa, la, ca, rfl⟩ := g1.sl
  obtain ⟨ab, lb, cb, rfl⟩ := g2.sl
  have hal : Below w.heap.size w (w.alloc (.cells #[(.slice aa la ca), (.slice ab lb cb)] 25)) := (Below.refl _ _).alloc (Nat.le_refl _) _
  have HA := Lib.hid (fun (W : World) (h : Below w.heap.size w W) => And.intro (g0.below h) (And.intro (g1.below h) (g2.below h)))
  have HAL := Lib.hid hal
  have hck := r4wrong_any (fun i => if i = 0 then A else C) w.heap.size 0 2 2 (g0.below hal) (by decide) (by
    intro i hi
    rcases Nat.lt_or_ge i 1 with h1 | h1
    · obtain rfl : i = 0 := by omega
      exact ⟨_, World.cell?_alloc_at _ _ _ _ rfl, g1.below hal⟩
    · obtain rfl : i = 1 := by omega
      exact ⟨_, World.cell?_alloc_at _ _ _ _ rfl, g2.below hal⟩)
  have hfit : (∀ i, i < 2 → (fun i => if i = 0 then A else C) i < 18446744073709551616 ^ 128) ↔ (A < 18446744073709551616 ^ 128 ∧ C < 18446744073709551616 ^ 128) := by
    constructor
    · intro h; exact ⟨h 0 (by decide), h 1 (by decide)⟩
    · rintro ⟨h1, h2⟩ i hi
      rcases (show i = 0 ∨ i = 1 by omega) with rfl | rfl
      · exact h1
      · exact h2
  rw [hfit] at hck
  have HCK := Lib.hid hck
  clear hck hfit g0 g1 g2 hal
  go_enter Tryd.func17, Tryd.ntmps17
  go_wp2_with fail
  refine HCK.out.mono ?_
  rintro e w2 ⟨hb, hor⟩
  have HB := Lib.hid (HAL.out.trans (hb.mono HAL.out.size))
  clear hb
  rcases hor with ⟨hP, rfl⟩ | ⟨hP, hM, rfl⟩ | ⟨hP, hM, rfl⟩
  · have HP := Lib.hid hP
    clear hP
    go_wp2
    go_ret2
    exact MPost.none HB.out (.inl ⟨HP.out, rfl, rfl⟩)
  · have HP := Lib.hid (And.intro hP hM)
    clear hP hM
    go_wp2
    go_ret2
    exact MPost.none HB.out (.inr (.inl ⟨HP.out.1, HP.out.2, rfl, rfl⟩))
  · have HP := Lib.hid (And.intro hP hM)
    have HL := Lib.hid (lims_q hP.1.1 hP.1.2 hP.2)
    have HE : Hid (QEnv w.heap.size w2 [] ∧ Below w.heap.size w w2) := ⟨⟨HB.out.size, fun _ h => by cases h⟩, HB.out⟩
    clear hP hM
    go_wp2_with fail
    refine (q_plus HE.out.1 (HA.out _ HE.out.2).2.1 (HA.out _ HE.out.2).2.2 HL.out.2.1).mono ?_
    rintro e w4 ⟨s, rfl, hE, hb⟩
    have HE := Lib.hid (And.intro hE (HE.out.2.trans (hb.mono HE.out.2.size)))
    clear hE hb
    go_wp2_with fail
    refine (q_left HE.out.1 (HE.out.1.raw (v := s) (by repeat first | exact List.mem_cons_self | apply List.mem_cons_of_mem)) (HA.out _ HE.out.2).1 HP.out.2 HL.out.2.1).mono ?_
    rintro e w5 ⟨vz, rfl, hE, hb⟩
    have HE := Lib.hid (And.intro hE (HE.out.2.trans (hb.mono HE.out.2.size)))
    clear hE hb
    go_wp2
    go_ret2
    exact MPost.of_q (v := vz) HE.out.2 HE.out.1 (by repeat first | exact List.mem_cons_self | apply List.mem_cons_of_mem) (fun zs h => .inr (.inr ⟨HP.out.1, HP.out.2, rfl, h⟩))
set_option maxHeartbeats 4000000 in
theorem r4mul_any {w : World} {vm va vb : Value} {M A C : Nat} (g0 : Raw w vm M) (g1 : Raw w va A) (g2 : Raw w vb C) :
    Calls Tryd.prog 19 #[va, vb, vm] w (MPost (ModTells ((A < 18446744073709551616 ^ 128 ∧ C < 18446744073709551616 ^ 128) ∧ M < 18446744073709551616 ^ 64) M (A * C % M)) w) := by
  obtain ⟨aa, la, ca, rfl⟩ := g1.sl
  obtain ⟨ab, lb, cb, rfl⟩ := g2.sl
  have hal : Below w.heap.size w (w.alloc (.cells #[(.slice aa la ca), (.slice ab lb cb)] 25)) := (Below.refl _ _).alloc (Nat.le_refl _) _
  have HA := Lib.hid (fun (W : World) (h : Below w.heap.size w W) => And.intro (g0.below h) (And.intro (g1.below h) (g2.below h)))
  have HAL := Lib.hid hal
  have hck := r4wrong_any (fun i => if i = 0 then A else C) w.heap.size 0 2 2 (g0.below hal) (by decide) (by
    intro i hi
    rcases Nat.lt_or_ge i 1 with h1 | h1
    · obtain rfl : i = 0 := by omega
      exact ⟨_, World.cell?_alloc_at _ _ _ _ rfl, g1.below hal⟩
    · obtain rfl : i = 1 := by omega
      exact ⟨_, World.cell?_alloc_at _ _ _ _ rfl, g2.below hal⟩)
  have hfit : (∀ i, i < 2 → (fun i => if i = 0 then A else C) i < 18446744073709551616 ^ 128) ↔ (A < 18446744073709551616 ^ 128 ∧ C < 18446744073709551616 ^ 128) := by
    constructor
    · intro h; exact ⟨h 0 (by decide), h 1 (by decide)⟩
    · rintro ⟨h1, h2⟩ i hi
      rcases (show i = 0 ∨ i = 1 by omega) with rfl | rfl
      · exact h1
      · exact h2
  rw [hfit] at hck
  have HCK := Lib.hid hck
  clear hck hfit g0 g1 g2 hal
  go_enter Tryd.func19, Tryd.ntmps19
  go_wp2_with fail
  refine HCK.out.mono ?_
  rintro e w2 ⟨hb, hor⟩
  have HB := Lib.hid (HAL.out.trans (hb.mono HAL.out.size))
  clear hb
  rcases hor with ⟨hP, rfl⟩ | ⟨hP, hM, rfl⟩ | ⟨hP, hM, rfl⟩
  · have HP := Lib.hid hP
    clear hP
    go_wp2
    go_ret2
    exact MPost.none HB.out (.inl ⟨HP.out, rfl, rfl⟩)
  · have HP := Lib.hid (And.intro hP hM)
    clear hP hM
    go_wp2
    go_ret2
    exact MPost.none HB.out (.inr (.inl ⟨HP.out.1, HP.out.2, rfl, rfl⟩))
  · have HP := Lib.hid (And.intro hP hM)
    have HL := Lib.hid (lims_q hP.1.1 hP.1.2 hP.2)
    have HE : Hid (QEnv w.heap.size w2 [] ∧ Below w.heap.size w w2) := ⟨⟨HB.out.size, fun _ h => by cases h⟩, HB.out⟩
    clear hP hM
    go_wp2_with fail
    refine (q_times HE.out.1 (HA.out _ HE.out.2).2.1 (HA.out _ HE.out.2).2.2 HL.out.2.2.1).mono ?_
    rintro e w6 ⟨s, rfl, hE, hb⟩
    have HE := Lib.hid (And.intro hE (HE.out.2.trans (hb.mono HE.out.2.size)))
    clear hE hb
    go_wp2_with fail
    refine (q_left HE.out.1 (HE.out.1.raw (v := s) (by repeat first | exact List.mem_cons_self | apply List.mem_cons_of_mem)) (HA.out _ HE.out.2).1 HP.out.2 HL.out.2.2.1).mono ?_
    rintro e w7 ⟨vz, rfl, hE, hb⟩
    have HE := Lib.hid (And.intro hE (HE.out.2.trans (hb.mono HE.out.2.size)))
    clear hE hb
    go_wp2
    go_ret2
    exact MPost.of_q (v := vz) HE.out.2 HE.out.1 (by repeat first | exact List.mem_cons_self | apply List.mem_cons_of_mem) (fun zs h => .inr (.inr ⟨HP.out.1, HP.out.2, rfl, h⟩))
theorem mdiff_ref {x y m : Nat} (hx : x < m) (hy : y < m) : (x + m - y) % m = mdiff x y m := by
  unfold mdiff
  split
  · rw [Nat.mod_eq_of_lt (by omega)]
  · rw [show x + m - y = x - y + m by omega, Nat.add_mod_right, Nat.mod_eq_of_lt (by omega)]
set_option maxHeartbeats 4000000 in
theorem r4sub_any {w : World} {vm va vb : Value} {M A C : Nat} (g0 : Raw w vm M) (g1 : Raw w va A) (g2 : Raw w vb C) :
    Calls Tryd.prog 18 #[va, vb, vm] w (MPost (ModTells ((A < 18446744073709551616 ^ 128 ∧ C < 18446744073709551616 ^ 128) ∧ M < 18446744073709551616 ^ 64) M (mdiff (A % M) (C % M) M)) w) := by
  obtain ⟨aa, la, ca, rfl⟩ := g1.sl
  obtain ⟨ab, lb, cb, rfl⟩ := g2.sl
  have hal : Below w.heap.size w (w.alloc (.cells #[(.slice aa la ca), (.slice ab lb cb)] 25)) := (Below.refl _ _).alloc (Nat.le_refl _) _
  have HA := Lib.hid (fun (W : World) (h : Below w.heap.size w W) => And.intro (g0.below h) (And.intro (g1.below h) (g2.below h)))
  have HAL := Lib.hid hal
  have hck := r4wrong_any (fun i => if i = 0 then A else C) w.heap.size 0 2 2 (g0.below hal) (by decide) (by
    intro i hi
    rcases Nat.lt_or_ge i 1 with h1 | h1
    · obtain rfl : i = 0 := by omega
      exact ⟨_, World.cell?_alloc_at _ _ _ _ rfl, g1.below hal⟩
    · obtain rfl : i = 1 := by omega
      exact ⟨_, World.cell?_alloc_at _ _ _ _ rfl, g2.below hal⟩)
  have hfit : (∀ i, i < 2 → (fun i => if i = 0 then A else C) i < 18446744073709551616 ^ 128) ↔ (A < 18446744073709551616 ^ 128 ∧ C < 18446744073709551616 ^ 128) := by
    constructor
    · intro h; exact ⟨h 0 (by decide), h 1 (by decide)⟩
    · rintro ⟨h1, h2⟩ i hi
      rcases (show i = 0 ∨ i = 1 by omega) with rfl | rfl
      · exact h1
      · exact h2
  rw [hfit] at hck
  have HCK := Lib.hid hck
  clear hck hfit g0 g1 g2 hal
  go_enter Tryd.func18, Tryd.ntmps18
  go_wp2_with fail
  refine HCK.out.mono ?_
  rintro e w2 ⟨hb, hor⟩
  have HB := Lib.hid (HAL.out.trans (hb.mono HAL.out.size))
  clear hb
  rcases hor with ⟨hP, rfl⟩ | ⟨hP, hM, rfl⟩ | ⟨hP, hM, rfl⟩
  · have HP := Lib.hid hP
    clear hP
    go_wp2
    go_ret2
    exact MPost.none HB.out (.inl ⟨HP.out, rfl, rfl⟩)
  · have HP := Lib.hid (And.intro hP hM)
    clear hP hM
    go_wp2
    go_ret2
    exact MPost.none HB.out (.inr (.inl ⟨HP.out.1, HP.out.2, rfl, rfl⟩))
  · have HP := Lib.hid (And.intro hP hM)
    have HL := Lib.hid (lims_q hP.1.1 hP.1.2 hP.2)
    have HE : Hid (QEnv w.heap.size w2 [] ∧ Below w.heap.size w w2) := ⟨⟨HB.out.size, fun _ h => by cases h⟩, HB.out⟩
    clear hP hM
    go_wp2_with fail
    refine (q_left HE.out.1 (HA.out _ HE.out.2).2.1 (HA.out _ HE.out.2).1 HP.out.2 HL.out.1).mono ?_
    rintro e w8 ⟨xa, rfl, hE, hb⟩
    have HE := Lib.hid (And.intro hE (HE.out.2.trans (hb.mono HE.out.2.size)))
    clear hE hb
    go_wp2_with fail
    refine (q_plus HE.out.1 (HE.out.1.raw (v := xa) (by repeat first | exact List.mem_cons_self | apply List.mem_cons_of_mem)) (HA.out _ HE.out.2).1 (by have h1 := Nat.mod_lt A HP.out.2; have h2 := HL.out.2.2.2.1; omega)).mono ?_
    rintro e w9 ⟨s, rfl, hE, hb⟩
    have HE := Lib.hid (And.intro hE (HE.out.2.trans (hb.mono HE.out.2.size)))
    clear hE hb
    go_wp2_with fail
    refine (q_left HE.out.1 (HA.out _ HE.out.2).2.2 (HA.out _ HE.out.2).1 HP.out.2 (by have h2 := HL.out.2.1; omega)).mono ?_
    rintro e w10 ⟨xb, rfl, hE, hb⟩
    have HE := Lib.hid (And.intro hE (HE.out.2.trans (hb.mono HE.out.2.size)))
    clear hE hb
    go_wp2_with fail
    refine (q_minus HE.out.1 (HE.out.1.raw (v := s) (by repeat first | exact List.mem_cons_self | apply List.mem_cons_of_mem)) (HE.out.1.raw (v := xb) (by repeat first | exact List.mem_cons_self | apply List.mem_cons_of_mem)) (by have h2 := Nat.mod_lt C HP.out.2; omega) (by have h1 := Nat.mod_lt A HP.out.2; have h2 := HL.out.2.2.2.1; omega)).mono ?_
    rintro e w11 ⟨d, rfl, hE, hb⟩
    have HE := Lib.hid (And.intro hE (HE.out.2.trans (hb.mono HE.out.2.size)))
    clear hE hb
    go_wp2_with fail
    refine (q_left HE.out.1 (HE.out.1.raw (v := d) (by repeat first | exact List.mem_cons_self | apply List.mem_cons_of_mem)) (HA.out _ HE.out.2).1 HP.out.2 (by have h1 := Nat.mod_lt A HP.out.2; have h2 := HL.out.2.2.2.1; omega)).mono ?_
    rintro e w12 ⟨vz, rfl, hE, hb⟩
    rw [mdiff_ref (Nat.mod_lt _ HP.out.2) (Nat.mod_lt _ HP.out.2)] at hE
    have HE := Lib.hid (And.intro hE (HE.out.2.trans (hb.mono HE.out.2.size)))
    clear hE hb
    go_wp2
    go_ret2
    exact MPost.of_q (v := vz) HE.out.2 HE.out.1 (by repeat first | exact List.mem_cons_self | apply List.mem_cons_of_mem) (fun zs h => .inr (.inr ⟨HP.out.1, HP.out.2, rfl, h⟩))
set_option maxHeartbeats 4000000 in
set_option maxRecDepth 100000 in
theorem r4raised_any {w : World} {vm va vn : Value} {M A N : Nat} (g0 : Raw w vm M) (g1 : Raw w va A) (g2 : Raw w vn N) (hp : 0 < M) (hM : M < 18446744073709551616 ^ 64) (hA : A < 18446744073709551616 ^ 128) :
    Calls Tryd.prog 45 #[va, vn, vm] w (QPost w.heap.size [] (A ^ N % M) w) := by
  have HA := Lib.hid (fun (W : World) (h : Below w.heap.size w W) => And.intro (g0.below h) (And.intro (g1.below h) (g2.below h)))
  obtain ⟨an, cn, ns, rfl, -, -, hr, bn, hvl, -⟩ := g2
  have HR := Lib.hid (fun (W : World) (h : Below w.heap.size w W) => hr.below h)
  generalize hln : ns.length = ln at *
  have HLN := Lib.hid hln
  have HBN := Lib.hid bn
  have HVL := Lib.hid hvl
  have HL := Lib.hid (lims_q hA hA hM)
  have HP := Lib.hid hp
  have HE : Hid (QEnv w.heap.size w [] ∧ Below w.heap.size w w) := ⟨⟨Nat.le_refl _, fun _ h => by cases h⟩, Below.refl _ _⟩
  clear g0 g1 hr hln bn hvl hA hM hp
  go_enter Tryd.func45, Tryd.ntmps45
  go_wp2_with fail
  refine (q_small 1 HE.out.1 (by decide)).mono ?_
  rintro e w13 ⟨v1, rfl, hE, hb⟩
  have HE := Lib.hid (And.intro hE (HE.out.2.trans (hb.mono HE.out.2.size)))
  clear hE hb
  go_wp2_with fail
  refine (q_left HE.out.1 (HE.out.1.raw (v := v1) (by repeat first | exact List.mem_cons_self | apply List.mem_cons_of_mem)) (HA.out _ HE.out.2).1 HP.out (by decide +kernel)).mono ?_
  rintro e w14 ⟨vo, rfl, hE, hb⟩
  have HE := Lib.hid (And.intro hE (HE.out.2.trans (hb.mono HE.out.2.size)))
  clear hE hb
  go_wp2_with fail
  refine (q_left HE.out.1 (HA.out _ HE.out.2).2.1 (HA.out _ HE.out.2).1 HP.out HL.out.1).mono ?_
  rintro e w15 ⟨vx, rfl, hE, hb⟩
  have HE := Lib.hid (And.intro hE (HE.out.2.trans (hb.mono HE.out.2.size)))
  clear hE hb
  go_wp2_with fail
  refine (q_length HE.out.1 (HA.out _ HE.out.2).2.2).mono ?_
  rintro e wk ⟨K, rfl, hK, hK8, hE, hb⟩
  have hst : A ^ (N / 2 ^ K) % M = 1 % M := by rw [Nat.div_eq_of_lt (bits_lt hK), Nat.pow_zero]
  have HE3 : Hid (QEnv w.heap.size wk [(vo, A ^ (N / 2 ^ K) % M), (vx, A % M)] ∧ Below w.heap.size w wk) := ⟨hE.sub (by rw [hst]; simp), HE.out.2.trans (hb.mono HE.out.2.size)⟩
  have HKL : Hid (∀ j, j < K → j / 64 < ln) := fun j hj => bits_limb hK HBN.out HVL.out HLN.out hj
  clear hE hb hK hst HE
  go_wp2
  go_loopw [7, 9] (fun s7 s9 wr => ∃ (j : Nat) (iv : Int), s9 = .int .i64 iv ∧ Hid (iv + 1 = (j : Int)) ∧ j ≤ K ∧ Hid (QEnv w.heap.size wr [(s7, A ^ (N / 2 ^ j) % M), (vx, A % M)] ∧ Below w.heap.size w wr)) (fun _ i _ => (intOf i + 1).toNat)
  case atStart => exact ⟨K, _, rfl, by show _ = _; omega, Nat.le_refl _, HE3.out⟩
  case round =>
    obtain ⟨j, iv, rfl, hiv, hjK, HE⟩ := hrel
    clear HE3
    by_cases hj0 : j = 0
    · subst hj0
      obtain rfl : iv = -1 := by have := hiv.out; omega
      go_wp2
      go_ret
      have h1 := HE.out.1
      rw [Nat.pow_zero, Nat.div_one] at h1
      exact ⟨_, rfl, h1.sub (by simp), HE.out.2⟩
    · obtain ⟨j', rfl⟩ : ∃ j', j = j' + 1 := ⟨j - 1, by omega⟩
      obtain rfl : iv = (j' : Int) := by have := hiv.out; omega
      have hge : decide ((0 : Int) ≤ (j' : Int)) = true := by simp
      have HJ := Lib.hid (And.intro hjK (HKL.out j' (by omega)))
      clear hj0 hiv
      go_wp2_with fail
      refine (q_times HE.out.1 (HE.out.1.raw (n := A ^ (N / 2 ^ (j' + 1)) % M) (by repeat first | exact List.mem_cons_self | apply List.mem_cons_of_mem)) (HE.out.1.raw (n := A ^ (N / 2 ^ (j' + 1)) % M) (by repeat first | exact List.mem_cons_self | apply List.mem_cons_of_mem)) (Nat.lt_of_le_of_lt (Nat.mul_le_mul (Nat.le_of_lt (Nat.mod_lt _ HP.out)) (Nat.le_of_lt (Nat.mod_lt _ HP.out))) HL.out.2.2.2.2.1)).mono ?_
      rintro e w16 ⟨p1, rfl, hE, hb⟩
      have HE := Lib.hid (And.intro hE (HE.out.2.trans (hb.mono HE.out.2.size)))
      clear hE hb
      go_wp2_with fail
      refine (q_left HE.out.1 (HE.out.1.raw (v := p1) (by repeat first | exact List.mem_cons_self | apply List.mem_cons_of_mem)) (HA.out _ HE.out.2).1 HP.out (Nat.lt_of_le_of_lt (Nat.mul_le_mul (Nat.le_of_lt (Nat.mod_lt _ HP.out)) (Nat.le_of_lt (Nat.mod_lt _ HP.out))) HL.out.2.2.2.2.1)).mono ?_
      rintro e w17 ⟨p2, rfl, hE, hb⟩
      rw [pw_sq] at hE
      have HE := Lib.hid (And.intro hE (HE.out.2.trans (hb.mono HE.out.2.size)))
      clear hE hb
      obtain ⟨b, off, rfl⟩ := (HR.out _ HE.out.2).isAt (by have h1 := HLN.out; have h2 := HJ.out.2; omega)
      have hc := (HR.out _ HE.out.2).cell (i := j' / 64) (by have h1 := HLN.out; have h2 := HJ.out.2; omega)
      have hx := HBN.out.at0 (j' / 64)
      have HV := Lib.hid (limb_bit HBN.out j' (by have h1 := HLN.out; have h2 := HJ.out.2; omega))
      generalize at0 ns (j' / 64) = x at *
      have HBT : Hid (((x : Int) / 2 ^ (j' % 64)).tmod 2 = ((N / 2 ^ j' % 2 : Nat) : Int)) := by
        show _ = _
        rw [← HVL.out, ← HV.out, show (x : Int) / 2 ^ (j' % 64) = ((x / 2 ^ (j' % 64) : Nat) : Int) by rw [Int.natCast_ediv, Int.natCast_pow]; rfl]
        rfl
      have hjl := HJ.out.2
      have hj8 : j' ≤ 64000 := by have := HJ.out.1; omega
      by_cases hbit : N / 2 ^ j' % 2 = 1
      · have hbt : (((x : Int) / 2 ^ (j' % 64)).tmod 2 == 1) = true := by rw [HBT.out, hbit]; rfl
        have HBIT := Lib.hid hbit
        clear HBT HV hbit
        go_wp2_with fail
        refine (q_times HE.out.1 (HE.out.1.raw (v := p2) (by repeat first | exact List.mem_cons_self | apply List.mem_cons_of_mem)) (HE.out.1.raw (v := vx) (by repeat first | exact List.mem_cons_self | apply List.mem_cons_of_mem)) (Nat.lt_of_le_of_lt (Nat.mul_le_mul (Nat.le_of_lt (Nat.mod_lt _ HP.out)) (Nat.le_of_lt (Nat.mod_lt _ HP.out))) HL.out.2.2.2.2.1)).mono ?_
        rintro e w18 ⟨p3, rfl, hE, hb⟩
        have HE := Lib.hid (And.intro hE (HE.out.2.trans (hb.mono HE.out.2.size)))
        clear hE hb
        go_wp2_with fail
        refine (q_left HE.out.1 (HE.out.1.raw (v := p3) (by repeat first | exact List.mem_cons_self | apply List.mem_cons_of_mem)) (HA.out _ HE.out.2).1 HP.out (Nat.lt_of_le_of_lt (Nat.mul_le_mul (Nat.le_of_lt (Nat.mod_lt _ HP.out)) (Nat.le_of_lt (Nat.mod_lt _ HP.out))) HL.out.2.2.2.2.1)).mono ?_
        rintro e w19 ⟨p4, rfl, hE, hb⟩
        rw [pw_mul] at hE
        have HE := Lib.hid (And.intro hE (HE.out.2.trans (hb.mono HE.out.2.size)))
        clear hE hb
        go_wp2
        go_roundw
        case rel =>
          refine ⟨j', _, rfl, by show _ = _; omega, by omega, HE.out.1.sub ?_, HE.out.2⟩
          have h1 := half_step N j'
          rw [HBIT.out] at h1
          rw [h1]
          simp
        case measure => first | (simp [intOf]; done) | (simp [intOf]; omega)
      · have hb0 : N / 2 ^ j' % 2 = 0 := by omega
        have hbt : (((x : Int) / 2 ^ (j' % 64)).tmod 2 == 1) = false := by rw [HBT.out, hb0]; rfl
        have HBIT := Lib.hid hb0
        clear HBT HV hbit hb0
        go_wp2
        go_roundw
        case rel =>
          refine ⟨j', _, rfl, by show _ = _; omega, by omega, HE.out.1.sub ?_, HE.out.2⟩
          have h1 := half_step N j'
          rw [HBIT.out, Nat.add_zero] at h1
          rw [h1]
          simp
        case measure => first | (simp [intOf]; done) | (simp [intOf]; omega)
set_option maxHeartbeats 4000000 in
theorem r4pow_any {w : World} {vm va vb : Value} {M A C : Nat} (g0 : Raw w vm M) (g1 : Raw w va A) (g2 : Raw w vb C) :
    Calls Tryd.prog 26 #[va, vb, vm] w (MPost (ModTells ((A < 18446744073709551616 ^ 128 ∧ C < 18446744073709551616 ^ 128) ∧ M < 18446744073709551616 ^ 64) M (A ^ C % M)) w) := by
  obtain ⟨aa, la, ca, rfl⟩ := g1.sl
  obtain ⟨ab, lb, cb, rfl⟩ := g2.sl
  have hal : Below w.heap.size w (w.alloc (.cells #[(.slice aa la ca), (.slice ab lb cb)] 25)) := (Below.refl _ _).alloc (Nat.le_refl _) _
  have HA := Lib.hid (fun (W : World) (h : Below w.heap.size w W) => And.intro (g0.below h) (And.intro (g1.below h) (g2.below h)))
  have HAL := Lib.hid hal
  have hck := r4wrong_any (fun i => if i = 0 then A else C) w.heap.size 0 2 2 (g0.below hal) (by decide) (by
    intro i hi
    rcases Nat.lt_or_ge i 1 with h1 | h1
    · obtain rfl : i = 0 := by omega
      exact ⟨_, World.cell?_alloc_at _ _ _ _ rfl, g1.below hal⟩
    · obtain rfl : i = 1 := by omega
      exact ⟨_, World.cell?_alloc_at _ _ _ _ rfl, g2.below hal⟩)
  have hfit : (∀ i, i < 2 → (fun i => if i = 0 then A else C) i < 18446744073709551616 ^ 128) ↔ (A < 18446744073709551616 ^ 128 ∧ C < 18446744073709551616 ^ 128) := by
    constructor
    · intro h; exact ⟨h 0 (by decide), h 1 (by decide)⟩
    · rintro ⟨h1, h2⟩ i hi
      rcases (show i = 0 ∨ i = 1 by omega) with rfl | rfl
      · exact h1
      · exact h2
  rw [hfit] at hck
  have HCK := Lib.hid hck
  clear hck hfit g0 g1 g2 hal
  go_enter Tryd.func26, Tryd.ntmps26
  go_wp2_with fail
  refine HCK.out.mono ?_
  rintro e w2 ⟨hb, hor⟩
  have HB := Lib.hid (HAL.out.trans (hb.mono HAL.out.size))
  clear hb
  rcases hor with ⟨hP, rfl⟩ | ⟨hP, hM, rfl⟩ | ⟨hP, hM, rfl⟩
  · have HP := Lib.hid hP
    clear hP
    go_wp2
    go_ret2
    exact MPost.none HB.out (.inl ⟨HP.out, rfl, rfl⟩)
  · have HP := Lib.hid (And.intro hP hM)
    clear hP hM
    go_wp2
    go_ret2
    exact MPost.none HB.out (.inr (.inl ⟨HP.out.1, HP.out.2, rfl, rfl⟩))
  · have HP := Lib.hid (And.intro hP hM)
    have HL := Lib.hid (lims_q hP.1.1 hP.1.2 hP.2)
    have HE : Hid (QEnv w.heap.size w2 [] ∧ Below w.heap.size w w2) := ⟨⟨HB.out.size, fun _ h => by cases h⟩, HB.out⟩
    clear hP hM
    go_wp2_with fail
    refine (r4raised_any (HA.out _ HE.out.2).1 (HA.out _ HE.out.2).2.1 (HA.out _ HE.out.2).2.2 HP.out.2 HP.out.1.2 HP.out.1.1.1).mono ?_
    rintro e w9 ⟨vz, rfl, hE, hb⟩
    have HQ : Hid (QEnv w.heap.size w9 [(vz, A ^ C % M)]) := ⟨Nat.le_trans HE.out.2.size hb.size, fun p hp => by
      obtain ⟨zs, h1, h2⟩ := hE.2 p hp
      exact ⟨zs, owns_base h1 HE.out.2.size, h2⟩⟩
    have HB9 := Lib.hid (HE.out.2.trans (hb.mono HE.out.2.size))
    clear hE hb
    go_wp2
    go_ret2
    exact MPost.of_q (v := vz) HB9.out HQ.out (by repeat first | exact List.mem_cons_self | apply List.mem_cons_of_mem) (fun zs h => .inr (.inr ⟨HP.out.1, HP.out.2, rfl, h⟩))
theorem Lv.oneM (A M : Nat) : Lv (1 % M) A A M := by
  obtain ⟨k, h⟩ := mod_int 1 M
  refine ⟨k * A, ?_⟩
  rw [h]
  generalize (A : Int) = a
  generalize (M : Int) = m
  grind
set_option maxRecDepth 100000 in
set_option exponentiation.threshold 100000 in
set_option maxHeartbeats 4000000 in
theorem r4inv_any {w : World} {vm va : Value} {M A : Nat} (g0 : Raw w vm M) (g1 : Raw w va A) :
    Calls Tryd.prog 20 #[va, vm] w (MPost (InvTells (A < 18446744073709551616 ^ 128 ∧ M < 18446744073709551616 ^ 64) M A) w) := by
  obtain ⟨aa, la, ca, rfl⟩ := g1.sl
  skip
  have hal : Below w.heap.size w (w.alloc (.cells #[(.slice aa la ca)] 25)) := (Below.refl _ _).alloc (Nat.le_refl _) _
  have HA := Lib.hid (fun (W : World) (h : Below w.heap.size w W) => And.intro (g0.below h) (g1.below h))
  have HAL := Lib.hid hal
  have hck := r4wrong_any (fun _ => A) w.heap.size 0 1 1 (g0.below hal) (by decide) (by
    intro i hi
    obtain rfl : i = 0 := by omega
    exact ⟨_, World.cell?_alloc_at _ _ _ _ rfl, g1.below hal⟩
    
    
    )
  have hfit : (∀ i, i < 1 → (fun _ => A) i < 18446744073709551616 ^ 128) ↔ A < 18446744073709551616 ^ 128 := by
    exact ⟨fun h => h 0 (by decide), fun h i _ => h⟩
    
    
    
    
    
  rw [hfit] at hck
  have HCK := Lib.hid hck
  clear hck hfit g0 g1 hal
  go_enter Tryd.func20, Tryd.ntmps20
  go_wp2_with fail
  refine HCK.out.mono ?_
  rintro e w2 ⟨hb, hor⟩
  have HB := Lib.hid (HAL.out.trans (hb.mono HAL.out.size))
  clear hb
  rcases hor with ⟨hP, rfl⟩ | ⟨hP, hM, rfl⟩ | ⟨hP, hM, rfl⟩
  · have HP := Lib.hid hP
    clear hP
    go_wp2
    go_ret2
    exact MPost.none HB.out (.inl ⟨HP.out, rfl, rfl⟩)
  · have HP := Lib.hid (And.intro hP hM)
    clear hP hM
    go_wp2
    go_ret2
    exact MPost.none HB.out (.inr (.inl ⟨HP.out.1, HP.out.2, rfl, rfl⟩))
  · have HP := Lib.hid (And.intro hP hM)
    have HL := Lib.hid (lims_q hP.1 hP.1 hP.2)
    have HE : Hid (QEnv w.heap.size w2 [] ∧ Below w.heap.size w w2) := ⟨⟨HB.out.size, fun _ h => by cases h⟩, HB.out⟩
    clear hP hM
    go_wp2_with fail
    refine (q_form HE.out.1 (HA.out _ HE.out.2).1 HL.out.2.2.2.2.2).mono ?_
    rintro e w20 ⟨vr, rfl, hE, hb⟩
    have HE := Lib.hid (And.intro hE (HE.out.2.trans (hb.mono HE.out.2.size)))
    clear hE hb
    go_wp2_with fail
    refine (q_left HE.out.1 (HA.out _ HE.out.2).2 (HA.out _ HE.out.2).1 HP.out.2 HL.out.1).mono ?_
    rintro e w21 ⟨vq, rfl, hE, hb⟩
    have HE := Lib.hid (And.intro hE (HE.out.2.trans (hb.mono HE.out.2.size)))
    clear hE hb
    have HE := Lib.hid (And.intro HE.out.1.nil HE.out.2)
    go_wp2_with fail
    refine (q_left HE.out.1 (HE.out.1.raw (v := .slice none 0 0) (by repeat first | exact List.mem_cons_self | apply List.mem_cons_of_mem)) (HA.out _ HE.out.2).1 HP.out.2 (Nat.zero_lt_of_lt HL.out.1)).mono ?_
    rintro e w22 ⟨vs, rfl, hE, hb⟩
    have HE := Lib.hid (And.intro hE (HE.out.2.trans (hb.mono HE.out.2.size)))
    clear hE hb
    go_wp2_with fail
    refine (q_small 1 HE.out.1 (by decide)).mono ?_
    rintro e w23 ⟨v1, rfl, hE, hb⟩
    have HE := Lib.hid (And.intro hE (HE.out.2.trans (hb.mono HE.out.2.size)))
    clear hE hb
    go_wp2_with fail
    refine (q_left HE.out.1 (HE.out.1.raw (v := v1) (by repeat first | exact List.mem_cons_self | apply List.mem_cons_of_mem)) (HA.out _ HE.out.2).1 HP.out.2 (by decide +kernel)).mono ?_
    rintro e w24 ⟨vt, rfl, hE, hb⟩
    have HE := Lib.hid (And.intro hE (HE.out.2.trans (hb.mono HE.out.2.size)))
    clear hE hb
    have HE0 : Hid (QEnv w.heap.size w24 [(vr, M), (vq, A % M), (vs, 0), (vt, 1 % M)] ∧ Below w.heap.size w w24) := ⟨HE.out.1.sub (by rw [Nat.zero_mod]; simp), HE.out.2⟩
    clear HE
    obtain ⟨A', hA'⟩ : ∃ A', A % M = A' := ⟨_, rfl⟩
    rw [hA'] at HE0
    have HAM : Hid (A' < M ∧ A % M = A') := ⟨by rw [← hA']; exact Nat.mod_lt _ HP.out.2, hA'⟩
    clear hA'
    go_wp2
    go_loopg [7, 8, 9, 10] A' (fun gk v7 v8 v9 v10 wr => ∃ Ab Be aF bF : Nat, Be ≤ gk ∧ Hid (QEnv w.heap.size wr [(v7, Ab), (v8, Be), (v9, aF), (v10, bF)] ∧ Below w.heap.size w wr) ∧ Hid (Lv aF A' Ab M ∧ Lv bF A' Be M ∧ Nat.gcd Ab Be = Nat.gcd M A' ∧ aF < M ∧ bF < M ∧ Ab ≤ M ∧ Be < M ∧ 0 < Ab))
    case atStart =>
      exact ⟨M, A', 0, 1 % M, Nat.le_refl _, HE0.out, Lv.zero _ _, Lv.oneM _ _, rfl, HP.out.2, Nat.mod_lt _ HP.out.2, Nat.le_refl _, HAM.out.1, HP.out.2⟩
    case round =>
      clear HE0
      obtain ⟨Ab, Be, aF, bF, hgk, HE, HF⟩ := hrel
      obtain ⟨a8, k8, c8, rfl, h8⟩ := HE.out.1.opens (v := u8) (n := Be) (by repeat first | exact List.mem_cons_self | apply List.mem_cons_of_mem)
      by_cases h0 : k8 = 0
      · subst h0
        have HZ := Lib.hid (h8.1 rfl)
        clear h8 hgk
        go_wp2_with fail
        refine (q_length HE.out.1 (HE.out.1.raw (v := u7) (by repeat first | exact List.mem_cons_self | apply List.mem_cons_of_mem))).mono ?_
        rintro e wk ⟨q, rfl, hq, -, hE, hb⟩
        have HE := Lib.hid (And.intro hE (HE.out.2.trans (hb.mono HE.out.2.size)))
        clear hE hb
        have hg := HF.out.2.2.1
        rw [HZ.out, Nat.gcd_zero_right] at hg
        have HGG : Hid (Nat.gcd M A' = Nat.gcd M A) := by show _ = _; rw [← HAM.out.2, Nat.gcd_comm, ← Nat.gcd_rec]
        have hb1 := bits_one hq
        have hbz := bits_zero hq
        have hpos := HF.out.2.2.2.2.2.2.2
        by_cases hone : Ab = 1
        · have hq0 : q = 1 := by omega
          subst hq0
          have HG : Hid (Nat.gcd M A = 1) := by show _ = _; rw [← HGG.out, ← hg]; exact hone
          have HO := Lib.hid hone
          clear hg hb1 hbz hpos hone hq
          go_wp2_with fail
          refine (q_left HE.out.1 (HE.out.1.raw (v := u9) (by repeat first | exact List.mem_cons_self | apply List.mem_cons_of_mem)) (HA.out _ HE.out.2).1 HP.out.2 (Nat.lt_of_lt_of_le HF.out.2.2.2.1 (Nat.le_of_lt HL.out.2.2.2.2.2))).mono ?_
          rintro e w25 ⟨vz, rfl, hE, hb⟩
          rw [Nat.mod_eq_of_lt HF.out.2.2.2.1] at hE
          have HE := Lib.hid (And.intro hE (HE.out.2.trans (hb.mono HE.out.2.size)))
          clear hE hb
          go_wp2
          go_ret2
          refine MPost.of_q (v := vz) HE.out.2 HE.out.1 (by repeat first | exact List.mem_cons_self | apply List.mem_cons_of_mem) (fun zs h => .inr (.inr (.inr ⟨HP.out.1, HP.out.2, HG.out, rfl, aF, HF.out.2.2.2.1, ?_, h⟩)))
          have h1 := HF.out.1.mod
          rw [HO.out, ← HAM.out.2, Nat.mul_mod_mod] at h1
          exact h1
        · have hq1 : ((q : Int) != 1) = true := by
            have : q ≠ 1 := by omega
            simp; omega
          have HG : Hid (Nat.gcd M A ≠ 1) := by show _ ≠ _; rw [← HGG.out, ← hg]; exact hone
          clear hg hb1 hbz hpos hone hq
          go_wp2
          go_ret2
          exact MPost.none HE.out.2 (.inr (.inr (.inl ⟨HP.out.1, HP.out.2, HG.out, rfl, rfl⟩)))
      · have hqn : 0 < k8 := by omega
        have hq : decide (0 < k8) = true := by rw [decide_eq_true_iff]; exact hqn
        have hbe : 0 < Be := Nat.pos_of_ne_zero fun h => h0 (h8.2 h)
        have HBE := Lib.hid hbe
        have HGK := Lib.hid hgk
        clear h8 hgk h0 hbe
        go_wp2_with fail
        refine (q_over HE.out.1 (HE.out.1.raw (v := u7) (by repeat first | exact List.mem_cons_self | apply List.mem_cons_of_mem)) (HE.out.1.raw (v := .slice a8 k8 c8) (by repeat first | exact List.mem_cons_self | apply List.mem_cons_of_mem)) HBE.out (Nat.lt_of_le_of_lt HF.out.2.2.2.2.2.1 HL.out.2.2.2.2.2)).mono ?_
        rintro e wv ⟨vk, vrest, rfl, hE, hb⟩
        have HE := Lib.hid (And.intro hE (HE.out.2.trans (hb.mono HE.out.2.size)))
        clear hE hb
        go_wp2_with fail
        refine (q_plus HE.out.1 (HE.out.1.raw (v := u9) (by repeat first | exact List.mem_cons_self | apply List.mem_cons_of_mem)) (HA.out _ HE.out.2).1 (by have h1 := HF.out.2.2.2.1; have h2 := HL.out.2.2.2.1; omega)).mono ?_
        rintro e w26 ⟨p1, rfl, hE, hb⟩
        have HE := Lib.hid (And.intro hE (HE.out.2.trans (hb.mono HE.out.2.size)))
        clear hE hb
        go_wp2_with fail
        refine (q_times HE.out.1 (HE.out.1.raw (v := vk) (by repeat first | exact List.mem_cons_self | apply List.mem_cons_of_mem)) (HE.out.1.raw (v := u10) (by repeat first | exact List.mem_cons_self | apply List.mem_cons_of_mem)) (Nat.lt_of_le_of_lt (Nat.mul_le_mul (Nat.le_trans (Nat.div_le_self _ _) HF.out.2.2.2.2.2.1) (Nat.le_of_lt HF.out.2.2.2.2.1)) HL.out.2.2.2.2.1)).mono ?_
        rintro e w27 ⟨p2, rfl, hE, hb⟩
        have HE := Lib.hid (And.intro hE (HE.out.2.trans (hb.mono HE.out.2.size)))
        clear hE hb
        go_wp2_with fail
        refine (q_left HE.out.1 (HE.out.1.raw (v := p2) (by repeat first | exact List.mem_cons_self | apply List.mem_cons_of_mem)) (HA.out _ HE.out.2).1 HP.out.2 (Nat.lt_of_le_of_lt (Nat.mul_le_mul (Nat.le_trans (Nat.div_le_self _ _) HF.out.2.2.2.2.2.1) (Nat.le_of_lt HF.out.2.2.2.2.1)) HL.out.2.2.2.2.1)).mono ?_
        rintro e w28 ⟨p3, rfl, hE, hb⟩
        have HE := Lib.hid (And.intro hE (HE.out.2.trans (hb.mono HE.out.2.size)))
        clear hE hb
        go_wp2_with fail
        refine (q_minus HE.out.1 (HE.out.1.raw (v := p1) (by repeat first | exact List.mem_cons_self | apply List.mem_cons_of_mem)) (HE.out.1.raw (v := p3) (by repeat first | exact List.mem_cons_self | apply List.mem_cons_of_mem)) (by have h1 := Nat.mod_lt (Ab / Be * bF) HP.out.2; omega) (by have h1 := HF.out.2.2.2.1; have h2 := HL.out.2.2.2.1; omega)).mono ?_
        rintro e w29 ⟨p4, rfl, hE, hb⟩
        have HE := Lib.hid (And.intro hE (HE.out.2.trans (hb.mono HE.out.2.size)))
        clear hE hb
        go_wp2_with fail
        refine (q_left HE.out.1 (HE.out.1.raw (v := p4) (by repeat first | exact List.mem_cons_self | apply List.mem_cons_of_mem)) (HA.out _ HE.out.2).1 HP.out.2 (by have h1 := HF.out.2.2.2.1; have h2 := HL.out.2.2.2.1; omega)).mono ?_
        rintro e w30 ⟨p5, rfl, hE, hb⟩
        rw [mdiff_ref HF.out.2.2.2.1 (Nat.mod_lt _ HP.out.2)] at hE
        have HE := Lib.hid (And.intro hE (HE.out.2.trans (hb.mono HE.out.2.size)))
        clear hE hb
        go_wp2
        go_roundg (Ab % Be)
        case rel =>
          obtain ⟨f1, f2, f3, f4, f5, f6, f7, f8⟩ := HF.out
          have hbe := HBE.out
          refine ⟨Be, Ab % Be, bF, mdiff aF (Ab / Be * bF % M) M, Nat.le_refl _, ⟨HE.out.1.sub ?_, HE.out.2⟩, f2, f1.step f2 (by rw [Nat.mul_comm]; exact (Nat.div_add_mod ..).symm) f4, ?_, f5, mdiff_lt f4 (Nat.mod_lt _ (by omega)), Nat.le_of_lt f7, Nat.lt_trans (Nat.mod_lt _ hbe) f7, hbe⟩
          · simp
          · rw [← f3, Nat.gcd_comm, ← Nat.gcd_rec, Nat.gcd_comm]
        case measure =>
          have h1 := Nat.mod_lt Ab HBE.out
          have h2 := HGK.out
          omega
end Go.Proofs.YticncpeeeiobfaaDoor
