import Derived.Test.YtfjhmnbbjknflaaGreatDoorKom
import Derived.Test.YtfjhmnbbjknflaaGreatDoorRc
import Derived.Test.YtfjhmnbbjknflaaGreatDoorRe
namespace Go.Proofs.YtfjhmnbbjknflaaGreatDoor
open Go.RowKit

/-- A list that can be read, told by its worth. -/
def Raw (w : World) (v : Value) (n : Nat) : Prop := ∃ a c zs, v = .slice a zs.length c ∧ zs.length ≤ c ∧ (a = none → c = 0) ∧ Rd .u64 w a zs ∧ Bd zs ∧ val zs = n ∧ zs.length ≤ 1000
theorem Raw.below {w w' : World} {v : Value} {n : Nat} (h : Raw w v n) (hb : Below w.heap.size w w') : Raw w' v n := by
  obtain ⟨a, c, zs, h1, h2, h3, h4, h5⟩ := h
  exact ⟨a, c, zs, h1, h2, h3, h4.below hb, h5⟩
theorem Raw.sl {w : World} {v : Value} {n : Nat} (h : Raw w v n) : ∃ a k c, v = .slice a k c := by
  obtain ⟨a, c, zs, rfl, _⟩ := h
  exact ⟨a, _, c, rfl⟩
theorem fl_iff {zs : List Nat} {k : Nat} (h : Bd zs) : fl zs ≤ k ↔ val zs < 18446744073709551616 ^ k := by
  have h1 := (num_fm h).len_le (k := k)
  rw [fm_length] at h1
  exact h1
theorem raw_of_own {w : World} {B n : Nat} {v : Value} {zs : List Nat} (ho : own64 w B v zs) (hN : Num zs n) (hn : n < 18446744073709551616 ^ 1000) : Raw w v n := by
  obtain ⟨a, c, rfl, _⟩ := own64.form ho
  exact ⟨a, c, zs, rfl, (own64.room ho).1, (own64.room ho).2, (own64.rd ho).2, hN.bd, hN.vl, (hN.len_le (k := 1000)).2 hn⟩
/-- A list and an error's number. -/
def MPost (Q : Int → List Nat → Prop) (w : World) (e : Ending) (w' : World) : Prop :=
  Below w.heap.size w w' ∧ ∃ a c k zs, e = .returned (.tuple #[.slice a zs.length c, .int .i64 k]) ∧ own64 w' w.heap.size (.slice a zs.length c) zs ∧ Q k zs
theorem MPost.none {Q : Int → List Nat → Prop} {w w' : World} {k : Int} (hb : Below w.heap.size w w') (hQ : Q k []) : MPost Q w (.returned (.tuple #[.slice none 0 0, .int .i64 k])) w' :=
  ⟨hb, Option.none, 0, k, [], rfl, own64_nil _ _, hQ⟩
theorem bits_fits {n k m : Nat} (h : BitsIs n k) : k ≤ 64 * m ↔ n < 18446744073709551616 ^ m := by
  rw [show (18446744073709551616 : Nat) = 2 ^ 64 by decide, ← Nat.pow_mul]
  rcases h with ⟨h1, h2⟩ | ⟨h0, h1, h2⟩
  · have := Nat.two_pow_pos (64 * m); omega
  · constructor
    · intro h; exact Nat.lt_of_lt_of_le h2 (Nat.pow_le_pow_right (by decide) h)
    · intro h
      have := (Nat.pow_lt_pow_iff_right (by decide : 1 < 2)).1 (Nat.lt_of_le_of_lt h1 h)
      omega
theorem bits_zero {n k : Nat} (h : BitsIs n k) : k = 0 ↔ n = 0 := by
  rcases h with ⟨h1, h2⟩ | ⟨h0, h1, h2⟩
  · omega
  · have := Nat.two_pow_pos (k - 1); omega
/-- Numbers in their form that the call made. -/
def QEnv (B : Nat) (w : World) (L : List (Value × Nat)) : Prop := B ≤ w.heap.size ∧ ∀ p ∈ L, ∃ zs, own64 w B p.1 zs ∧ Num zs p.2 ∧ p.2 < 18446744073709551616 ^ 1000
theorem QEnv.below {B : Nat} {w w' : World} {L : List (Value × Nat)} (h : QEnv B w L) (hb : Below w.heap.size w w') : QEnv B w' L :=
  ⟨Nat.le_trans h.1 hb.size, fun p hp => by
    obtain ⟨zs, h1, h2⟩ := h.2 p hp
    exact ⟨zs, own64.keep h1 hb, h2⟩⟩
theorem QEnv.raw {B : Nat} {w : World} {L : List (Value × Nat)} {v : Value} {n : Nat} (h : QEnv B w L) (hm : (v, n) ∈ L) : Raw w v n := by
  obtain ⟨zs, h1, h2, h3⟩ := h.2 _ hm
  exact raw_of_own h1 h2 h3
theorem QEnv.add {B : Nat} {w w' : World} {L : List (Value × Nat)} {v : Value} {n : Nat} {zs : List Nat} (h : QEnv B w L) (hb : Below w.heap.size w w') (ho : own64 w' w.heap.size v zs) (hN : Num zs n) (hn : n < 18446744073709551616 ^ 1000) : QEnv B w' ((v, n) :: L) :=
  ⟨Nat.le_trans h.1 hb.size, fun p hp => by
    rcases List.mem_cons.1 hp with rfl | hp
    · exact ⟨zs, owns_base ho h.1, hN, hn⟩
    · exact (h.below hb).2 p hp⟩
theorem QEnv.sub {B : Nat} {w : World} {L L' : List (Value × Nat)} (h : QEnv B w L) (hs : ∀ p ∈ L', p ∈ L) : QEnv B w L' := ⟨h.1, fun p hp => h.2 p (hs p hp)⟩
set_option exponentiation.threshold 100000 in
theorem QEnv.nil {B : Nat} {w : World} {L : List (Value × Nat)} (h : QEnv B w L) : QEnv B w ((.slice none 0 0, 0) :: L) :=
  ⟨h.1, fun p hp => by
    rcases List.mem_cons.1 hp with rfl | hp
    · exact ⟨[], own64_nil _ _, Num.nil, Nat.pow_pos (by decide)⟩
    · exact h.2 p hp⟩
theorem QEnv.opens {B : Nat} {w : World} {L : List (Value × Nat)} {v : Value} {n : Nat} (h : QEnv B w L) (hm : (v, n) ∈ L) : ∃ a k c, v = .slice a k c ∧ (k = 0 ↔ n = 0) := by
  obtain ⟨zs, h1, h2, h3⟩ := h.2 _ hm
  obtain ⟨a, c, rfl, _⟩ := own64.form h1
  refine ⟨a, _, c, rfl, ?_⟩
  have h1 := h2.len_le (k := 0)
  rw [Nat.pow_zero] at h1
  omega
theorem MPost.of_q {Q : Int → List Nat → Prop} {w w' : World} {L : List (Value × Nat)} {v : Value} {n : Nat} {k : Int} (hb : Below w.heap.size w w') (hE : QEnv w.heap.size w' L) (hm : (v, n) ∈ L) (hQ : ∀ zs, Num zs n → Q k zs) : MPost Q w (.returned (.tuple #[v, .int .i64 k])) w' := by
  obtain ⟨zs, ho, hN, _⟩ := hE.2 _ hm
  obtain ⟨a, c, rfl, _⟩ := own64.form ho
  exact ⟨hb, a, c, k, zs, rfl, ho, hQ _ hN⟩
/-- What a call answers that tells a number. -/
def QPost (B : Nat) (L : List (Value × Nat)) (n : Nat) (w : World) (e : Ending) (w' : World) : Prop := ∃ v, e = .returned v ∧ QEnv B w' ((v, n) :: L) ∧ Below w.heap.size w w'
theorem q_plus {B : Nat} {w : World} {L : List (Value × Nat)} {va vb : Value} {A C : Nat} (hE : QEnv B w L) (h1 : Raw w va A) (h2 : Raw w vb C)  (hl : A + C < 18446744073709551616 ^ 1000) :
    Calls Tryz.prog 96 #[va, vb] w (QPost B L (A + C) w) := by
  obtain ⟨a, ca, xs, rfl, _, _, hr1, hb1, rfl, hl1⟩ := h1
  obtain ⟨b, cb, ys, rfl, _, _, hr2, hb2, rfl, hl2⟩ := h2
  refine (rplus_any a b _ ca _ cb xs ys w rfl rfl (Nat.le_trans hl1 (by decide)) (Nat.le_trans hl2 (by decide)) hr1 hr2 hb1 hb2).mono ?_
  rintro e w' ⟨v, zs, rfl, ho, hN, hb⟩
  exact ⟨v, rfl, hE.add hb ho hN hl, hb⟩
theorem q_times {B : Nat} {w : World} {L : List (Value × Nat)} {va vb : Value} {A C : Nat} (hE : QEnv B w L) (h1 : Raw w va A) (h2 : Raw w vb C)  (hl : A * C < 18446744073709551616 ^ 1000) :
    Calls Tryz.prog 98 #[va, vb] w (QPost B L (A * C) w) := by
  obtain ⟨a, ca, xs, rfl, _, _, hr1, hb1, rfl, hl1⟩ := h1
  obtain ⟨b, cb, ys, rfl, _, _, hr2, hb2, rfl, hl2⟩ := h2
  refine (rtimes_any a b _ _ ca cb xs ys w rfl rfl (Nat.le_trans hl1 (by decide)) (Nat.le_trans hl2 (by decide)) hr1 hr2 hb1 hb2).mono ?_
  rintro e w' ⟨v, zs, rfl, ho, hN, hb⟩
  exact ⟨v, rfl, hE.add hb ho hN hl, hb⟩
theorem q_minus {B : Nat} {w : World} {L : List (Value × Nat)} {va vb : Value} {A C : Nat} (hE : QEnv B w L) (h1 : Raw w va A) (h2 : Raw w vb C) (hle : C ≤ A) (hl : A - C < 18446744073709551616 ^ 1000) :
    Calls Tryz.prog 97 #[va, vb] w (QPost B L (A - C) w) := by
  obtain ⟨a, ca, xs, rfl, _, _, hr1, hb1, rfl, hl1⟩ := h1
  obtain ⟨b, cb, ys, rfl, _, _, hr2, hb2, rfl, hl2⟩ := h2
  refine (rminusW_any a b _ ca _ cb xs ys w rfl rfl (Nat.le_trans hl1 (by decide)) (Nat.le_trans hl2 (by decide)) hr1 hr2 hb1 hb2 hle).mono ?_
  rintro e w' ⟨v, zs, rfl, ho, hN, hb⟩
  exact ⟨v, rfl, hE.add hb ho hN hl, hb⟩
theorem q_form {B : Nat} {w : World} {L : List (Value × Nat)} {va : Value} {A : Nat} (hE : QEnv B w L) (h1 : Raw w va A) (hl : A < 18446744073709551616 ^ 1000) :
    Calls Tryz.prog 75 #[va] w (QPost B L A w) := by
  obtain ⟨a, ca, xs, rfl, _, _, hr1, hb1, rfl, hl1⟩ := h1
  refine (rform_any a _ ca xs w rfl (Nat.le_trans hl1 (by decide)) hr1 hb1).mono ?_
  rintro e w' ⟨v, zs, rfl, ho, hN, hb⟩
  exact ⟨v, rfl, hE.add hb ho hN hl, hb⟩
set_option exponentiation.threshold 100000 in
theorem q_length {B : Nat} {w : World} {L : List (Value × Nat)} {va : Value} {A : Nat} (hE : QEnv B w L) (h1 : Raw w va A) :
    Calls Tryz.prog 61 #[va] w fun e w' => ∃ k : Nat, e = .returned (.int .i64 (k : Nat)) ∧ BitsIs A k ∧ k ≤ 64000 ∧ QEnv B w' L ∧ Below w.heap.size w w' := by
  obtain ⟨a, ca, xs, rfl, _, _, hr1, hb1, rfl, hl1⟩ := h1
  refine (rlength_any a _ ca xs w rfl (Nat.le_trans hl1 (by decide)) hr1 hb1).mono ?_
  rintro e w' ⟨k, rfl, hk, hb⟩
  have h2 := (bits_fits (m := 1000) hk).2 (Nat.lt_of_lt_of_le (val_lt hb1) (Nat.pow_le_pow_right (by decide) hl1))
  exact ⟨k, rfl, hk, by omega, hE.below hb, hb⟩
theorem q_over {B : Nat} {w : World} {L : List (Value × Nat)} {va vb : Value} {A C : Nat} (hE : QEnv B w L) (h1 : Raw w va A) (h2 : Raw w vb C) (h0 : 0 < C) (hl : A < 18446744073709551616 ^ 1000) :
    Calls Tryz.prog 76 #[va, vb] w fun e w' => ∃ q r, e = .returned (.tuple #[q, r]) ∧ QEnv B w' ((q, A / C) :: (r, A % C) :: L) ∧ Below w.heap.size w w' := by
  obtain ⟨a, ca, xs, rfl, _, _, hr1, hb1, rfl, hl1⟩ := h1
  obtain ⟨b, cb, ys, rfl, _, _, hr2, hb2, rfl, hl2⟩ := h2
  refine (rover_any a b _ _ ca cb xs ys w rfl rfl (Nat.le_trans hl1 (by decide)) (Nat.le_trans hl2 (by decide)) hr1 hr2 hb1 hb2 h0).mono ?_
  rintro e w' ⟨q, r, qs, rs, rfl, oq, or, nq, nr, hb⟩
  have hr := hE.add hb or nr (Nat.lt_of_le_of_lt (Nat.mod_le _ _) hl)
  refine ⟨q, r, rfl, ⟨hr.1, fun p hp => ?_⟩, hb⟩
  rcases List.mem_cons.1 hp with rfl | hp
  · exact ⟨qs, owns_base oq hE.1, nq, Nat.lt_of_le_of_lt (Nat.div_le_self _ _) hl⟩
  · exact hr.2 p hp
set_option exponentiation.threshold 100000 in
theorem lims_z {A C : Nat} (hA : A < 18446744073709551616 ^ 400) (hC : C < 18446744073709551616 ^ 400) : A < 18446744073709551616 ^ 1000 ∧ A + C < 18446744073709551616 ^ 1000 ∧ A * C < 18446744073709551616 ^ 1000 := by
  have k1 : A * C ≤ 18446744073709551616 ^ 400 * 18446744073709551616 ^ 400 := Nat.mul_le_mul (Nat.le_of_lt hA) (Nat.le_of_lt hC)
  rw [← Nat.pow_add] at k1
  have p1 : (18446744073709551616 : Nat) ^ 400 * 4 ≤ 18446744073709551616 ^ 1000 := by decide +kernel
  have p2 : (18446744073709551616 : Nat) ^ (400 + 400) < 18446744073709551616 ^ 1000 := by decide +kernel
  generalize A * C = ac at *
  generalize (18446744073709551616 : Nat) ^ 400 = m400 at *
  generalize (18446744073709551616 : Nat) ^ (400 + 400) = m800 at *
  generalize (18446744073709551616 : Nat) ^ 1000 = m at *
  refine ⟨by omega, by omega, by omega⟩
set_option maxHeartbeats 1000000 in
theorem z_fits {w : World} {va : Value} {A : Nat} (h1 : Raw w va A) (hl : A < 18446744073709551616 ^ 1000) :
    Calls Tryz.prog 95 #[va] w fun e w' => e = .returned (.bool (decide (A < 18446744073709551616 ^ 128))) ∧ Below w.heap.size w w' := by
  have HE : Hid (QEnv w.heap.size w []) := ⟨Nat.le_refl _, fun _ h => by cases h⟩
  have HC := Lib.hid (q_form HE.out h1 hl)
  clear h1 hl
  go_enter Tryz.func95, Tryz.ntmps95
  go_wp2_with fail
  refine HC.out.mono ?_
  rintro e w2 ⟨u, rfl, hE, hb⟩
  obtain ⟨zs, ho, hN, -⟩ := hE.2 (u, A) List.mem_cons_self
  obtain ⟨au, cu, hu, -⟩ := own64.form ho
  have hu : u = .slice au zs.length cu := hu
  subst hu
  have hlen := hN.len_le (k := 128)
  have HB := Lib.hid hb
  clear ho hN hE hb
  generalize zs.length = lz at *
  by_cases hbig : lz ≤ 128
  · have hq : decide ((lz : Int) ≤ 128) = true := by rw [decide_eq_true_iff]; omega
    have HD : Hid (decide (A < 18446744073709551616 ^ 128) = true) := decide_eq_true (hlen.1 hbig)
    clear hlen hbig
    go_wp2
    go_ret
    exact ⟨by rw [HD.out]; rfl, HB.out⟩
  · have hq : decide ((lz : Int) ≤ 128) = false := by rw [decide_eq_false_iff_not]; omega
    have HD : Hid (decide (A < 18446744073709551616 ^ 128) = false) := decide_eq_false fun h => hbig (hlen.2 h)
    clear hlen hbig
    go_wp2
    go_ret
    exact ⟨by rw [HD.out]; rfl, HB.out⟩
/-- What a call that adds and the like tells. -/
def ZTells (P : Prop) (n : Nat) (k : Int) (zs : List Nat) : Prop := (¬ (P ∧ n < 18446744073709551616 ^ 128) ∧ k = 3 ∧ zs = []) ∨ (P ∧ n < 18446744073709551616 ^ 128 ∧ k = 0 ∧ Num zs n)
theorem ZTells.one {P : Prop} {n : Nat} {k k' : Int} {zs zs' : List Nat} (h : ZTells P n k zs) (h' : ZTells P n k' zs') : k = k' ∧ zs = zs' := by
  rcases h with ⟨p, rfl, rfl⟩ | ⟨p, q, rfl, t⟩ <;> rcases h' with ⟨p', rfl, rfl⟩ | ⟨p', q', rfl, t'⟩
  · exact ⟨rfl, rfl⟩
  · exact absurd ⟨p', q'⟩ p
  · exact absurd ⟨p, q⟩ p'
  · exact ⟨rfl, t.unique t'⟩
set_option maxHeartbeats 1000000 in
theorem z_told {w : World} {va : Value} {A : Nat} (h1 : Raw w va A) (hl : A < 18446744073709551616 ^ 1000) :
    Calls Tryz.prog 94 #[va] w (MPost (ZTells True A) w) := by
  have HX := Lib.hid (fun (W : World) (h : Below w.heap.size w W) => h1.below h)
  have HC := Lib.hid (z_fits h1 hl)
  have HL := Lib.hid hl
  clear h1 hl
  go_enter Tryz.func94, Tryz.ntmps94
  go_wp2_with fail
  refine HC.out.mono ?_
  rintro e w2 ⟨rfl, hb⟩
  have HB := Lib.hid hb
  clear hb
  by_cases h : A < 18446744073709551616 ^ 128
  · rw [decide_eq_true h]
    have HF := Lib.hid h
    clear h
    have HE : Hid (QEnv w.heap.size w2 []) := ⟨HB.out.size, fun _ h => by cases h⟩
    go_wp2_with fail
    refine (q_form HE.out (HX.out _ HB.out) HL.out).mono ?_
    rintro e w3 ⟨u, rfl, hE, hb⟩
    have HQ := Lib.hid hE
    have HB3 := Lib.hid (HB.out.trans (hb.mono HB.out.size))
    clear hE hb
    go_wp2
    go_ret2
    exact MPost.of_q (v := u) HB3.out HQ.out List.mem_cons_self (fun zs h => .inr ⟨trivial, HF.out, rfl, h⟩)
  · rw [decide_eq_false h]
    have HF := Lib.hid h
    clear h
    go_wp2
    go_ret2
    exact MPost.none HB.out (.inl ⟨fun h => HF.out h.2, rfl, rfl⟩)
theorem MPost.base {Q : Int → List Nat → Prop} {w0 w w' : World} {e : Ending} (h : MPost Q w e w') (hb : Below w0.heap.size w0 w) : MPost Q w0 e w' := by
  obtain ⟨h0, a, c, k, zs, he, ho, hQ⟩ := h
  exact ⟨hb.trans (h0.mono hb.size), a, c, k, zs, he, owns_base ho hb.size, hQ⟩
theorem MPost.weak {Q Q' : Int → List Nat → Prop} {w w' : World} {e : Ending} (h : MPost Q w e w') (hq : ∀ k zs, Q k zs → Q' k zs) : MPost Q' w e w' := by
  obtain ⟨h0, a, c, k, zs, he, ho, hQ⟩ := h
  exact ⟨h0, a, c, k, zs, he, ho, hq _ _ hQ⟩
theorem MPost.shape {Q : Int → List Nat → Prop} {w w' : World} {e : Ending} (h : MPost Q w e w') : ∃ a l c k, e = .returned (.tuple #[.slice a l c, .int .i64 k]) := by
  obtain ⟨_, a, c, k, zs, he, _, _⟩ := h
  exact ⟨a, _, c, k, he⟩
theorem z_norm {w : World} {va : Value} {A : Nat} (h1 : Raw w va A) (hl : A < 18446744073709551616 ^ 1000) :
    Calls Tryz.prog 50 #[va] w (MPost (ZTells True A) w) := by
  have HC := Lib.hid (z_told h1 hl)
  clear h1 hl
  go_enter Tryz.func50, Tryz.ntmps50
  go_wp2_with fail
  refine HC.out.mono ?_
  intro e w2 hp
  obtain ⟨a, l, c, k, rfl⟩ := hp.shape
  have HP := Lib.hid hp
  clear hp
  go_wp2
  go_ret2
  exact HP.out
set_option maxHeartbeats 2000000 in
theorem z_add {w : World} {va vb : Value} {A C : Nat} (h1 : Raw w va A) (h2 : Raw w vb C) (hA : A < 18446744073709551616 ^ 400) (hC : C < 18446744073709551616 ^ 400) :
    Calls Tryz.prog 51 #[va, vb] w (MPost (ZTells (A < 18446744073709551616 ^ 128 ∧ C < 18446744073709551616 ^ 128) (A + C)) w) := by
  have HX := Lib.hid (fun (W : World) (h : Below w.heap.size w W) => And.intro (h1.below h) (h2.below h))
  have HL := Lib.hid (lims_z hA hC)
  have HC2 : Hid (C < 18446744073709551616 ^ 1000) := (lims_z hC hA).1
  have HB0 := Lib.hid (Below.refl w.heap.size w)
  clear h1 h2 hA hC
  go_enter Tryz.func51, Tryz.ntmps51
  go_wp2_with fail
  refine (z_fits (HX.out _ HB0.out).1 HL.out.1).mono ?_
  rintro e w2 ⟨rfl, hb⟩
  have HB := Lib.hid hb
  clear hb
  by_cases hA : A < 18446744073709551616 ^ 128
  · rw [decide_eq_true hA]
    have HFA := Lib.hid hA
    clear hA
    go_wp2_with fail
    refine (z_fits (HX.out _ HB.out).2 HC2.out).mono ?_
    rintro e w3 ⟨rfl, hb⟩
    have HB := Lib.hid (HB.out.trans (hb.mono HB.out.size))
    clear hb
    by_cases hC : C < 18446744073709551616 ^ 128
    · rw [decide_eq_true hC]
      have HFC := Lib.hid hC
      clear hC
      have HE : Hid (QEnv w.heap.size w3 []) := ⟨HB.out.size, fun _ h => by cases h⟩
      go_wp2_with fail
      refine (q_plus HE.out (HX.out _ HB.out).1 (HX.out _ HB.out).2 HL.out.2.1).mono ?_
      rintro e w4 ⟨u, rfl, hE, hb⟩
      have HQ := Lib.hid hE
      have HB4 := Lib.hid (HB.out.trans (hb.mono HB.out.size))
      clear hE hb
      go_wp2_with fail
      refine (z_told (HQ.out.raw (v := u) List.mem_cons_self) HL.out.2.1).mono ?_
      intro e w5 hp
      obtain ⟨a, l, c, k, rfl⟩ := hp.shape
      have HP := Lib.hid ((hp.base HB4.out).weak (Q' := ZTells (A < 18446744073709551616 ^ 128 ∧ C < 18446744073709551616 ^ 128) (A + C)) (by
        rintro k zs (⟨h, h1, h2⟩ | ⟨_, h, h1, h2⟩)
        · exact .inl ⟨fun g => h ⟨trivial, g.2⟩, h1, h2⟩
        · exact .inr ⟨⟨HFA.out, HFC.out⟩, h, h1, h2⟩))
      clear hp
      go_wp2
      go_ret2
      exact HP.out
    · rw [decide_eq_false hC]
      have HFC := Lib.hid hC
      clear hC
      go_wp2
      go_ret2
      exact MPost.none HB.out (.inl ⟨fun h => HFC.out h.1.2, rfl, rfl⟩)
  · rw [decide_eq_false hA]
    have HFA := Lib.hid hA
    clear hA
    go_wp2
    go_ret2
    exact MPost.none HB.out (.inl ⟨fun h => HFA.out h.1.1, rfl, rfl⟩)
set_option maxHeartbeats 2000000 in
theorem z_mul {w : World} {va vb : Value} {A C : Nat} (h1 : Raw w va A) (h2 : Raw w vb C) (hA : A < 18446744073709551616 ^ 400) (hC : C < 18446744073709551616 ^ 400) :
    Calls Tryz.prog 53 #[va, vb] w (MPost (ZTells (A < 18446744073709551616 ^ 128 ∧ C < 18446744073709551616 ^ 128) (A * C)) w) := by
  have HX := Lib.hid (fun (W : World) (h : Below w.heap.size w W) => And.intro (h1.below h) (h2.below h))
  have HL := Lib.hid (lims_z hA hC)
  have HC2 : Hid (C < 18446744073709551616 ^ 1000) := (lims_z hC hA).1
  have HB0 := Lib.hid (Below.refl w.heap.size w)
  clear h1 h2 hA hC
  go_enter Tryz.func53, Tryz.ntmps53
  go_wp2_with fail
  refine (z_fits (HX.out _ HB0.out).1 HL.out.1).mono ?_
  rintro e w2 ⟨rfl, hb⟩
  have HB := Lib.hid hb
  clear hb
  by_cases hA : A < 18446744073709551616 ^ 128
  · rw [decide_eq_true hA]
    have HFA := Lib.hid hA
    clear hA
    go_wp2_with fail
    refine (z_fits (HX.out _ HB.out).2 HC2.out).mono ?_
    rintro e w3 ⟨rfl, hb⟩
    have HB := Lib.hid (HB.out.trans (hb.mono HB.out.size))
    clear hb
    by_cases hC : C < 18446744073709551616 ^ 128
    · rw [decide_eq_true hC]
      have HFC := Lib.hid hC
      clear hC
      have HE : Hid (QEnv w.heap.size w3 []) := ⟨HB.out.size, fun _ h => by cases h⟩
      go_wp2_with fail
      refine (q_times HE.out (HX.out _ HB.out).1 (HX.out _ HB.out).2 HL.out.2.2).mono ?_
      rintro e w4 ⟨u, rfl, hE, hb⟩
      have HQ := Lib.hid hE
      have HB4 := Lib.hid (HB.out.trans (hb.mono HB.out.size))
      clear hE hb
      go_wp2_with fail
      refine (z_told (HQ.out.raw (v := u) List.mem_cons_self) HL.out.2.2).mono ?_
      intro e w5 hp
      obtain ⟨a, l, c, k, rfl⟩ := hp.shape
      have HP := Lib.hid ((hp.base HB4.out).weak (Q' := ZTells (A < 18446744073709551616 ^ 128 ∧ C < 18446744073709551616 ^ 128) (A * C)) (by
        rintro k zs (⟨h, h1, h2⟩ | ⟨_, h, h1, h2⟩)
        · exact .inl ⟨fun g => h ⟨trivial, g.2⟩, h1, h2⟩
        · exact .inr ⟨⟨HFA.out, HFC.out⟩, h, h1, h2⟩))
      clear hp
      go_wp2
      go_ret2
      exact HP.out
    · rw [decide_eq_false hC]
      have HFC := Lib.hid hC
      clear hC
      go_wp2
      go_ret2
      exact MPost.none HB.out (.inl ⟨fun h => HFC.out h.1.2, rfl, rfl⟩)
  · rw [decide_eq_false hA]
    have HFA := Lib.hid hA
    clear hA
    go_wp2
    go_ret2
    exact MPost.none HB.out (.inl ⟨fun h => HFA.out h.1.1, rfl, rfl⟩)
end Go.Proofs.YtfjhmnbbjknflaaGreatDoor
