import Derived.Test.YteanpdiceaijhaaDoorKom
import Derived.Test.YteanpdiceaijhaaDoorSink
namespace Go.Proofs.YteanpdiceaijhaaDoor
open Go.RowKit

theorem n_div {B : Nat} {w : World} {L : List (Value × Nat × Bool)} {v1 v2 : Value} {n1 n2 : Nat} {k1 k2 : Bool} (hE : NEnv B w L) (h1 : (v1, n1, k1) ∈ L) (h2 : (v2, n2, k2) ∈ L) (h0 : 0 < n2) :
    Calls Tryd.prog 32 #[v1, v2] w fun e w' => ∃ q r, e = .returned (.tuple #[q, r, .int .i64 0]) ∧ NEnv B w' ((q, n1 / n2, true) :: (r, n1 % n2, true) :: L) ∧ Below w.heap.size w w' := by
  have hn1 := (hE.get h1).lt
  obtain ⟨a, ca, xs, rfl, ho1, hb1, rfl, hl1, -⟩ := hE.get h1
  obtain ⟨b, cb, ys, rfl, ho2, hb2, rfl, hl2, -⟩ := hE.get h2
  refine (quo_all a b _ _ ca cb xs ys w rfl rfl (by omega) (by omega) (own64.room ho1).1 (own64.room ho2).1 (own64.room ho1).2 (own64.rd ho1).2 (own64.rd ho2).2 hb1 hb2).mono ?_
  rintro e w' ⟨hb, hor⟩
  have f1 := fl_le_128 hl1
  have f2 := fl_le_128 hl2
  rcases hor with ⟨h, _⟩ | ⟨_, _, h, _⟩ | ⟨_, _, _, q, r, qs, rs, rfl, oq, or, nq, nr, _⟩
  · omega
  · omega
  · have hr := hE.add hb (isn_of_num (own64.low or hE.1) nr (Nat.lt_of_le_of_lt (Nat.mod_le _ _) hn1))
    refine ⟨q, r, rfl, ⟨hr.1, fun p hp => ?_⟩, hb⟩
    rcases List.mem_cons.1 hp with rfl | hp
    · exact isn_of_num (own64.low oq hE.1) nq (Nat.lt_of_le_of_lt (Nat.div_le_self _ _) hn1)
    · exact hr.2 p hp
theorem n_div0 {B : Nat} {w : World} {L : List (Value × Nat × Bool)} {v1 v2 : Value} {n1 n2 : Nat} {k1 k2 : Bool} (hE : NEnv B w L) (h1 : (v1, n1, k1) ∈ L) (h2 : (v2, n2, k2) ∈ L) (h0 : n2 = 0) :
    Calls Tryd.prog 32 #[v1, v2] w fun e w' => e = .returned (.tuple #[.slice none 0 0, .slice none 0 0, .int .i64 11]) ∧ NEnv B w' L ∧ Below w.heap.size w w' := by
  obtain ⟨a, ca, xs, rfl, ho1, hb1, rfl, hl1, -⟩ := hE.get h1
  obtain ⟨b, cb, ys, rfl, ho2, hb2, rfl, hl2, -⟩ := hE.get h2
  refine (quo_all a b _ _ ca cb xs ys w rfl rfl (by omega) (by omega) (own64.room ho1).1 (own64.room ho2).1 (own64.room ho1).2 (own64.rd ho1).2 (own64.rd ho2).2 hb1 hb2).mono ?_
  rintro e w' ⟨hb, hor⟩
  have f1 := fl_le_128 hl1
  have f2 := fl_le_128 hl2
  rcases hor with ⟨h, _⟩ | ⟨_, _, h, rfl⟩ | ⟨_, _, h, _⟩
  · omega
  · exact ⟨rfl, hE.below hb, hb⟩
  · omega
theorem n_bits {B : Nat} {w : World} {L : List (Value × Nat × Bool)} {v1 : Value} {n1 : Nat} {k1 : Bool} (hE : NEnv B w L) (h1 : (v1, n1, k1) ∈ L) :
    Calls Tryd.prog 33 #[v1] w fun e w' => ∃ k : Nat, e = .returned (.int .i64 (k : Nat)) ∧ (k = 0 ↔ n1 = 0) ∧ k ≤ 8192 ∧ w = w' := by
  obtain ⟨a, ca, xs, rfl, ho1, hb1, rfl, hl1, -⟩ := hE.get h1
  refine (bits_any a _ ca xs w rfl (by omega) (own64.room ho1).1 (own64.rd ho1).2 hb1).mono ?_
  rintro e w' ⟨⟨k, rfl, hk, hk2⟩, rfl⟩
  have f1 := fl_le_128 hl1
  refine ⟨k, rfl, ?_, by omega, rfl⟩
  rcases hk with ⟨h, h'⟩ | ⟨h, h', _⟩
  · omega
  · have := Nat.two_pow_pos (k - 1)
    omega
theorem n_zero {B : Nat} {w : World} {L : List (Value × Nat × Bool)} {v : Value} {n : Nat} (hE : NEnv B w L) (h1 : (v, n, true) ∈ L) (h0 : n = 0) : ∃ a c, v = .slice a 0 c := by
  subst h0
  obtain ⟨a, c, zs, rfl, _, _, _, _, hN⟩ := hE.get h1
  have := (hN rfl).unique Num.nil
  subst this
  exact ⟨a, c, rfl⟩

set_option maxHeartbeats 8000000 in
set_option maxRecDepth 100000 in
theorem nparts_any (a1 a2 : Option Addr) (l1 c1 l2 c2 : Nat) (xs1 xs2 : List Nat) (w : World) (hl1 : xs1.length = l1) (hb1 : l1 ≤ 9223372036854775807) (hr1 : Rd .u64 w a1 xs1) (bx1 : Bd xs1) (hl2 : xs2.length = l2) (hb2 : l2 ≤ 9223372036854775807) (hr2 : Rd .u64 w a2 xs2) (bx2 : Bd xs2) (hT : Trig w) (hZ : Tz w) :
    Calls Tryd.prog 5 #[.slice a1 l1 c1, .slice a2 l2 c2] w fun e w' => e = .returned (.bool true) ∧ Below w.heap.size w w' := by
  have HT := Lib.hid (fun (W : World) (h : Below w.heap.size w W) => hT.below h)
  have HZZ := Lib.hid (fun (W : World) (h : Below w.heap.size w W) => hZ.below h)
  have HS1 := Lib.hid (fun (W : World) (h : Below w.heap.size w W) => nsome_any a1 l1 c1 128 xs1 W hl1 hb1 (by decide) (hr1.below h) bx1)
  have HS2 := Lib.hid (fun (W : World) (h : Below w.heap.size w W) => nsome_any a2 l2 c2 128 xs2 W hl2 hb2 (by decide) (hr2.below h) bx2)
  have HLA := Lib.hid (val_take_lt bx1 128)
  clear hT hZ hl1 hb1 hr1 bx1 hl2 hb2 hr2 bx2
  generalize val (xs1.take 128) = A at *
  generalize val (xs2.take 128) = B at *
  have HE : Hid (NEnv w.heap.size w [] ∧ Below w.heap.size w w) := ⟨⟨Nat.le_refl _, fun _ h => by cases h⟩, Below.refl _ _⟩
  go_enter Tryd.func5, Tryd.ntmps5
  go_wp2_with fail
  refine (HS1.out _ HE.out.2).mono ?_
  rintro e w1 ⟨vA, rfl, hI, hb⟩
  have hE := HE.out.1.add hb (hI.base HE.out.2.size)
  clear hI
  have HE := Lib.hid (And.intro hE (HE.out.2.trans (hb.mono HE.out.2.size)))
  clear hE hb
  go_wp2_with fail
  refine (HS2.out _ HE.out.2).mono ?_
  rintro e w2 ⟨vB, rfl, hI, hb⟩
  have hE := HE.out.1.add hb (hI.base HE.out.2.size)
  clear hI
  have HE := Lib.hid (And.intro hE (HE.out.2.trans (hb.mono HE.out.2.size)))
  clear hE hb
  by_cases h0 : B = 0
  · have H0 := Lib.hid h0
    clear h0
    go_wp2_with fail
    refine (n_div0 (v1 := vA) (v2 := vB) HE.out.1 (by repeat first | exact List.mem_cons_self | apply List.mem_cons_of_mem) (by repeat first | exact List.mem_cons_self | apply List.mem_cons_of_mem) H0.out).mono ?_
    rintro e w3 ⟨rfl, hE, hb⟩
    have HE := Lib.hid (And.intro hE (HE.out.2.trans (hb.mono HE.out.2.size)))
    clear hE hb
    go_wp2_with fail
    refine (n_bits (v1 := vB) HE.out.1 (by repeat first | exact List.mem_cons_self | apply List.mem_cons_of_mem)).mono ?_
    rintro e w4 ⟨k4, rfl, hk, hk2, rfl⟩
    obtain rfl : k4 = 0 := hk.2 H0.out
    clear hk hk2
    go_wp2_with fail
    refine (works_any _).mono ?_
    rintro e wz ⟨rfl, hbz⟩
    have HZ := Lib.hid (HE.out.2.trans (hbz.mono HE.out.2.size))
    clear hbz
    go_wp2
    go_ret
    exact ⟨rfl, HZ.out⟩
  · have H0 : Hid (0 < B) := Nat.pos_of_ne_zero h0
    clear h0
    go_wp2_with fail
    refine (n_div (v1 := vA) (v2 := vB) HE.out.1 (by repeat first | exact List.mem_cons_self | apply List.mem_cons_of_mem) (by repeat first | exact List.mem_cons_self | apply List.mem_cons_of_mem) H0.out).mono ?_
    rintro e w5 ⟨vq, vr, rfl, hE, hb⟩
    have HE := Lib.hid (And.intro hE (HE.out.2.trans (hb.mono HE.out.2.size)))
    clear hE hb
    go_wp2_with fail
    refine (n_norm (v1 := vA) HE.out.1 (by repeat first | exact List.mem_cons_self | apply List.mem_cons_of_mem)).mono ?_
    rintro e w6 ⟨nA, rfl, hE, hb⟩
    have HE := Lib.hid (And.intro hE (HE.out.2.trans (hb.mono HE.out.2.size)))
    clear hE hb
    go_wp2_with fail
    refine (n_mul (v1 := vB) (v2 := vq) HE.out.1 (HT.out _ HE.out.2) (by repeat first | exact List.mem_cons_self | apply List.mem_cons_of_mem) (by repeat first | exact List.mem_cons_self | apply List.mem_cons_of_mem) (Nat.lt_of_le_of_lt (Nat.mul_div_le _ _) HLA.out)).mono ?_
    rintro e w7 ⟨p, rfl, hE, hb⟩
    have HE := Lib.hid (And.intro hE (HE.out.2.trans (hb.mono HE.out.2.size)))
    clear hE hb
    go_wp2_with fail
    refine (n_add (v1 := p) (v2 := vr) HE.out.1 (by repeat first | exact List.mem_cons_self | apply List.mem_cons_of_mem) (by repeat first | exact List.mem_cons_self | apply List.mem_cons_of_mem) (by rw [Nat.div_add_mod]; exact HLA.out)).mono ?_
    rintro e w8 ⟨s, rfl, hE, hb⟩
    have HE := Lib.hid (And.intro hE (HE.out.2.trans (hb.mono HE.out.2.size)))
    clear hE hb
    go_wp2_with fail
    refine (n_cmp (v1 := vr) (v2 := vB) HE.out.1 (by repeat first | exact List.mem_cons_self | apply List.mem_cons_of_mem) (by repeat first | exact List.mem_cons_self | apply List.mem_cons_of_mem)).mono ?_
    rintro e w9 ⟨rfl, hE, hb⟩
    have HE := Lib.hid (And.intro hE (HE.out.2.trans (hb.mono HE.out.2.size)))
    clear hE hb
    rw [show cmpI (A % B) B = -1 by unfold cmpI; rw [if_pos (Nat.mod_lt _ H0.out)]]
    go_wp2_with fail
    refine (n_same (v1 := s) (v2 := nA) HE.out.1 (by repeat first | exact List.mem_cons_self | apply List.mem_cons_of_mem) (by repeat first | exact List.mem_cons_self | apply List.mem_cons_of_mem) (Nat.div_add_mod ..)).mono ?_
    rintro e w10 ⟨rfl, hE, hb⟩
    have HE := Lib.hid (And.intro hE (HE.out.2.trans (hb.mono HE.out.2.size)))
    clear hE hb
    go_wp2_with fail
    refine (n_gcd (v1 := vA) (v2 := vB) HE.out.1 (HZZ.out _ HE.out.2) (by repeat first | exact List.mem_cons_self | apply List.mem_cons_of_mem) (by repeat first | exact List.mem_cons_self | apply List.mem_cons_of_mem)).mono ?_
    rintro e w11 ⟨m, rfl, hE, hb⟩
    have HE := Lib.hid (And.intro hE (HE.out.2.trans (hb.mono HE.out.2.size)))
    clear hE hb
    go_wp2_with fail
    refine (n_bits (v1 := m) HE.out.1 (by repeat first | exact List.mem_cons_self | apply List.mem_cons_of_mem)).mono ?_
    rintro e w12 ⟨k12, rfl, hk, hk2, rfl⟩
    have hg0 : 0 < Nat.gcd A B := Nat.gcd_pos_of_pos_right _ H0.out
    have hkk : ((k12 : Int) == 0) = false := by simp; omega
    have HG0 := Lib.hid hg0
    clear hk hg0
    go_wp2_with fail
    refine (n_div (v1 := vA) (v2 := m) HE.out.1 (by repeat first | exact List.mem_cons_self | apply List.mem_cons_of_mem) (by repeat first | exact List.mem_cons_self | apply List.mem_cons_of_mem) HG0.out).mono ?_
    rintro e w13 ⟨qA1, uA1, rfl, hE, hb⟩
    have HE := Lib.hid (And.intro hE (HE.out.2.trans (hb.mono HE.out.2.size)))
    clear hE hb
    obtain ⟨aA1, cA1, huA1⟩ := n_zero (v := uA1) HE.out.1 (by repeat first | exact List.mem_cons_self | apply List.mem_cons_of_mem) (Nat.mod_eq_zero_of_dvd (Nat.gcd_dvd_left _ _))
    subst huA1
    go_wp2_with fail
    refine (n_div (v1 := vB) (v2 := m) HE.out.1 (by repeat first | exact List.mem_cons_self | apply List.mem_cons_of_mem) (by repeat first | exact List.mem_cons_self | apply List.mem_cons_of_mem) HG0.out).mono ?_
    rintro e w14 ⟨qB1, uB1, rfl, hE, hb⟩
    have HE := Lib.hid (And.intro hE (HE.out.2.trans (hb.mono HE.out.2.size)))
    clear hE hb
    obtain ⟨aB1, cB1, huB1⟩ := n_zero (v := uB1) HE.out.1 (by repeat first | exact List.mem_cons_self | apply List.mem_cons_of_mem) (Nat.mod_eq_zero_of_dvd (Nat.gcd_dvd_right _ _))
    subst huB1
    go_wp2_with fail
    refine (works_any _).mono ?_
    rintro e wz ⟨rfl, hbz⟩
    have HZ := Lib.hid (HE.out.2.trans (hbz.mono HE.out.2.size))
    clear hbz
    go_wp2
    go_ret
    exact ⟨rfl, HZ.out⟩

/-- What a move tells. -/
def ShiftTells (xs : List Nat) (n : Int) (k : Int) (zs : List Nat) : Prop :=
  (128 < fl xs ∧ k = 3 ∧ zs = []) ∨ (fl xs ≤ 128 ∧ n < 0 ∧ k = 0 ∧ Num zs (val xs / 2 ^ n.natAbs)) ∨
  (fl xs ≤ 128 ∧ 0 ≤ n ∧ val xs * 2 ^ n.natAbs < 18446744073709551616 ^ 128 ∧ k = 0 ∧ Num zs (val xs * 2 ^ n.natAbs)) ∨
  (fl xs ≤ 128 ∧ 0 ≤ n ∧ 18446744073709551616 ^ 128 ≤ val xs * 2 ^ n.natAbs ∧ k = 3 ∧ zs = [])
theorem ShiftTells.one {xs : List Nat} {n k k' : Int} {zs zs' : List Nat} (h : ShiftTells xs n k zs) (h' : ShiftTells xs n k' zs') : k = k' ∧ zs = zs' := by
  rcases h with ⟨h1, rfl, rfl⟩ | ⟨h1, h2, rfl, h3⟩ | ⟨h1, h2, h3, rfl, h4⟩ | ⟨h1, h2, h3, rfl, rfl⟩ <;>
  rcases h' with ⟨g1, rfl, rfl⟩ | ⟨g1, g2, rfl, g3⟩ | ⟨g1, g2, g3, rfl, g4⟩ | ⟨g1, g2, g3, rfl, rfl⟩ <;>
  first | exact ⟨rfl, rfl⟩ | (exfalso; omega) | exact ⟨rfl, h3.unique g3⟩ | exact ⟨rfl, h4.unique g4⟩
theorem fits_lt {xs : List Nat} (bx : Bd xs) (h : fl xs ≤ 128) : val xs < 18446744073709551616 ^ 128 := by
  rw [← fm_val xs]
  exact (fm_val xs ▸ (num_fm bx)).len_le.1 (by rw [fm_length]; exact h)

set_option exponentiation.threshold 10000 in
set_option maxHeartbeats 1000000 in
set_option maxRecDepth 100000 in
theorem shift_any (a : Option Addr) (la ca : Nat) (n : Int) (xs : List Nat) (w : World) (hla : xs.length = la) (hba : la ≤ 1048576) (hca : la ≤ ca) (hna : a = none → ca = 0) (hn1 : -9223372036854775808 ≤ n) (hn2 : n ≤ 9223372036854775807)
    (hra : Rd .u64 w a xs) (bx : Bd xs) :
    Calls Tryd.prog 12 #[.slice a la ca, .int .i64 n] w (Told (ShiftTells xs n) w) := by
  go_enter Tryd.func12, Tryd.ntmps12
  go_wp2_with fail
  refine (one_any a la ca xs _ hla (by omega) hca hra).mono ?_
  rintro e w1 ⟨hor, rfl⟩
  rcases hor with ⟨h1, a', c', rfl, g1, g2⟩ | ⟨h1, rfl⟩
  · have fa : FormOf a ca (fl xs) a' c' := ⟨g1, g2⟩
    have hfa := (fl_spec xs).1
    have hra' := fa.rd hra hfa
    have hca' := (fa.cap hca (by omega)).1
    have hna' : Hid (a' = none → c' = 0) := fun h => ((fa.cap hca (by omega)).2 h).elim id (fun h2 => by
      rcases Nat.eq_zero_or_pos (fl xs) with h0 | hp
      · exact (fa.2 h0).2
      · rw [(fa.1 hp).2]; exact hna h2)
    have V1 : Hid (val (xs.take (fl xs)) = val xs) := fm_val xs
    have e1 : Hid ((xs.take (fl xs)).length = fl xs) := fm_length xs
    have F1 : Hid (fl (xs.take (fl xs)) = fl xs) := by show fl (fm xs) = fl xs; rw [fl_of_cn (fm_cn xs), fm_length]
    have NN : Hid (Num (xs.take (fl xs)) (val xs)) := num_fm bx
    have LT : Hid (val xs < 18446744073709551616 ^ 128) := fits_lt bx h1
    clear fa g1 g2 hra hna
    by_cases h0 : fl xs = 0
    · have hq : ((fl xs : Int) == 0) = true := by simp; omega
      have hz : val xs = 0 := by rw [← V1.out, h0]; rfl
      have HT : Hid (ShiftTells xs n 0 []) := by
        rcases Int.lt_or_le n 0 with hn | hn
        · exact .inr (.inl ⟨h1, hn, rfl, by rw [hz, Nat.zero_div]; exact Num.nil⟩)
        · exact .inr (.inr (.inl ⟨h1, hn, by rw [hz, Nat.zero_mul]; decide, rfl, by rw [hz, Nat.zero_mul]; exact Num.nil⟩))
      clear h0 hz
      go_wp2
      go_ret2
      exact ⟨Below.refl _ _, none, 0, 0, [], rfl, own64_nil _ _, by decide, HT.out⟩
    have hq : ((fl xs : Int) == 0) = false := by simp; omega
    have H0 := Lib.hid h0
    clear h0
    by_cases hbot : n ≤ -8192
    · have HT : Hid (ShiftTells xs n 0 []) := by
        refine .inr (.inl ⟨h1, by omega, rfl, ?_⟩)
        rw [Nat.div_eq_of_lt]
        · exact Num.nil
        · refine Nat.lt_of_lt_of_le LT.out ?_
          rw [pow_64]
          exact Nat.pow_le_pow_right (by decide) (by omega)
      have hq2 : decide (n ≤ -8192) = true := by rw [decide_eq_true_iff]; exact hbot
      go_wp2
      go_ret2
      exact ⟨Below.refl _ _, none, 0, 0, [], rfl, own64_nil _ _, by decide, HT.out⟩
    have hq2 : decide (n ≤ -8192) = false := by rw [decide_eq_false_iff_not]; exact hbot
    by_cases hneg : n < 0
    · obtain ⟨m, rfl⟩ : ∃ m : Nat, n = -(m : Int) := ⟨n.natAbs, by omega⟩
      have hm : m < 8192 := by omega
      have hq3 : decide (-(m : Int) < 0) = true := by rw [decide_eq_true_iff]; exact hneg
      have rneg : - -(m : Int) = (m : Int) := by omega
      have hmp : 0 < m := by omega
      have HNA : Hid ((-(m : Int)).natAbs = m) := by show _ = _; omega
      have HNG := Lib.hid hneg
      clear hneg hbot
      go_wp2_with fail
      refine (copied_any a' (fl xs) c' (xs.take (fl xs)) _ e1.out (by omega) (fun _ h => hna'.out h) hra').mono ?_
      rintro e w2 ⟨v, rfl, hown, hbl, _⟩
      obtain ⟨av, cv, rfl, hrv⟩ := own64.form hown
      have HO := Lib.hid hown
      clear hown hrv
      rw [e1.out]
      go_wp2_with fail
      have hs := sink_any av (fl xs) cv (m / 64) (m % 64) w.heap.size (xs.take (fl xs)) w2 e1.out (by omega) (by omega) (by omega) (bx.take _) (by have := HO.out; rw [e1.out] at this; exact this)
      rw [Nat.div_add_mod, V1.out] at hs
      refine hs.mono ?_
      rintro e w3 ⟨v, zs, rfl, ho, hnum, hb3⟩
      obtain ⟨az, cz, rfl, _⟩ := own64.form ho
      have HO3 := Lib.hid ho
      have HN3 := Lib.hid hnum
      clear ho hnum
      go_wp2
      go_ret2
      refine ⟨hbl.trans hb3, az, cz, 0, zs, rfl, HO3.out, HN3.out.len_le.2 (Nat.lt_of_le_of_lt (Nat.div_le_self _ _) LT.out), .inr (.inl ⟨h1, HNG.out, rfl, by rw [HNA.out]; exact HN3.out⟩)⟩
    obtain ⟨m, rfl⟩ : ∃ m : Nat, n = (m : Int) := ⟨n.natAbs, by omega⟩
    have hq3 : decide ((m : Int) < 0) = false := by rw [decide_eq_false_iff_not]; exact hneg
    have HNA : Hid ((m : Int).natAbs = m) := by show _ = _; omega
    have HNG : Hid ((0 : Int) ≤ (m : Int)) := by show (0 : Int) ≤ _; omega
    clear hneg hbot
    go_wp2_with fail
    refine (bits_any a' (fl xs) c' (xs.take (fl xs)) _ e1.out (by omega) hca' hra' (bx.take _)).mono ?_
    rintro e w2 ⟨⟨kb, rfl, hkb, hkb2⟩, rfl⟩
    rw [V1.out] at hkb
    rw [F1.out] at hkb2
    have HKB : Hid (0 < kb ∧ 2 ^ (kb - 1) ≤ val xs ∧ val xs < 2 ^ kb) := by
      rcases hkb with ⟨hz, _⟩ | h
      · exfalso
        have h2 := NN.out
        rw [hz] at h2
        have h3 := Num.unique h2 Num.nil
        have h4 := e1.out
        rw [h3] at h4
        exact H0.out h4.symm
      · exact h
    clear hkb
    by_cases hbig : 8192 < m + kb
    · have hq4 : decide ((8192 : Int) - (kb : Int) < (m : Int)) = true := by rw [decide_eq_true_iff]; omega
      have HT : Hid (ShiftTells xs m 3 []) := by
        refine .inr (.inr (.inr ⟨h1, HNG.out, ?_, rfl, rfl⟩))
        rw [HNA.out, pow_64]
        have h2 := Nat.mul_le_mul_right (2 ^ m) HKB.out.2.1
        rw [← Nat.pow_add] at h2
        exact Nat.le_trans (Nat.pow_le_pow_right (by decide) (by have := HKB.out.1; omega)) h2
      go_wp2
      go_ret2
      exact ⟨Below.refl _ _, none, 0, 3, [], rfl, own64_nil _ _, by decide, HT.out⟩
    · have hq4 : decide ((8192 : Int) - (kb : Int) < (m : Int)) = false := by rw [decide_eq_false_iff_not]; omega
      have hm : m ≤ 8192 := by omega
      have HLT : Hid (val xs * 2 ^ m < 18446744073709551616 ^ 128) := by
        show _ < _
        rw [pow_64]
        have h2 := Nat.mul_lt_mul_of_pos_right HKB.out.2.2 (Nat.two_pow_pos m)
        rw [← Nat.pow_add] at h2
        exact Nat.lt_of_lt_of_le h2 (Nat.pow_le_pow_right (by decide) (by omega))
      clear hbig
      go_wp2_with fail
      have hs := lift_any a' (fl xs) c' (m / 64) (m % 64) (xs.take (fl xs)) w e1.out (by omega) (by omega) (by omega) hra' (bx.take _)
      rw [Nat.div_add_mod, V1.out] at hs
      refine hs.mono ?_
      rintro e w3 ⟨v, ws, rfl, ho, hwl, hwb, hwv, hb3⟩
      obtain ⟨az, cz, rfl, hrz⟩ := own64.form ho
      have hroom := (own64.room ho).1
      have HO3 := Lib.hid ho
      have HWB := Lib.hid hwb
      have HWV := Lib.hid hwv
      have hwl2 : ws.length ≤ 1048576 := by omega
      clear ho hwb hwv hwl
      go_wp2_with fail
      refine (form_any az ws.length cz ws _ rfl (by omega) hroom hrz).mono ?_
      rintro e w4 ⟨⟨az', cz', rfl, k1, k2⟩, rfl⟩
      have K1 := Lib.hid k1
      have K2 := Lib.hid k2
      clear k1 k2 hrz
      go_wp2
      go_ret2
      have hnum := num_fm HWB.out
      rw [HWV.out] at hnum
      have hown := own64_take HO3.out (fl_spec ws).1 K1.out K2.out
      refine ⟨hb3, az', cz', 0, fm ws, by rw [fm_length]; rfl, by rw [fm_length]; exact hown, hnum.len_le.2 HLT.out, .inr (.inr (.inl ⟨h1, HNG.out, by rw [HNA.out]; exact HLT.out, rfl, by rw [HNA.out]; exact hnum⟩))⟩
  · go_wp2
    go_ret2
    exact ⟨Below.refl _ _, none, 0, 3, [], rfl, own64_nil _ _, by decide, .inl ⟨h1, rfl, rfl⟩⟩

/-- A number's bytes: the greatest one first, and it is not 0. -/
structure BNum (l : List Nat) (n : Nat) : Prop where
  b8 : B8 l
  cn : 0 < l.length → at0 l 0 ≠ 0
  vl : bval l = n
theorem BNum.nil : BNum [] 0 := ⟨(fun x hx => by cases hx), fun h => by simp at h, rfl⟩
theorem B8.snoc {l : List Nat} {c : Nat} (h : B8 l) (hc : c < 256) : B8 (l ++ [c]) := fun x hx => by
  rcases List.mem_append.1 hx with hx | hx
  · exact h x hx
  · obtain rfl : x = c := by simpa using hx
    exact hc
theorem BNum.snoc {l : List Nat} {n c : Nat} (h : BNum l n) (hc : c < 256) (h0 : c ≠ 0 ∨ 0 < l.length) : BNum (l ++ [c]) (256 * n + c) := by
  refine ⟨h.b8.snoc hc, fun _ => ?_, by rw [bval_snoc, h.vl]⟩
  rcases Nat.eq_zero_or_pos l.length with hl | hl
  · have : l = [] := List.eq_nil_of_length_eq_zero hl
    subst this
    rcases h0 with h0 | h0
    · exact h0
    · simp at h0
  · have := h.cn hl
    rw [at0_append_left hl]
    exact this
theorem snoc_ind {p : List Nat → Prop} (h0 : p []) (hs : ∀ l c, p l → p (l ++ [c])) (l : List Nat) : p l := by
  have : ∀ r : List Nat, p r.reverse := by
    intro r
    induction r with
    | nil => exact h0
    | cons c r ih => rw [List.reverse_cons]; exact hs _ _ ih
  have h := this l.reverse
  rwa [List.reverse_reverse] at h
theorem BNum.zero {l : List Nat} (h : BNum l 0) : l = [] := by
  rcases List.eq_nil_or_concat l with rfl | ⟨m, c, rfl⟩
  · rfl
  · exfalso
    have h1 := h.vl
    rw [List.concat_eq_append, bval_snoc] at h1
    have hcn := h.cn (by simp)
    have key : ∀ (m : List Nat) (c : Nat), 256 * bval m + c = 0 → at0 (m ++ [c]) 0 = 0 := by
      refine snoc_ind ?_ ?_
      · intro c hc; simp [at0]; omega
      · intro m d ih c hc
        have h2 : bval (m ++ [d]) = 0 := by omega
        rw [bval_snoc] at h2
        rw [at0_append_left (by simp)]
        exact ih d h2
    rw [List.concat_eq_append] at hcn
    exact hcn (key m c h1)
theorem BNum.unique : ∀ (k : Nat) {l l' : List Nat} {n : Nat}, l.length ≤ k → BNum l n → BNum l' n → l = l' := by
  intro k
  induction k with
  | zero =>
    intro l l' n hk h h'
    have : l = [] := List.eq_nil_of_length_eq_zero (by omega)
    subst this
    have h0 : n = 0 := h.vl.symm
    subst h0
    exact h'.zero.symm
  | succ k ih =>
    intro l l' n hk h h'
    rcases List.eq_nil_or_concat l with rfl | ⟨m, c, rfl⟩
    · have h0 : n = 0 := h.vl.symm
      subst h0
      exact h'.zero.symm
    · rcases List.eq_nil_or_concat l' with rfl | ⟨m', c', rfl⟩
      · have h0 : n = 0 := h'.vl.symm
        subst h0
        exact h.zero
      · rw [List.concat_eq_append] at h h' hk ⊢
        rw [List.concat_eq_append]
        have a1 := h.vl
        have a2 := h'.vl
        rw [bval_snoc] at a1 a2
        have c1 : c < 256 := h.b8 c (by simp)
        have c2 : c' < 256 := h'.b8 c' (by simp)
        have e1 : c = c' := by omega
        have e2 : bval m = bval m' := by omega
        subst e1
        have p1 : BNum m (bval m) := ⟨fun x hx => h.b8 x (by simp [hx]), fun hl => by have := h.cn (by simp); rw [at0_append_left hl] at this; exact this, rfl⟩
        have p2 : BNum m' (bval m) := ⟨fun x hx => h'.b8 x (by simp [hx]), fun hl => by have := h'.cn (by simp); rw [at0_append_left hl] at this; exact this, e2.symm⟩
        rw [ih (by simp at hk; omega) p1 p2]
theorem bval_digits {V L : Nat} : ∀ (bs : List Nat), bs.length ≤ L → (∀ i, i < bs.length → at0 bs i = V / 256 ^ (L - 1 - i) % 256) → bval bs = V / 256 ^ (L - bs.length) % 256 ^ bs.length := by
  refine snoc_ind ?_ ?_
  · intro _ _; simp [bval, Nat.mod_one]
  · intro m d ih hl h
    simp at hl
    have h1 := h m.length (by simp)
    have h2 : at0 (m ++ [d]) m.length = d := by
      have := at0_append_right (xs := m) (ys := [d]) 0
      rw [Nat.add_zero] at this
      rw [this]; rfl
    rw [h2] at h1
    have h3 := ih (by omega) (fun i hi => by have := h i (by simp; omega); rw [at0_append_left hi] at this; exact this)
    rw [bval_snoc, h3, h1, List.length_append, List.length_singleton, show L - 1 - m.length = L - (m.length + 1) by omega]
    have e : 256 ^ (L - m.length) = 256 ^ (L - (m.length + 1)) * 256 := by rw [← Nat.pow_succ]; congr 1; omega
    rw [e, ← Nat.div_div_eq_div_mul]
    generalize V / 256 ^ (L - (m.length + 1)) = U
    rw [Nat.pow_succ, Nat.mul_comm (256 ^ m.length) 256, Nat.mod_mul]
    omega

theorem wpl_make8 {w : World} {ops : Array Oper} {rest : List Oper} {o : Oper} {a : Act} {Q : Exit → Act → World → Prop} (hg : o.guard = none) (l c : Operand) (hop : o.op = Op.makeSlice 29 l c)
    (B : Nat) (kl kc : IntKind) (L C : Int) (n : Nat) (hl : a.eval l = .int kl L) (hc : a.eval c = .int kc C) (hL : L = (n : Int)) (hC : C = (n : Int)) (hn : n ≤ 4398046511104) (hB : B ≤ w.heap.size)
    (hK : ∀ w', w'.ownsRow B 5 1 (.slice (some ⟨w.heap.size, 0, none⟩) n n) n (u8s (List.replicate n 0)) → Below B w w' → w.heap.size < w'.heap.size → wpList Tryd.prog ops Q rest (a.put o.dst (.slice (some ⟨w.heap.size, 0, none⟩) n n)) w') :
    wpList Tryd.prog ops Q (o :: rest) a w := by
  obtain ⟨i, hi, hz, hsz, hb⟩ := info_parts info8
  refine wpList_make_full w hg l c 29 hop B 5 i (.int .u8 0) 1 Tryd.underlying29 hi hz hsz kl kc L C n hl hc hL hC (by rw [hb]; omega) (by simp only [maxLen]; omega) hB ?_
  intro w' hown hgr
  refine hK w' ?_ ((Below.refl _ _).grown hgr hB (fun k hk => by cases hk)) ((World.ownsRow.lt hown _ rfl).2)
  have e : (madeCells (Value.int .u8 0).cells (n * 1)).toList = u8s (List.replicate n 0) := by
    rw [Nat.mul_one, show (Value.int .u8 0).cells = #[.int .u8 0] from rfl, toList_madeCells_one, u8s, List.map_replicate]
    rfl
  rw [e] at hown
  exact hown

/-- What Bytes tells. -/
def BytesTells (xs : List Nat) (k : Int) (l : List Nat) : Prop := (128 < fl xs ∧ k = 3 ∧ l = []) ∨ (fl xs ≤ 128 ∧ k = 0 ∧ BNum l (val xs))
theorem BytesTells.one {xs : List Nat} {k k' : Int} {l l' : List Nat} (h : BytesTells xs k l) (h' : BytesTells xs k' l') : k = k' ∧ l = l' := by
  rcases h with ⟨h1, rfl, rfl⟩ | ⟨h1, rfl, h3⟩ <;> rcases h' with ⟨g1, rfl, rfl⟩ | ⟨g1, rfl, g3⟩ <;>
  first | exact ⟨rfl, rfl⟩ | (exfalso; omega) | exact ⟨rfl, BNum.unique _ (Nat.le_refl _) h3 g3⟩
def Told8 (Q : Int → List Nat → Prop) (w : World) (e : Ending) (w' : World) : Prop :=
  Below w.heap.size w w' ∧ ∃ a c k zs, e = .returned (.tuple #[.slice a zs.length c, .int .i64 k]) ∧ own8 w' w.heap.size (.slice a zs.length c) zs ∧ zs.length ≤ 1024 ∧ Q k zs
theorem byte_of_word (x t : Nat) : IntKind.u8.wrap ((x / 2 ^ t : Nat) : Int) = ((x / 2 ^ t % 256 : Nat) : Int) := by
  rw [show IntKind.u8.wrap ((x / 2 ^ t : Nat) : Int) = ((x / 2 ^ t : Nat) : Int) % 256 from by simp [IntKind.wrap, IntKind.signed, IntKind.bits]]
  omega
theorem byte_at {xs : List Nat} {p : Nat} (bx : Bd xs) (h : p / 8 < xs.length) : val xs / 256 ^ p % 256 = at0 xs (p / 8) / 2 ^ (p % 8 * 8) % 256 := by
  have h1 := val_at xs (p / 8) h
  have h2 := val_lt (bx.take (p / 8))
  rw [List.length_take, Nat.min_eq_left (by omega)] at h2
  have e : (256 : Nat) ^ p = 18446744073709551616 ^ (p / 8) * 2 ^ (p % 8 * 8) := by
    rw [pow_64, ← Nat.pow_add, show (256 : Nat) = 2 ^ 8 from rfl, ← Nat.pow_mul]; congr 1; omega
  rw [e, ← Nat.div_div_eq_div_mul]
  have h3 : val xs / 18446744073709551616 ^ (p / 8) = at0 xs (p / 8) + 18446744073709551616 * val (xs.drop (p / 8 + 1)) := by
    rw [h1, Nat.add_comm, Nat.mul_add_div (Nat.pow_pos (by decide)), Nat.div_eq_of_lt h2, Nat.add_zero]
  rw [h3]
  generalize val (xs.drop (p / 8 + 1)) = U
  generalize at0 xs (p / 8) = x
  have ht : p % 8 * 8 ≤ 56 := by omega
  generalize p % 8 * 8 = t at *
  have e2 : 18446744073709551616 * U = 2 ^ t * (2 ^ (56 - t) * (256 * U)) := by
    rw [← Nat.mul_assoc, ← Nat.pow_add, show t + (56 - t) = 56 by omega, ← Nat.mul_assoc]
  rw [e2, Nat.add_comm, Nat.mul_add_div (Nat.two_pow_pos _), Nat.mul_left_comm, Nat.mul_add_mod]

set_option exponentiation.threshold 10000 in
set_option maxHeartbeats 1000000 in
set_option maxRecDepth 100000 in
theorem bytes_any (a : Option Addr) (la ca : Nat) (xs : List Nat) (w : World) (hla : xs.length = la) (hba : la ≤ 1048576) (hca : la ≤ ca)
    (hra : Rd .u64 w a xs) (bx : Bd xs) :
    Calls Tryd.prog 14 #[.slice a la ca] w (Told8 (BytesTells xs) w) := by
  go_enter Tryd.func14, Tryd.ntmps14
  go_wp2_with fail
  refine (one_any a la ca xs _ hla (by omega) hca hra).mono ?_
  rintro e w1 ⟨hor, rfl⟩
  rcases hor with ⟨h1, a', c', rfl, g1, g2⟩ | ⟨h1, rfl⟩
  · have fa : FormOf a ca (fl xs) a' c' := ⟨g1, g2⟩
    have hfa := (fl_spec xs).1
    have hra' := fa.rd hra hfa
    have hca' := (fa.cap hca (by omega)).1
    have V1 : Hid (val (xs.take (fl xs)) = val xs) := fm_val xs
    have e1 : Hid ((xs.take (fl xs)).length = fl xs) := fm_length xs
    have F1 : Hid (fl (xs.take (fl xs)) = fl xs) := by show fl (fm xs) = fl xs; rw [fl_of_cn (fm_cn xs), fm_length]
    have BX := bx.take (fl xs)
    clear fa g1 g2 hra
    go_wp2_with fail
    refine (bits_any a' (fl xs) c' (xs.take (fl xs)) _ e1.out (by omega) hca' hra' BX).mono ?_
    rintro e w2 ⟨⟨kb, rfl, hkb, hkb2⟩, rfl⟩
    rw [F1.out] at hkb2
    obtain ⟨L, hL⟩ : ∃ L, L = (kb + 7) / 8 := ⟨_, rfl⟩
    have rL : ((kb : Int) + 7).tdiv 8 = (L : Int) := by rw [Int.tdiv_eq_ediv_of_nonneg (by omega)]; omega
    have hL2 : L ≤ 8 * fl xs := by omega
    have HKB := Lib.hid hkb
    have HL := Lib.hid hL
    clear hkb hL
    go_wp2_with (at_make; refine wpl_make8 rfl _ _ rfl w.heap.size _ _ _ _ L rfl rfl rfl rfl (by omega) (Nat.le_refl _) ?_)
    intro w3 hown hbl hsz
    have HO := Lib.hid hown
    clear hown
    go_wp2
    go_loopw [23] (fun iv wr => ∃ (i : Nat) (bs : List Nat), i ≤ L ∧ iv = .int .i64 (i : Nat) ∧ Hid (bs.length = L) ∧ Hid (wr.ownsRow w.heap.size 5 1 (.slice (some ⟨w.heap.size, 0, none⟩) L L) L (u8s bs)) ∧ Hid (B8 bs) ∧ Hid (∀ q, q < i → at0 bs q = val xs / 256 ^ (L - 1 - q) % 256) ∧ Hid (Below w.heap.size w wr)) (fun iv _ => L - (intOf iv).toNat)
    case atStart => exact ⟨0, _, Nat.zero_le _, rfl, by show _ = _; simp, HO, (fun x hx => by rw [List.eq_of_mem_replicate hx]; decide), (fun q hq => by omega), hbl⟩
    case round =>
      clear HO hbl
      obtain ⟨i, bs, hi, rfl, HBL, HO, H8, HD, hbl⟩ := hrel
      by_cases hlt : i < L
      · obtain ⟨p, hp⟩ : ∃ p, p = L - 1 - i := ⟨_, rfl⟩
        have rp : (L : Int) - 1 - (i : Int) = (p : Int) := by omega
        obtain ⟨q8, hq8⟩ : ∃ q8, q8 = p / 8 := ⟨_, rfl⟩
        obtain ⟨r8, hr8⟩ : ∃ r8, r8 = p % 8 := ⟨_, rfl⟩
        have rd8 : (p : Int).tdiv 8 = (q8 : Int) := by rw [Int.tdiv_eq_ediv_of_nonneg (by omega)]; omega
        have rm8 : (p : Int).tmod 8 = (r8 : Int) := by rw [Int.tmod_eq_emod_of_nonneg (by omega)]; omega
        obtain ⟨t, ht⟩ : ∃ t, t = r8 * 8 := ⟨_, rfl⟩
        have rt : (r8 : Int) * 8 = (t : Int) := by omega
        have hq8l : q8 < fl xs := by omega
        have ht64 : t ≤ 56 := by omega
        obtain ⟨b, off, rfl⟩ := hra'.isAt (by rw [e1.out]; omega)
        have hc1 := below_cell hbl.out _ _ (hra'.cell (i := q8) (by rw [e1.out]; exact hq8l))
        have hD := byte_at (xs := xs.take (fl xs)) (p := p) BX (by rw [e1.out, ← hq8]; exact hq8l)
        rw [← hq8, ← hr8, ← ht, V1.out] at hD
        obtain ⟨x, hx⟩ : ∃ x, x = at0 (xs.take (fl xs)) q8 := ⟨_, rfl⟩
        rw [← hx] at hc1 hD
        obtain ⟨z, hz⟩ : ∃ z, z = x / 2 ^ t % 256 := ⟨_, rfl⟩
        have hx64 := BX.at0 q8
        rw [← hx] at hx64
        have ew : IntKind.u8.wrap ((x : Int) / 2 ^ t) = (z : Int) := by
          have := byte_of_word x t
          rw [← hz] at this
          rw [← this]; simp
        rw [← hz] at hD
        have hz8 : z < 256 := by omega
        have hf1 := World.ownsRow.frozenAt HO.out i
        have hc3 := World.ownsRow.cellAt HO.out i (by omega)
        rw [u8s_at _ _ (by rw [HBL.out]; exact hlt)] at hc3
        have HP := Lib.hid hp
        have HDD := Lib.hid hD
        have hin : i < L := hlt
        clear hp hq8 hr8 ht hx hz hD
        go_wp2
        go_roundw
        case rel =>
          refine ⟨i + 1, bs.set i z, by omega, by go_num, by show _ = _; rw [List.length_set, HBL.out], own8.set HO.out i z, ?_, ?_, hbl.out.setCell (p := ⟨w.heap.size, i, none⟩) (Nat.le_refl _) _⟩
          · intro y hy
            rcases List.mem_or_eq_of_mem_set hy with hy | rfl
            · exact H8.out y hy
            · exact hz8
          · intro q hq
            rw [at0_set (by rw [HBL.out]; exact hin)]
            by_cases e : i = q
            · subst e; rw [if_pos rfl, ← HP.out]; exact HDD.out.symm
            · rw [if_neg e]; exact HD.out q (by omega)
        case measure => simp [intOf]; omega
      · obtain rfl : i = L := by omega
        have hq : decide (i < i) = false := by simp
        have hbv := bval_digits (V := val xs) (L := i) bs (by rw [HBL.out]; exact Nat.le_refl _) (fun q hq => HD.out q (by rw [HBL.out] at hq; exact hq))
        rw [HBL.out, Nat.sub_self, Nat.pow_zero, Nat.div_one] at hbv
        have hk := HKB.out
        rw [V1.out] at hk
        have hnum : Hid (BNum bs (val xs)) := by
          have h256 : (256 : Nat) ^ i = 2 ^ (8 * i) := by rw [Nat.pow_mul]
          have hlt2 : val xs < 256 ^ i := by
            rw [h256]
            rcases hk with ⟨hz, _⟩ | ⟨_, _, h2⟩
            · rw [hz]; exact Nat.two_pow_pos _
            · exact Nat.lt_of_lt_of_le h2 (Nat.pow_le_pow_right (by decide) (by have := HL.out; omega))
          refine ⟨H8.out, fun hpos => ?_, by rw [hbv, Nat.mod_eq_of_lt hlt2]⟩
          rw [HBL.out] at hpos
          rw [HD.out 0 hpos, Nat.sub_zero]
          rcases hk with ⟨hz, hk0⟩ | ⟨h0, h1, _⟩
          · have := HL.out; omega
          · have h3 : 256 ^ (i - 1) ≤ val xs := by
              refine Nat.le_trans ?_ h1
              rw [show (256 : Nat) = 2 ^ 8 from rfl, ← Nat.pow_mul]
              exact Nat.pow_le_pow_right (by decide) (by have := HL.out; omega)
            have h4 : val xs / 256 ^ (i - 1) < 256 := by
              rw [Nat.div_lt_iff_lt_mul (Nat.pow_pos (by decide)), Nat.mul_comm, ← Nat.pow_succ, show (i - 1).succ = i by omega]
              exact hlt2
            have h5 : 0 < val xs / 256 ^ (i - 1) := Nat.div_pos h3 (Nat.pow_pos (by decide))
            rw [Nat.mod_eq_of_lt h4]; omega
        clear hbv hk
        go_wp2
        go_ret2
        have hl := HBL.out
        have ho := HO.out
        refine ⟨hbl.out, some ⟨w.heap.size, 0, none⟩, i, 0, bs, by rw [hl]; rfl, by show World.ownsRow _ _ _ _ _ _ _; rw [hl]; exact ho, by omega, .inr ⟨h1, rfl, hnum.out⟩⟩
  · go_wp2
    go_ret2
    exact ⟨Below.refl _ _, none, 0, 3, [], rfl, World.ownsRow_nil _ _ _ _, by decide, .inl ⟨h1, rfl, rfl⟩⟩

theorem n_text {B : Nat} {w : World} {L : List (Value × Nat × Bool)} {v1 : Value} {n1 : Nat} {k1 : Bool} (hE : NEnv B w L) (h1 : (v1, n1, k1) ∈ L) :
    Calls Tryd.prog 13 #[v1] w fun e w' => ∃ l, IsDec l n1 ∧ e = .returned (.tuple #[.string ⟨l.toArray⟩, .int .i64 0]) ∧ NEnv B w' L ∧ Below w.heap.size w w' := by
  obtain ⟨a, ca, xs, rfl, ho1, hb1, rfl, hl1, -⟩ := hE.get h1
  refine (text_any a _ ca xs w rfl (by omega) (own64.room ho1).1 (own64.room ho1).2 (own64.rd ho1).2 hb1).mono ?_
  intro e w' hp
  obtain ⟨hb, hor⟩ := hp.tells hb1
  rcases hor with ⟨h, _⟩ | ⟨_, l, hl, rfl⟩
  · exact absurd (fl_le_128 hl1) h
  · exact ⟨l, hl, rfl, hE.below hb, hb⟩
theorem n_parse {B : Nat} {w : World} {L : List (Value × Nat × Bool)} {n1 : Nat} (s : ByteArray) (hE : NEnv B w L) (hs : s.size ≤ 65536) (hd : decB s.data.toList = true) (hv : dval s.data.toList = n1) (hn : n1 < 18446744073709551616 ^ 128) :
    Calls Tryd.prog 37 #[.string s] w fun e w' => ∃ v, e = .returned (.tuple #[v, .int .i64 0]) ∧ NEnv B w' ((v, n1, true) :: L) ∧ Below w.heap.size w w' := by
  refine (parse_any s w (by omega)).mono ?_
  intro e w' hp
  obtain ⟨hb, a, c, k, zs, rfl, ho, hl, hT⟩ := hp.told
  have hsz : s.data.toList.length = s.size := by simp
  rcases hT with ⟨h, _⟩ | ⟨_, h, _⟩ | ⟨_, _, h, _⟩ | ⟨_, _, _, rfl, hN⟩
  · omega
  · rw [hd] at h; cases h
  · omega
  · rw [hv] at hN
    exact ⟨_, rfl, hE.add hb (isn_of_num (own64.low ho hE.1) hN hn), hb⟩
theorem n_down {B : Nat} {w : World} {L : List (Value × Nat × Bool)} {v1 : Value} {n1 : Nat} {k1 : Bool} (n : Int) (hE : NEnv B w L) (h1 : (v1, n1, k1) ∈ L) (hn0 : -9223372036854775808 ≤ n) (hn : n ≤ 0) :
    Calls Tryd.prog 12 #[v1, .int .i64 n] w fun e w' => ∃ v, e = .returned (.tuple #[v, .int .i64 0]) ∧ NEnv B w' ((v, n1 / 2 ^ n.natAbs, true) :: L) ∧ Below w.heap.size w w' := by
  have hn1 := (hE.get h1).lt
  obtain ⟨a, ca, xs, rfl, ho1, hb1, rfl, hl1, -⟩ := hE.get h1
  refine (shift_any a _ ca n xs w rfl (by omega) (own64.room ho1).1 (own64.room ho1).2 hn0 (by omega) (own64.rd ho1).2 hb1).mono ?_
  rintro e w' ⟨hb, a', c', k, zs, rfl, ho, hl, hT⟩
  have f1 := fl_le_128 hl1
  rcases hT with ⟨h, _⟩ | ⟨_, _, rfl, hN⟩ | ⟨_, h0, _, rfl, hN⟩ | ⟨_, h0, h, _⟩
  · omega
  · exact ⟨_, rfl, hE.add hb (isn_of_num (own64.low ho hE.1) hN (Nat.lt_of_le_of_lt (Nat.div_le_self _ _) hn1)), hb⟩
  · obtain rfl : n = 0 := by omega
    simp only [Int.natAbs_zero, Nat.pow_zero, Nat.mul_one, Nat.div_one] at hN ⊢
    exact ⟨_, rfl, hE.add hb (isn_of_num (own64.low ho hE.1) hN hn1), hb⟩
  · obtain rfl : n = 0 := by omega
    simp only [Int.natAbs_zero, Nat.pow_zero, Nat.mul_one] at h
    omega
theorem n_up {B : Nat} {w : World} {L : List (Value × Nat × Bool)} {v1 : Value} {n1 : Nat} {k1 : Bool} (m : Nat) (hE : NEnv B w L) (h1 : (v1, n1, k1) ∈ L) (hm : m ≤ 8192) :
    Calls Tryd.prog 12 #[v1, .int .i64 (m : Nat)] w fun e w' => Below w.heap.size w w' ∧
      ((n1 * 2 ^ m < 18446744073709551616 ^ 128 ∧ ∃ v, e = .returned (.tuple #[v, .int .i64 0]) ∧ NEnv B w' ((v, n1 * 2 ^ m, true) :: L)) ∨
       (18446744073709551616 ^ 128 ≤ n1 * 2 ^ m ∧ ∃ a c, e = .returned (.tuple #[.slice a 0 c, .int .i64 3]) ∧ NEnv B w' L)) := by
  obtain ⟨a, ca, xs, rfl, ho1, hb1, rfl, hl1, -⟩ := hE.get h1
  refine (shift_any a _ ca (m : Nat) xs w rfl (by omega) (own64.room ho1).1 (own64.room ho1).2 (by omega) (by omega) (own64.rd ho1).2 hb1).mono ?_
  rintro e w' ⟨hb, a', c', k, zs, rfl, ho, hl, hT⟩
  have f1 := fl_le_128 hl1
  refine ⟨hb, ?_⟩
  rcases hT with ⟨h, _⟩ | ⟨_, h, _⟩ | ⟨_, _, h, rfl, hN⟩ | ⟨_, _, h, rfl, rfl⟩
  · omega
  · omega
  · rw [Int.natAbs_natCast] at h hN
    exact .inl ⟨h, _, rfl, hE.add hb (isn_of_num (own64.low ho hE.1) hN h)⟩
  · rw [Int.natAbs_natCast] at h
    exact .inr ⟨h, a', c', rfl, hE.below hb⟩
theorem n_bytes {B : Nat} {w : World} {L : List (Value × Nat × Bool)} {v1 : Value} {n1 : Nat} {k1 : Bool} (hE : NEnv B w L) (h1 : (v1, n1, k1) ∈ L) :
    Calls Tryd.prog 14 #[v1] w fun e w' => ∃ a c bs, e = .returned (.tuple #[.slice a bs.length c, .int .i64 0]) ∧ own8 w' w.heap.size (.slice a bs.length c) bs ∧ bs.length ≤ 1024 ∧ BNum bs n1 ∧ NEnv B w' L ∧ Below w.heap.size w w' := by
  obtain ⟨a, ca, xs, rfl, ho1, hb1, rfl, hl1, -⟩ := hE.get h1
  refine (bytes_any a _ ca xs w rfl (by omega) (own64.room ho1).1 (own64.rd ho1).2 hb1).mono ?_
  rintro e w' ⟨hb, a', c', k, bs, rfl, ho, hl, hT⟩
  have f1 := fl_le_128 hl1
  rcases hT with ⟨h, _⟩ | ⟨_, rfl, hN⟩
  · omega
  · exact ⟨a', c', bs, rfl, ho, hl, hN, hE.below hb, hb⟩
theorem n_bits2 {B : Nat} {w : World} {L : List (Value × Nat × Bool)} {v1 : Value} {n1 : Nat} {k1 : Bool} (hE : NEnv B w L) (h1 : (v1, n1, k1) ∈ L) :
    Calls Tryd.prog 33 #[v1] w fun e w' => ∃ k : Nat, e = .returned (.int .i64 (k : Nat)) ∧ BitsIs n1 k ∧ k ≤ 8192 ∧ w = w' := by
  obtain ⟨a, ca, xs, rfl, ho1, hb1, rfl, hl1, -⟩ := hE.get h1
  refine (bits_any a _ ca xs w rfl (by omega) (own64.room ho1).1 (own64.rd ho1).2 hb1).mono ?_
  rintro e w' ⟨⟨k, rfl, hk, hk2⟩, rfl⟩
  have f1 := fl_le_128 hl1
  exact ⟨k, rfl, hk, by omega, rfl⟩
theorem bits_pow {m k : Nat} (h : BitsIs (2 ^ m) k) : k = m + 1 := by
  have hp := Nat.two_pow_pos m
  rcases h with ⟨h, _⟩ | ⟨h0, h1, h2⟩
  · omega
  · have e1 := (Nat.pow_le_pow_iff_right (by decide : 1 < 2)).1 h1
    have e2 := (Nat.pow_lt_pow_iff_right (by decide : 1 < 2)).1 h2
    omega
theorem bits_len {bs : List Nat} {n k : Nat} (hB : BNum bs n) (h : BitsIs n k) : (k + 7) / 8 = bs.length := by
  rcases Nat.eq_zero_or_pos bs.length with h0 | hp
  · have hn : n = 0 := by rw [← hB.vl, List.length_eq_zero_iff.1 h0]; rfl
    rcases h with ⟨_, rfl⟩ | ⟨_, h1, _⟩
    · omega
    · have := Nat.two_pow_pos (k - 1); omega
  · have g1 := bval_ge (hB.cn hp)
    have g2 := bval_lt hB.b8
    rw [hB.vl] at g1 g2
    have e : ∀ q, (256 : Nat) ^ q = 2 ^ (8 * q) := fun q => by rw [show (256 : Nat) = 2 ^ 8 by decide, ← Nat.pow_mul]
    rw [e] at g1 g2
    have hpp := Nat.two_pow_pos (8 * (bs.length - 1))
    rcases h with ⟨h1, _⟩ | ⟨h0, h1, h2⟩
    · omega
    · have e1 := (Nat.pow_lt_pow_iff_right (by decide : 1 < 2)).1 (Nat.lt_of_le_of_lt h1 g2)
      have e2 := (Nat.pow_lt_pow_iff_right (by decide : 1 < 2)).1 (Nat.lt_of_le_of_lt g1 h2)
      omega
set_option exponentiation.threshold 10000 in
theorem bits_over {n m k : Nat} (h : BitsIs n k) (hm : 18446744073709551616 ^ 128 ≤ n * 2 ^ m) : 8192 < k + m := by
  have hp := Nat.two_pow_pos m
  rcases h with ⟨h1, _⟩ | ⟨h0, h1, h2⟩
  · rw [h1, Nat.zero_mul] at hm
    have := Nat.pow_pos (n := 128) (show 0 < 18446744073709551616 by decide)
    omega
  · have h3 : n * 2 ^ m < 2 ^ k * 2 ^ m := Nat.mul_lt_mul_of_pos_right h2 hp
    rw [← Nat.pow_add] at h3
    rw [pow_64] at hm
    exact (Nat.pow_lt_pow_iff_right (by decide : 1 < 2)).1 (Nat.lt_of_le_of_lt hm h3)
theorem n_lit {B : Nat} {w : World} {L : List (Value × Nat × Bool)} (hE : NEnv B w L) : NEnv B (w.alloc (.cells #[.int .u64 1] 55)) ((.slice (some ⟨w.heap.size, 0, none⟩) 1 1, 1, true) :: L) := by
  have hb : Below w.heap.size w (w.alloc (.cells #[.int .u64 1] 55)) := (Below.refl _ _).alloc (Nat.le_refl _) _
  have hown : own64 (w.alloc (.cells #[.int .u64 1] 55)) w.heap.size (.slice (some ⟨w.heap.size, 0, none⟩) 1 1) [1] :=
    own64_of_blk (zs := [1]) (c := 1) (heap_new w _) (Nat.le_refl _) (by decide) (by decide) rfl ⟨by decide, fun i hi => by
      obtain rfl : i = 0 := by simp at hi; omega
      rfl⟩
  refine hE.add hb (isn_of_num (own64.low hown hE.1) (num_of (by decide) (by decide) (by decide)) ?_)
  decide +kernel

set_option maxHeartbeats 1000000 in
theorem pick_any (i : Int) (w : World) (_h1 : -9223372036854775808 ≤ i) (_h2 : i ≤ 9223372036854775807) :
    Calls Tryd.prog 39 #[.int .i64 i, .int .i64 8192] w fun e w' => ∃ m : Nat, e = .returned (.int .i64 (m : Nat)) ∧ m < 8192 ∧ w = w' := by
  have g1 : i.tmod 8192 < 8192 := Int.tmod_lt_of_pos _ (by decide)
  have g2 : -8192 < i.tmod 8192 := by
    have h : (-i).tmod 8192 < 8192 := Int.tmod_lt_of_pos _ (by decide)
    rw [Int.neg_tmod] at h
    omega
  go_enter Tryd.func39, Tryd.ntmps39
  obtain ⟨t, ht⟩ : ∃ t, i.tmod 8192 = t := ⟨_, rfl⟩
  rw [ht] at g1 g2
  by_cases hn : t < 0
  · have hd : decide (t < 0) = true := by simp; omega
    go_wp2_with (simp only [ht])
    go_ret
    exact ⟨(t + 8192).toNat, ret_int (by omega), by omega, rfl⟩
  · have hd : decide (t < 0) = false := by simp; omega
    go_wp2_with (simp only [ht])
    go_ret
    exact ⟨t.toNat, ret_int (by omega), by omega, rfl⟩

theorem own8_rd {w : World} {B : Nat} {a : Option Addr} {n c : Nat} {zs : List Nat} (h : own8 w B (.slice a n c) zs) (hn : n = zs.length) : Rd .u8 w a zs ∧ n ≤ c := by
  rcases h.2 with ⟨hv, h0⟩ | ⟨g, c', cur, hv, _, _, hc, _⟩
  · simp only [Value.slice.injEq] at hv
    exact ⟨fun j hj => by omega, by omega⟩
  · simp only [Value.slice.injEq] at hv
    obtain ⟨rfl, h2, rfl⟩ := hv
    subst hn
    refine ⟨fun j hj => ⟨g, 0, rfl, fun i hi => ?_⟩, hc⟩
    rw [Nat.zero_add, World.ownsRow.cellAt h i (by omega)]
    exact u8s_at zs i hi
theorem n_from {B : Nat} {w : World} {L : List (Value × Nat × Bool)} {n1 : Nat} {a : Option Addr} {c : Nat} {bs : List Nat} (hE : NEnv B w L) (ho : own8 w B (.slice a bs.length c) bs) (hl : bs.length ≤ 1024) (hB : BNum bs n1) (hn : n1 < 18446744073709551616 ^ 128) :
    Calls Tryd.prog 38 #[.slice a bs.length c] w fun e w' => ∃ v, e = .returned (.tuple #[v, .int .i64 0]) ∧ NEnv B w' ((v, n1, true) :: L) ∧ Below w.heap.size w w' := by
  refine (from_any a _ c bs w rfl (by omega) (own8_rd ho rfl).2 hB.b8 (own8_rd ho rfl).1).mono ?_
  rintro e w' ⟨hb, hor⟩
  rcases hor with ⟨h, _⟩ | ⟨_, v, zs, rfl, ho2, hN⟩
  · rw [hB.vl] at h; omega
  · rw [hB.vl] at hN
    exact ⟨v, rfl, hE.add hb (isn_of_num (own64.low ho2 hE.1) hN hn), hb⟩
set_option exponentiation.threshold 10000 in
theorem pow_small {m : Nat} (h : m < 8192) : 1 * 2 ^ m < 18446744073709551616 ^ 128 := by
  rw [Nat.one_mul, pow_64]
  exact Nat.pow_lt_pow_right (by decide) (by omega)
theorem str_two0 (l : List UInt8) : (⟨#[48, 48]⟩ : ByteArray) ++ ⟨l.toArray⟩ = ⟨(48 :: 48 :: l).toArray⟩ := by
  have h : (⟨[48, 48].toArray⟩ : ByteArray) ++ ⟨l.toArray⟩ = ⟨([48, 48] ++ l).toArray⟩ := by rw [ByteArray.mk_append_mk]
  exact h
theorem dval_two0 (l : List UInt8) : dval (48 :: 48 :: l) = dval l := by
  rw [dval_cons, dval_cons]; simp
theorem decB_two0 {l : List UInt8} (hd : ∀ c ∈ l, isDig c = true) : decB (48 :: 48 :: l) = true := by
  unfold decB
  simp
  exact ⟨by decide, hd⟩

set_option maxHeartbeats 8000000 in
set_option maxRecDepth 100000 in
theorem nback_any (a1 : Option Addr) (l1 c1 : Nat) (xs1 : List Nat) (z : Int) (w : World) (hl1 : xs1.length = l1) (hb1 : l1 ≤ 9223372036854775807) (hr1 : Rd .u64 w a1 xs1) (bx1 : Bd xs1) (hz1 : -9223372036854775808 ≤ z) (hz2 : z ≤ 9223372036854775807) (hT : Trig w) :
    Calls Tryd.prog 7 #[.slice a1 l1 c1, .int .i64 z] w fun e w' => e = .returned (.bool true) ∧ Below w.heap.size w w' := by
  have HT := Lib.hid (fun (W : World) (h : Below w.heap.size w W) => hT.below h)
  have HS1 := Lib.hid (fun (W : World) (h : Below w.heap.size w W) => nsome_any a1 l1 c1 128 xs1 W hl1 hb1 (by decide) (hr1.below h) bx1)
  have HLA := Lib.hid (val_take_lt bx1 128)
  have HZ := Lib.hid (And.intro hz1 hz2)
  clear hT hl1 hb1 hr1 bx1 hz1 hz2
  generalize val (xs1.take 128) = A at *
  have HE : Hid (NEnv w.heap.size w [] ∧ Below w.heap.size w w) := ⟨⟨Nat.le_refl _, fun _ h => by cases h⟩, Below.refl _ _⟩
  go_enter Tryd.func7, Tryd.ntmps7
  go_wp2_with fail
  refine (HS1.out _ HE.out.2).mono ?_
  rintro e w1 ⟨vA, rfl, hI, hb⟩
  have hE := HE.out.1.add hb (hI.base HE.out.2.size)
  clear hI
  have HE := Lib.hid (And.intro hE (HE.out.2.trans (hb.mono HE.out.2.size)))
  clear hE hb
  go_wp2_with fail
  refine (n_norm (v1 := vA) HE.out.1 (by repeat first | exact List.mem_cons_self | apply List.mem_cons_of_mem)).mono ?_
  rintro e w2 ⟨nA, rfl, hE, hb⟩
  have HE := Lib.hid (And.intro hE (HE.out.2.trans (hb.mono HE.out.2.size)))
  clear hE hb
  go_wp2_with fail
  refine (n_text (v1 := vA) HE.out.1 (by repeat first | exact List.mem_cons_self | apply List.mem_cons_of_mem)).mono ?_
  rintro e w3 ⟨l, hd, rfl, hE, hb⟩
  have HE := Lib.hid (And.intro hE (HE.out.2.trans (hb.mono HE.out.2.size)))
  clear hE hb
  have hlen : l.length ≤ 2467 := hd.len_le HLA.out
  have HD := Lib.hid hd
  clear hd
  go_wp2_with fail
  rw [str_two0]
  refine (n_parse (n1 := A) ⟨(48 :: 48 :: l).toArray⟩ HE.out.1 (by simp [ByteArray.size]; omega) (decB_two0 HD.out.dig) ((dval_two0 l).trans HD.out.vl) HLA.out).mono ?_
  rintro e w4 ⟨vp, rfl, hE, hb⟩
  have HE := Lib.hid (And.intro hE (HE.out.2.trans (hb.mono HE.out.2.size)))
  clear hE hb
  go_wp2_with fail
  refine (n_bytes (v1 := vA) HE.out.1 (by repeat first | exact List.mem_cons_self | apply List.mem_cons_of_mem)).mono ?_
  rintro e w5 ⟨ab, cb, bs, rfl, hob, hbl8, hBN, hE, hb⟩
  have hob := owns_base hob HE.out.2.size
  have HE := Lib.hid (And.intro hE (HE.out.2.trans (hb.mono HE.out.2.size)))
  clear hE hb
  have HOB := Lib.hid hob
  have HBN := Lib.hid hBN
  clear hob hBN
  go_wp2_with fail
  refine (n_from (n1 := A) HE.out.1 HOB.out hbl8 HBN.out HLA.out).mono ?_
  rintro e w6 ⟨vl, rfl, hE, hb⟩
  have HOB := Lib.hid ((Chg.of_below hb).owns HOB.out (fun x hx => by have := (World.ownsRow.lt HOB.out x hx).2; show ¬ (_ ≤ x); omega))
  have HE := Lib.hid (And.intro hE (HE.out.2.trans (hb.mono HE.out.2.size)))
  clear hE hb
  go_wp2_with fail
  refine (n_same (v1 := vp) (v2 := nA) HE.out.1 (by repeat first | exact List.mem_cons_self | apply List.mem_cons_of_mem) (by repeat first | exact List.mem_cons_self | apply List.mem_cons_of_mem) rfl).mono ?_
  rintro e w7 ⟨rfl, hE, hb⟩
  have HOB := Lib.hid ((Chg.of_below hb).owns HOB.out (fun x hx => by have := (World.ownsRow.lt HOB.out x hx).2; show ¬ (_ ≤ x); omega))
  have HE := Lib.hid (And.intro hE (HE.out.2.trans (hb.mono HE.out.2.size)))
  clear hE hb
  go_wp2_with fail
  refine (n_same (v1 := vl) (v2 := nA) HE.out.1 (by repeat first | exact List.mem_cons_self | apply List.mem_cons_of_mem) (by repeat first | exact List.mem_cons_self | apply List.mem_cons_of_mem) rfl).mono ?_
  rintro e w8 ⟨rfl, hE, hb⟩
  have HOB := Lib.hid ((Chg.of_below hb).owns HOB.out (fun x hx => by have := (World.ownsRow.lt HOB.out x hx).2; show ¬ (_ ≤ x); omega))
  have HE := Lib.hid (And.intro hE (HE.out.2.trans (hb.mono HE.out.2.size)))
  clear hE hb
  have hr8 := (own8_rd HOB.out rfl).1
  have hl0 : 0 < l.length := List.length_pos_iff.2 HD.out.ne
  have hql : decide ((l.length : Int) < 1) = false := by rw [decide_eq_false_iff_not]; omega
  have hstr : (decide (1 < (l.length : Int)) = false) ∨ (decide (1 < (l.length : Int)) = true ∧ ((((⟨l.toArray⟩ : ByteArray)[0]'(by simp [ByteArray.size]; exact hl0)).toNat : Int) == 48) = false) := by
    rcases Nat.lt_or_ge 1 l.length with h | h
    · refine .inr ⟨by rw [decide_eq_true_iff]; omega, ?_⟩
      have hh := HD.out.hd h
      obtain ⟨c, t, rfl⟩ := List.exists_cons_of_ne_nil HD.out.ne
      have hc : c ≠ 48 := fun hc => hh (by rw [hc]; rfl)
      have h0 : ((c.toNat : Int) == 48) = false := by
        rw [beq_eq_false_iff_ne]; intro h; apply hc
        have : c.toNat = 48 := by omega
        exact UInt8.toNat_inj.1 this
      simpa [ByteArray.getElem_eq_getElem_data] using h0
    · exact .inl (by rw [decide_eq_false_iff_not]; omega)
  have hbs : (decide (0 < bs.length) = false) ∨ (decide (0 < bs.length) = true ∧ 0 < bs.length ∧ ∃ gb ob, ab = some ⟨gb, ob, none⟩ ∧ w8.cell? ⟨gb, ob, none⟩ = some (.int .u8 (at0 bs 0 : Nat)) ∧ ((at0 bs 0 : Int) == 0) = false) := by
    rcases Nat.eq_zero_or_pos bs.length with h | h
    · exact .inl (by rw [decide_eq_false_iff_not]; omega)
    · obtain ⟨gb, ob, rfl⟩ := hr8.isAt h
      have := HBN.out.cn h
      exact .inr ⟨by rw [decide_eq_true_iff]; omega, h, gb, ob, rfl, hr8.cell h, by rw [beq_eq_false_iff_ne]; omega⟩
  have HB8 := Lib.hid hbl8
  clear hr8 hob hbl8 HOB
  generalize hblen : bs.length = bl at *
  generalize at0 bs 0 = b0 at *
  have HBL := Lib.hid hblen
  clear hblen
  rcases hstr with hs1 | ⟨hs1, hs2⟩ <;> rcases hbs with hq1 | ⟨hq1, hq0, gb, ob, rfl, hq2, hq3⟩
  all_goals
    go_wp2_with fail
    refine (n_bits2 (v1 := vA) HE.out.1 (by repeat first | exact List.mem_cons_self | apply List.mem_cons_of_mem)).mono ?_
    rintro e w9 ⟨k, rfl, hk, hk2, rfl⟩
    have hkl : ((k : Int) + 7) / 8 = (bl : Int) := by
      have := bits_len HBN.out hk
      rw [HBL.out] at this
      omega
    have hkt : ((k : Int) + 7).tdiv 8 = (bl : Int) := by
      rw [Int.tdiv_eq_ediv_of_nonneg (by omega)]
      exact hkl
    have HBK := Lib.hid hk
    clear hk
    go_wp2_with fail
    refine (pick_any z _ HZ.out.1 HZ.out.2).mono ?_
    rintro e w9 ⟨m, rfl, hm, rfl⟩
    have HM := Lib.hid hm
    clear hkl hkt hql
    go_wp2_with fail
    refine (n_up (v1 := vA) m HE.out.1 (by repeat first | exact List.mem_cons_self | apply List.mem_cons_of_mem) (by omega)).mono ?_
    rintro e wu ⟨hb, hu⟩
    have HBB := Lib.hid hb
    clear hb
    rcases hu with ⟨hfit, vu, rfl, hE⟩ | ⟨hov, au, cu, rfl, hE⟩
    · have HF := Lib.hid hfit
      clear hfit
      have HE := Lib.hid (And.intro hE (HE.out.2.trans (HBB.out.mono HE.out.2.size)))
      clear hE HBB
      go_wp2_with fail
      refine (n_up (v1 := .slice (some ⟨wu.heap.size, 0, none⟩) 1 1) m (n_lit HE.out.1) List.mem_cons_self (by omega)).mono ?_
      rintro e wp ⟨hb, hp⟩
      rcases hp with ⟨_, vw, rfl, hE⟩ | ⟨hov2, _⟩
      rotate_left
      · exact absurd hov2 (Nat.not_le.2 (pow_small hm))
      have HE := Lib.hid (And.intro hE ((HE.out.2.alloc HE.out.2.size _).trans (hb.mono (by have := HE.out.2.size; simp; omega))))
      clear hE hb
      go_wp2_with fail
      refine (n_bits2 (v1 := vw) HE.out.1 (by repeat first | exact List.mem_cons_self | apply List.mem_cons_of_mem)).mono ?_
      rintro e wb ⟨k4, rfl, hk4, hk5, rfl⟩
      obtain rfl : k4 = m + 1 := bits_pow (by rw [Nat.one_mul] at hk4; exact hk4)
      clear hk4 hk5
      go_wp2_with fail
      refine (n_div (v1 := vA) (v2 := vw) HE.out.1 (by repeat first | exact List.mem_cons_self | apply List.mem_cons_of_mem) (by repeat first | exact List.mem_cons_self | apply List.mem_cons_of_mem) (by rw [Nat.one_mul]; exact Nat.two_pow_pos m)).mono ?_
      rintro e wd ⟨vq, vr, rfl, hE, hb⟩
      have HE := Lib.hid (And.intro hE (HE.out.2.trans (hb.mono HE.out.2.size)))
      clear hE hb
      go_wp2_with fail
      refine (n_down (v1 := vA) (-(m : Int)) HE.out.1 (by repeat first | exact List.mem_cons_self | apply List.mem_cons_of_mem) (by omega) (by omega)).mono ?_
      rintro e we ⟨vd, rfl, hE, hb⟩
      have HE := Lib.hid (And.intro hE (HE.out.2.trans (hb.mono HE.out.2.size)))
      clear hE hb
      go_wp2_with fail
      refine (n_same (v1 := vq) (v2 := vd) HE.out.1 (by repeat first | exact List.mem_cons_self | apply List.mem_cons_of_mem) (by repeat first | exact List.mem_cons_self | apply List.mem_cons_of_mem) (by rw [Nat.one_mul, Int.natAbs_neg, Int.natAbs_natCast])).mono ?_
      rintro e wf ⟨rfl, hE, hb⟩
      have HE := Lib.hid (And.intro hE (HE.out.2.trans (hb.mono HE.out.2.size)))
      clear hE hb
      go_wp2_with fail
      refine (n_down (v1 := vu) (-(m : Int)) HE.out.1 (by repeat first | exact List.mem_cons_self | apply List.mem_cons_of_mem) (by omega) (by omega)).mono ?_
      rintro e wg ⟨vk, rfl, hE, hb⟩
      have HE := Lib.hid (And.intro hE (HE.out.2.trans (hb.mono HE.out.2.size)))
      clear hE hb
      go_wp2_with fail
      refine (n_mul (v1 := vA) (v2 := vw) HE.out.1 (HT.out _ HE.out.2) (by repeat first | exact List.mem_cons_self | apply List.mem_cons_of_mem) (by repeat first | exact List.mem_cons_self | apply List.mem_cons_of_mem) (by rw [Nat.one_mul]; exact HF.out)).mono ?_
      rintro e wh ⟨vt, rfl, hE, hb⟩
      have HE := Lib.hid (And.intro hE (HE.out.2.trans (hb.mono HE.out.2.size)))
      clear hE hb
      go_wp2_with fail
      refine (n_same (v1 := vk) (v2 := nA) HE.out.1 (by repeat first | exact List.mem_cons_self | apply List.mem_cons_of_mem) (by repeat first | exact List.mem_cons_self | apply List.mem_cons_of_mem) (by rw [Int.natAbs_neg, Int.natAbs_natCast, Nat.mul_div_cancel _ (Nat.two_pow_pos m)])).mono ?_
      rintro e wi ⟨rfl, hE, hb⟩
      have HE := Lib.hid (And.intro hE (HE.out.2.trans (hb.mono HE.out.2.size)))
      clear hE hb
      go_wp2_with fail
      refine (n_same (v1 := vt) (v2 := vu) HE.out.1 (by repeat first | exact List.mem_cons_self | apply List.mem_cons_of_mem) (by repeat first | exact List.mem_cons_self | apply List.mem_cons_of_mem) (by rw [Nat.one_mul])).mono ?_
      rintro e wj ⟨rfl, hE, hb⟩
      have HE := Lib.hid (And.intro hE (HE.out.2.trans (hb.mono HE.out.2.size)))
      clear hE hb
      go_wp2_with fail
      refine (works_any _).mono ?_
      rintro e wz ⟨rfl, hbz⟩
      have HZZ := Lib.hid (HE.out.2.trans (hbz.mono HE.out.2.size))
      clear hbz
      go_wp2
      go_ret
      exact ⟨rfl, HZZ.out⟩
    · have HF := Lib.hid hov
      clear hov
      have HE := Lib.hid (And.intro hE (HE.out.2.trans (HBB.out.mono HE.out.2.size)))
      clear hE HBB
      go_wp2_with fail
      refine (n_up (v1 := .slice (some ⟨wu.heap.size, 0, none⟩) 1 1) m (n_lit HE.out.1) List.mem_cons_self (by omega)).mono ?_
      rintro e wp ⟨hb, hp⟩
      rcases hp with ⟨_, vw, rfl, hE⟩ | ⟨hov2, _⟩
      rotate_left
      · exact absurd hov2 (Nat.not_le.2 (pow_small hm))
      have HE := Lib.hid (And.intro hE ((HE.out.2.alloc HE.out.2.size _).trans (hb.mono (by have := HE.out.2.size; simp; omega))))
      clear hE hb
      go_wp2_with fail
      refine (n_bits2 (v1 := vw) HE.out.1 (by repeat first | exact List.mem_cons_self | apply List.mem_cons_of_mem)).mono ?_
      rintro e wb ⟨k4, rfl, hk4, hk5, rfl⟩
      obtain rfl : k4 = m + 1 := bits_pow (by rw [Nat.one_mul] at hk4; exact hk4)
      clear hk4 hk5
      go_wp2_with fail
      refine (n_div (v1 := vA) (v2 := vw) HE.out.1 (by repeat first | exact List.mem_cons_self | apply List.mem_cons_of_mem) (by repeat first | exact List.mem_cons_self | apply List.mem_cons_of_mem) (by rw [Nat.one_mul]; exact Nat.two_pow_pos m)).mono ?_
      rintro e wd ⟨vq, vr, rfl, hE, hb⟩
      have HE := Lib.hid (And.intro hE (HE.out.2.trans (hb.mono HE.out.2.size)))
      clear hE hb
      go_wp2_with fail
      refine (n_down (v1 := vA) (-(m : Int)) HE.out.1 (by repeat first | exact List.mem_cons_self | apply List.mem_cons_of_mem) (by omega) (by omega)).mono ?_
      rintro e we ⟨vd, rfl, hE, hb⟩
      have HE := Lib.hid (And.intro hE (HE.out.2.trans (hb.mono HE.out.2.size)))
      clear hE hb
      go_wp2_with fail
      refine (n_same (v1 := vq) (v2 := vd) HE.out.1 (by repeat first | exact List.mem_cons_self | apply List.mem_cons_of_mem) (by repeat first | exact List.mem_cons_self | apply List.mem_cons_of_mem) (by rw [Nat.one_mul, Int.natAbs_neg, Int.natAbs_natCast])).mono ?_
      rintro e wf ⟨rfl, hE, hb⟩
      have HE := Lib.hid (And.intro hE (HE.out.2.trans (hb.mono HE.out.2.size)))
      clear hE hb
      go_wp2_with fail
      refine (n_bits2 (v1 := vA) HE.out.1 (by repeat first | exact List.mem_cons_self | apply List.mem_cons_of_mem)).mono ?_
      rintro e wg ⟨k6, rfl, hk6, hk7, rfl⟩
      have hq8 : decide ((8192 : Int) < (k6 : Int) + (m : Int)) = true := by
        have := bits_over hk6 HF.out
        rw [decide_eq_true_iff]; omega
      clear hk6
      go_wp2_with fail
      refine (works_any _).mono ?_
      rintro e wz ⟨rfl, hbz⟩
      have HZZ := Lib.hid (HE.out.2.trans (hbz.mono HE.out.2.size))
      clear hbz
      go_wp2
      go_ret
      exact ⟨rfl, HZZ.out⟩
end Go.Proofs.YteanpdiceaijhaaDoor
