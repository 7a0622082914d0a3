import Derived.Test.YteanpdiceaijhaaDoorKom
namespace Go.Proofs.YteanpdiceaijhaaDoor
open Go.RowKit

theorem n_div {B : Nat} {w : World} {L : List (Value × Nat × Bool)} {v1 v2 : Value} {n1 n2 : Nat} {k1 k2 : Bool} (hE : NEnv B w L) (h1 : (v1, n1, k1) ∈ L) (h2 : (v2, n2, k2) ∈ L) (h0 : 0 < n2) :
    Calls Tryd.prog 32 #[v1, v2] w fun e w' => ∃ q r, e = .returned (.tuple #[q, r, .int .i64 0]) ∧ NEnv B w' ((q, n1 / n2, true) :: (r, n1 % n2, true) :: L) ∧ Below w.heap.size w w' := by
  have hn1 := (hE.get h1).lt
  obtain ⟨a, ca, xs, rfl, ho1, hb1, rfl, hl1, -⟩ := hE.get h1
  obtain ⟨b, cb, ys, rfl, ho2, hb2, rfl, hl2, -⟩ := hE.get h2
  refine (quo_all a b _ _ ca cb xs ys w rfl rfl (by omega) (by omega) (own64.room ho1).1 (own64.room ho2).1 (own64.room ho1).2 (own64.rd ho1).2 (own64.rd ho2).2 hb1 hb2).mono ?_
  rintro e w' ⟨hb, hor⟩
  have f1 := fl_le_128 hl1
  have f2 := fl_le_128 hl2
  rcases hor with ⟨h, _⟩ | ⟨_, _, h, _⟩ | ⟨_, _, _, q, r, qs, rs, rfl, oq, or, nq, nr, _⟩
  · omega
  · omega
  · have hr := hE.add hb (isn_of_num (own64.low or hE.1) nr (Nat.lt_of_le_of_lt (Nat.mod_le _ _) hn1))
    refine ⟨q, r, rfl, ⟨hr.1, fun p hp => ?_⟩, hb⟩
    rcases List.mem_cons.1 hp with rfl | hp
    · exact isn_of_num (own64.low oq hE.1) nq (Nat.lt_of_le_of_lt (Nat.div_le_self _ _) hn1)
    · exact hr.2 p hp
theorem n_div0 {B : Nat} {w : World} {L : List (Value × Nat × Bool)} {v1 v2 : Value} {n1 n2 : Nat} {k1 k2 : Bool} (hE : NEnv B w L) (h1 : (v1, n1, k1) ∈ L) (h2 : (v2, n2, k2) ∈ L) (h0 : n2 = 0) :
    Calls Tryd.prog 32 #[v1, v2] w fun e w' => e = .returned (.tuple #[.slice none 0 0, .slice none 0 0, .int .i64 11]) ∧ NEnv B w' L ∧ Below w.heap.size w w' := by
  obtain ⟨a, ca, xs, rfl, ho1, hb1, rfl, hl1, -⟩ := hE.get h1
  obtain ⟨b, cb, ys, rfl, ho2, hb2, rfl, hl2, -⟩ := hE.get h2
  refine (quo_all a b _ _ ca cb xs ys w rfl rfl (by omega) (by omega) (own64.room ho1).1 (own64.room ho2).1 (own64.room ho1).2 (own64.rd ho1).2 (own64.rd ho2).2 hb1 hb2).mono ?_
  rintro e w' ⟨hb, hor⟩
  have f1 := fl_le_128 hl1
  have f2 := fl_le_128 hl2
  rcases hor with ⟨h, _⟩ | ⟨_, _, h, rfl⟩ | ⟨_, _, h, _⟩
  · omega
  · exact ⟨rfl, hE.below hb, hb⟩
  · omega
theorem n_bits {B : Nat} {w : World} {L : List (Value × Nat × Bool)} {v1 : Value} {n1 : Nat} {k1 : Bool} (hE : NEnv B w L) (h1 : (v1, n1, k1) ∈ L) :
    Calls Tryd.prog 33 #[v1] w fun e w' => ∃ k : Nat, e = .returned (.int .i64 (k : Nat)) ∧ (k = 0 ↔ n1 = 0) ∧ k ≤ 8192 ∧ w = w' := by
  obtain ⟨a, ca, xs, rfl, ho1, hb1, rfl, hl1, -⟩ := hE.get h1
  refine (bits_any a _ ca xs w rfl (by omega) (own64.room ho1).1 (own64.rd ho1).2 hb1).mono ?_
  rintro e w' ⟨⟨k, rfl, hk, hk2⟩, rfl⟩
  have f1 := fl_le_128 hl1
  refine ⟨k, rfl, ?_, by omega, rfl⟩
  rcases hk with ⟨h, h'⟩ | ⟨h, h', _⟩
  · omega
  · have := Nat.two_pow_pos (k - 1)
    omega
theorem n_zero {B : Nat} {w : World} {L : List (Value × Nat × Bool)} {v : Value} {n : Nat} (hE : NEnv B w L) (h1 : (v, n, true) ∈ L) (h0 : n = 0) : ∃ a c, v = .slice a 0 c := by
  subst h0
  obtain ⟨a, c, zs, rfl, _, _, _, _, hN⟩ := hE.get h1
  have := (hN rfl).unique Num.nil
  subst this
  exact ⟨a, c, rfl⟩

set_option maxHeartbeats 8000000 in
set_option maxRecDepth 100000 in
theorem nparts_any (a1 a2 : Option Addr) (l1 c1 l2 c2 : Nat) (xs1 xs2 : List Nat) (w : World) (hl1 : xs1.length = l1) (hb1 : l1 ≤ 9223372036854775807) (hr1 : Rd .u64 w a1 xs1) (bx1 : Bd xs1) (hl2 : xs2.length = l2) (hb2 : l2 ≤ 9223372036854775807) (hr2 : Rd .u64 w a2 xs2) (bx2 : Bd xs2) (hT : Trig w) (hZ : Tz w) :
    Calls Tryd.prog 5 #[.slice a1 l1 c1, .slice a2 l2 c2] w fun e w' => e = .returned (.bool true) ∧ Below w.heap.size w w' := by
  have HT := Lib.hid (fun (W : World) (h : Below w.heap.size w W) => hT.below h)
  have HZZ := Lib.hid (fun (W : World) (h : Below w.heap.size w W) => hZ.below h)
  have HS1 := Lib.hid (fun (W : World) (h : Below w.heap.size w W) => nsome_any a1 l1 c1 128 xs1 W hl1 hb1 (by decide) (hr1.below h) bx1)
  have HS2 := Lib.hid (fun (W : World) (h : Below w.heap.size w W) => nsome_any a2 l2 c2 128 xs2 W hl2 hb2 (by decide) (hr2.below h) bx2)
  have HLA := Lib.hid (val_take_lt bx1 128)
  clear hT hZ hl1 hb1 hr1 bx1 hl2 hb2 hr2 bx2
  generalize val (xs1.take 128) = A at *
  generalize val (xs2.take 128) = B at *
  have HE : Hid (NEnv w.heap.size w [] ∧ Below w.heap.size w w) := ⟨⟨Nat.le_refl _, fun _ h => by cases h⟩, Below.refl _ _⟩
  go_enter Tryd.func5, Tryd.ntmps5
  go_wp2_with fail
  refine (HS1.out _ HE.out.2).mono ?_
  rintro e w1 ⟨vA, rfl, hI, hb⟩
  have hE := HE.out.1.add hb (hI.base HE.out.2.size)
  clear hI
  have HE := Lib.hid (And.intro hE (HE.out.2.trans (hb.mono HE.out.2.size)))
  clear hE hb
  go_wp2_with fail
  refine (HS2.out _ HE.out.2).mono ?_
  rintro e w2 ⟨vB, rfl, hI, hb⟩
  have hE := HE.out.1.add hb (hI.base HE.out.2.size)
  clear hI
  have HE := Lib.hid (And.intro hE (HE.out.2.trans (hb.mono HE.out.2.size)))
  clear hE hb
  by_cases h0 : B = 0
  · have H0 := Lib.hid h0
    clear h0
    go_wp2_with fail
    refine (n_div0 (v1 := vA) (v2 := vB) HE.out.1 (by repeat first | exact List.mem_cons_self | apply List.mem_cons_of_mem) (by repeat first | exact List.mem_cons_self | apply List.mem_cons_of_mem) H0.out).mono ?_
    rintro e w3 ⟨rfl, hE, hb⟩
    have HE := Lib.hid (And.intro hE (HE.out.2.trans (hb.mono HE.out.2.size)))
    clear hE hb
    go_wp2_with fail
    refine (n_bits (v1 := vB) HE.out.1 (by repeat first | exact List.mem_cons_self | apply List.mem_cons_of_mem)).mono ?_
    rintro e w4 ⟨k4, rfl, hk, hk2, rfl⟩
    obtain rfl : k4 = 0 := hk.2 H0.out
    clear hk hk2
    go_wp2_with fail
    refine (works_any _).mono ?_
    rintro e wz ⟨rfl, hbz⟩
    have HZ := Lib.hid (HE.out.2.trans (hbz.mono HE.out.2.size))
    clear hbz
    go_wp2
    go_ret
    exact ⟨rfl, HZ.out⟩
  · have H0 : Hid (0 < B) := Nat.pos_of_ne_zero h0
    clear h0
    go_wp2_with fail
    refine (n_div (v1 := vA) (v2 := vB) HE.out.1 (by repeat first | exact List.mem_cons_self | apply List.mem_cons_of_mem) (by repeat first | exact List.mem_cons_self | apply List.mem_cons_of_mem) H0.out).mono ?_
    rintro e w5 ⟨vq, vr, rfl, hE, hb⟩
    have HE := Lib.hid (And.intro hE (HE.out.2.trans (hb.mono HE.out.2.size)))
    clear hE hb
    go_wp2_with fail
    refine (n_norm (v1 := vA) HE.out.1 (by repeat first | exact List.mem_cons_self | apply List.mem_cons_of_mem)).mono ?_
    rintro e w6 ⟨nA, rfl, hE, hb⟩
    have HE := Lib.hid (And.intro hE (HE.out.2.trans (hb.mono HE.out.2.size)))
    clear hE hb
    go_wp2_with fail
    refine (n_mul (v1 := vB) (v2 := vq) HE.out.1 (HT.out _ HE.out.2) (by repeat first | exact List.mem_cons_self | apply List.mem_cons_of_mem) (by repeat first | exact List.mem_cons_self | apply List.mem_cons_of_mem) (Nat.lt_of_le_of_lt (Nat.mul_div_le _ _) HLA.out)).mono ?_
    rintro e w7 ⟨p, rfl, hE, hb⟩
    have HE := Lib.hid (And.intro hE (HE.out.2.trans (hb.mono HE.out.2.size)))
    clear hE hb
    go_wp2_with fail
    refine (n_add (v1 := p) (v2 := vr) HE.out.1 (by repeat first | exact List.mem_cons_self | apply List.mem_cons_of_mem) (by repeat first | exact List.mem_cons_self | apply List.mem_cons_of_mem) (by rw [Nat.div_add_mod]; exact HLA.out)).mono ?_
    rintro e w8 ⟨s, rfl, hE, hb⟩
    have HE := Lib.hid (And.intro hE (HE.out.2.trans (hb.mono HE.out.2.size)))
    clear hE hb
    go_wp2_with fail
    refine (n_cmp (v1 := vr) (v2 := vB) HE.out.1 (by repeat first | exact List.mem_cons_self | apply List.mem_cons_of_mem) (by repeat first | exact List.mem_cons_self | apply List.mem_cons_of_mem)).mono ?_
    rintro e w9 ⟨rfl, hE, hb⟩
    have HE := Lib.hid (And.intro hE (HE.out.2.trans (hb.mono HE.out.2.size)))
    clear hE hb
    rw [show cmpI (A % B) B = -1 by unfold cmpI; rw [if_pos (Nat.mod_lt _ H0.out)]]
    go_wp2_with fail
    refine (n_same (v1 := s) (v2 := nA) HE.out.1 (by repeat first | exact List.mem_cons_self | apply List.mem_cons_of_mem) (by repeat first | exact List.mem_cons_self | apply List.mem_cons_of_mem) (Nat.div_add_mod ..)).mono ?_
    rintro e w10 ⟨rfl, hE, hb⟩
    have HE := Lib.hid (And.intro hE (HE.out.2.trans (hb.mono HE.out.2.size)))
    clear hE hb
    go_wp2_with fail
    refine (n_gcd (v1 := vA) (v2 := vB) HE.out.1 (HZZ.out _ HE.out.2) (by repeat first | exact List.mem_cons_self | apply List.mem_cons_of_mem) (by repeat first | exact List.mem_cons_self | apply List.mem_cons_of_mem)).mono ?_
    rintro e w11 ⟨m, rfl, hE, hb⟩
    have HE := Lib.hid (And.intro hE (HE.out.2.trans (hb.mono HE.out.2.size)))
    clear hE hb
    go_wp2_with fail
    refine (n_bits (v1 := m) HE.out.1 (by repeat first | exact List.mem_cons_self | apply List.mem_cons_of_mem)).mono ?_
    rintro e w12 ⟨k12, rfl, hk, hk2, rfl⟩
    have hg0 : 0 < Nat.gcd A B := Nat.gcd_pos_of_pos_right _ H0.out
    have hkk : ((k12 : Int) == 0) = false := by simp; omega
    have HG0 := Lib.hid hg0
    clear hk hg0
    go_wp2_with fail
    refine (n_div (v1 := vA) (v2 := m) HE.out.1 (by repeat first | exact List.mem_cons_self | apply List.mem_cons_of_mem) (by repeat first | exact List.mem_cons_self | apply List.mem_cons_of_mem) HG0.out).mono ?_
    rintro e w13 ⟨qA1, uA1, rfl, hE, hb⟩
    have HE := Lib.hid (And.intro hE (HE.out.2.trans (hb.mono HE.out.2.size)))
    clear hE hb
    obtain ⟨aA1, cA1, huA1⟩ := n_zero (v := uA1) HE.out.1 (by repeat first | exact List.mem_cons_self | apply List.mem_cons_of_mem) (Nat.mod_eq_zero_of_dvd (Nat.gcd_dvd_left _ _))
    subst huA1
    go_wp2_with fail
    refine (n_div (v1 := vB) (v2 := m) HE.out.1 (by repeat first | exact List.mem_cons_self | apply List.mem_cons_of_mem) (by repeat first | exact List.mem_cons_self | apply List.mem_cons_of_mem) HG0.out).mono ?_
    rintro e w14 ⟨qB1, uB1, rfl, hE, hb⟩
    have HE := Lib.hid (And.intro hE (HE.out.2.trans (hb.mono HE.out.2.size)))
    clear hE hb
    obtain ⟨aB1, cB1, huB1⟩ := n_zero (v := uB1) HE.out.1 (by repeat first | exact List.mem_cons_self | apply List.mem_cons_of_mem) (Nat.mod_eq_zero_of_dvd (Nat.gcd_dvd_right _ _))
    subst huB1
    go_wp2_with fail
    refine (works_any _).mono ?_
    rintro e wz ⟨rfl, hbz⟩
    have HZ := Lib.hid (HE.out.2.trans (hbz.mono HE.out.2.size))
    clear hbz
    go_wp2
    go_ret
    exact ⟨rfl, HZ.out⟩
end Go.Proofs.YteanpdiceaijhaaDoor
