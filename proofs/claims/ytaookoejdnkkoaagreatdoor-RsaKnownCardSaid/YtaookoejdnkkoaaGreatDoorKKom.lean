import Derived.Test.YtaookoejdnkkoaaGreatDoorKSb
import Derived.Test.YtaookoejdnkkoaaGreatDoorKHv
import Derived.Test.YtaookoejdnkkoaaGreatDoorKNLaws
import Derived.Test.YtaookoejdnkkoaaGreatDoorCards
import Derived.Test.YtaookoejdnkkoaaGreatDoorTie
import Derived.ChangeMaps5
import Derived.Deep.DeepHandedRow
import Derived.Deep.RegionWith
import Derived.LaidOnce
import Derived.Lay
import Derived.OpenShut
import Derived.ProofKit
import Derived.SevenTiedAt
import Derived.Shelf.Spec.TrailingZeros
namespace Go.Proofs.YtaookoejdnkkoaaGreatDoor
open Go.RowKit

theorem kn_low {B P u v t d1 d2 Q R D : Nat} (hR : R < (u * B + v + 1) * (B * P)) (hD : d1 * (B * P) + d2 * P ≤ D) (hQ : Q * d1 + t = u * B + v) (hb : (t + 1) * B ≤ Q * d2) : R < Q * D := by
  have h1 : Q * (d1 * (B * P) + d2 * P) ≤ Q * D := Nat.mul_le_mul_left _ hD
  have h2 : ((t + 1) * B) * P ≤ (Q * d2) * P := Nat.mul_le_mul_right _ hb
  have e2 : (u * B + v + 1) * (B * P) = (Q * d1 + t + 1) * (B * P) := by rw [← hQ]
  grind
/-- Not too small: the highest limbs alone. -/
theorem kn_low0 {B P u v t d1 Q R D q : Nat} (hR : R < (u * B + v + 1) * (B * P)) (hD : d1 * (B * P) ≤ D) (hQ : Q * d1 + t = u * B + v) (ht : t < d1) (hq : q * D ≤ R) : q ≤ Q := by
  apply Decidable.byContradiction; intro hn
  have h1 : (Q + 1) * D ≤ q * D := Nat.mul_le_mul_right _ (by omega)
  have h2 : (Q + 1) * (d1 * (B * P)) ≤ (Q + 1) * D := Nat.mul_le_mul_left _ hD
  have h3 : (u * B + v + 1) * (B * P) ≤ ((Q + 1) * d1) * (B * P) := Nat.mul_le_mul_right _ (by rw [Nat.add_mul, Nat.one_mul]; omega)
  grind
/-- The guess, kept: at most one too great. -/
theorem kn_up1 {B P u v t d1 d2 Q R D : Nat} (hR : (u * B + v) * (B * P) ≤ R) (hD : D < (d1 * B + d2 + 1) * P) (hD2 : d1 * (B * P) ≤ D) (hQ : Q * d1 + t = u * B + v) (hb : Q * d2 < (t + 1) * B) (hQB : Q < B) (hd1 : B ≤ 2 * d1) (hB : 4 ≤ B) : Q * D ≤ R + D := by
  have h1 : Q * D ≤ Q * ((d1 * B + d2 + 1) * P) := Nat.mul_le_mul_left _ (Nat.le_of_lt hD)
  have h2 : (Q * d2 + 1) * P ≤ ((t + 1) * B) * P := Nat.mul_le_mul_right _ hb
  have h3 : (Q + 1) * P ≤ B * P := Nat.mul_le_mul_right _ hQB
  have e2 : (u * B + v) * (B * P) = (Q * d1 + t) * (B * P) := by rw [← hQ]
  have h4 : 2 * (B * P) ≤ d1 * (B * P) := Nat.mul_le_mul_right _ (by omega)
  grind
/-- The guess, taken down: at most one too great. -/
theorem kn_up2 {B P u v t d1 Q R D : Nat} (hR : (u * B + v) * (B * P) ≤ R) (hD : D < (d1 + 1) * (B * P)) (hD2 : d1 * (B * P) ≤ D) (hQ : Q * d1 + t = u * B + v) (hQB : Q < B) (hd1 : B ≤ 2 * d1) : Q * D ≤ R + 2 * D := by
  have h1 : Q * D ≤ Q * ((d1 + 1) * (B * P)) := Nat.mul_le_mul_left _ (Nat.le_of_lt hD)
  have e2 : (u * B + v) * (B * P) = (Q * d1 + t) * (B * P) := by rw [← hQ]
  have h4 : Q * (B * P) ≤ (2 * d1) * (B * P) := Nat.mul_le_mul_right _ (by omega)
  grind
/-- The greatest guess. -/
theorem kn_top {B BP u d1 R D : Nat} (hR : u * B * BP ≤ R) (hD : D < (d1 + 1) * BP) (hu : d1 ≤ u) (hd1 : B ≤ 2 * d1) (hB : 2 ≤ B) : (B - 1) * D ≤ R + D := by
  have h1 : (B - 1) * D ≤ D + (B - 2) * D := by
    have : B - 1 = 1 + (B - 2) := by omega
    rw [this, Nat.add_mul, Nat.one_mul]; omega
  have h2 : (B - 2) * D ≤ (B - 2) * ((d1 + 1) * BP) := Nat.mul_le_mul_left _ (Nat.le_of_lt hD)
  have h3 : (d1 * B) * BP ≤ (u * B) * BP := Nat.mul_le_mul_right _ (Nat.mul_le_mul_right _ hu)
  have h4 : ((B - 2) * (d1 + 1)) * BP ≤ (d1 * B) * BP := by
    apply Nat.mul_le_mul_right
    obtain ⟨c, rfl⟩ : ∃ c, B = c + 2 := ⟨B - 2, by omega⟩
    rw [Nat.add_sub_cancel]
    grind
  grind

/-- A guess: how often, or one more. -/
def Guessed (t R D : Nat) : Prop := t < 18446744073709551616 ∧ R < (t + 1) * D ∧ t * D ≤ R + D
theorem val_top2 {xs : List Nat} {n : Nat} (hn : xs.length = n + 1) : val xs = val (xs.take n) + 18446744073709551616 ^ n * at0 xs n := by
  have h := val_at xs n (by omega)
  rw [List.drop_of_length_le (by omega)] at h
  simpa [val] using h

set_option maxHeartbeats 1000000 in
set_option maxRecDepth 100000 in
theorem guess_any (a b : Option Addr) (n ca cb : Nat) (rs ds : List Nat) (w : World) (hn : rs.length = n + 1) (hd : ds.length = n) (h2 : 2 ≤ n) (hn2 : n ≤ 1048576) (hra : Rd .u64 w a rs) (hrb : Rd .u64 w b ds) (br : Bd rs) (bd : Bd ds) (htop : 9223372036854775808 ≤ at0 ds (n - 1)) (hlt : val rs < 18446744073709551616 * val ds) :
    Calls Tryz.prog 243 #[.slice a (n + 1 : Nat) ca, .slice b n cb] w fun e w' => ∃ t : Nat, e = .returned (.int .u64 (t : Nat)) ∧ Guessed t (val rs) (val ds) ∧ ∃ m, w' = w.drewN m := by
  obtain ⟨ga, oa, rfl⟩ := hra.isAt (by omega)
  obtain ⟨gb, ob, rfl⟩ := hrb.isAt (by omega)
  have c0 := hra.cell (i := n) (by omega)
  have c1 := hra.cell (i := n - 1) (by omega)
  have d1 := hrb.cell (i := n - 1) (by omega)
  have d2 := hrb.cell (i := n - 2) (by omega)
  have u64 := br.at0 n
  have v64 := br.at0 (n - 1)
  have d164 := bd.at0 (n - 1)
  have d264 := bd.at0 (n - 2)
  -- the numbers by their highest limbs
  have e0 := val_top2 hn
  have e1 : val (rs.take n) = val (rs.take (n - 1)) + 18446744073709551616 ^ (n - 1) * at0 rs (n - 1) := by
    have := take_val_snoc (xs := rs) (k := n - 1) (by omega)
    rw [show n - 1 + 1 = n by omega] at this; exact this
  have f0 : val ds = val (ds.take (n - 1)) + 18446744073709551616 ^ (n - 1) * at0 ds (n - 1) := val_top2 (by omega)
  have f1 : val (ds.take (n - 1)) = val (ds.take (n - 2)) + 18446744073709551616 ^ (n - 2) * at0 ds (n - 2) := by
    have := take_val_snoc (xs := ds) (k := n - 2) (by omega)
    rw [show n - 2 + 1 = n - 1 by omega] at this; exact this
  have l0 := val_lt (br.take (n - 1))
  have l1 := val_lt (bd.take (n - 2))
  have l2 := val_lt (bd.take (n - 1))
  rw [List.length_take, Nat.min_eq_left (by omega)] at l0 l1 l2
  have p1 : 18446744073709551616 ^ (n - 1) = 18446744073709551616 * 18446744073709551616 ^ (n - 2) := by rw [show n - 1 = (n - 2) + 1 by omega, Nat.pow_succ, Nat.mul_comm]
  have p0 : 18446744073709551616 ^ n = 18446744073709551616 * 18446744073709551616 ^ (n - 1) := by rw [show n = (n - 1) + 1 by omega, Nat.pow_succ, Nat.mul_comm]; rfl
  have HVR : Hid ((at0 rs n * 18446744073709551616 + at0 rs (n - 1)) * (18446744073709551616 * 18446744073709551616 ^ (n - 2)) ≤ val rs ∧ val rs < (at0 rs n * 18446744073709551616 + at0 rs (n - 1) + 1) * (18446744073709551616 * 18446744073709551616 ^ (n - 2))) := by
    rw [p1] at l0 e1 p0
    rw [p0] at e0
    generalize 18446744073709551616 ^ (n - 2) = P at *
    constructor <;> grind
  have HVD : Hid (at0 ds (n - 1) * (18446744073709551616 * 18446744073709551616 ^ (n - 2)) + at0 ds (n - 2) * 18446744073709551616 ^ (n - 2) ≤ val ds ∧ val ds < (at0 ds (n - 1) * 18446744073709551616 + at0 ds (n - 2) + 1) * 18446744073709551616 ^ (n - 2)) := by
    rw [p1] at f0
    generalize 18446744073709551616 ^ (n - 2) = P at *
    constructor <;> grind
  have HLT := Lib.hid hlt
  have HVT := Lib.hid htop
  clear e0 e1 f0 f1 l0 l1 l2 p1 p0 hra hrb hlt br bd
  generalize 18446744073709551616 ^ (n - 2) = P at *
  generalize at0 rs n = u at *
  generalize at0 rs (n - 1) = v at *
  generalize at0 ds (n - 1) = t1 at *
  generalize at0 ds (n - 2) = t2 at *
  generalize val rs = R at *
  generalize val ds = D at *
  clear hn hd
  have n1 : (n : Int) - 1 = ((n - 1 : Nat) : Int) := by omega
  have n2 : (n : Int) - 2 = ((n - 2 : Nat) : Int) := by omega
  have b1 : n - 1 < n := by omega
  have b2 : n - 2 < n := by omega
  have b3 : ((n - 1 : Nat) : Int) < n := by omega
  have b4 : ((n - 2 : Nat) : Int) < n := by omega
  have b5 : (n : Int) < (n : Int) + 1 := by omega
  have b6 : ((n - 1 : Nat) : Int) < (n : Int) + 1 := by omega
  have b7 : n - 1 ≤ 1048576 := by omega
  have b8 : n - 2 ≤ 1048576 := by omega
  generalize n - 1 = j1 at *
  generalize n - 2 = j2 at *
  have hw1 : IntKind.i64.wrap (j1 : Int) = (j1 : Int) := by rw [IntKind.wrap_i64]; omega
  go_enter Tryz.func243, Tryz.ntmps243
  go_wp2_with fail
  go_quiet (fail)
  by_cases hut : t1 ≤ u
  · go_wp2
    go_ret
    have hD := HVD.out
    have hR := HVR.out
    have hvt := HVT.out
    refine ⟨18446744073709551615, rfl, ⟨by omega, ?_, ?_⟩, _, rfl⟩
    · have := HLT.out; omega
    · refine kn_top (B := 18446744073709551616) (BP := 18446744073709551616 * P) (u := u) (d1 := t1) ?_ ?_ hut (by omega) (by decide)
      · refine Nat.le_trans (Nat.mul_le_mul_right _ (Nat.le_add_right _ v)) hR.1
      · refine Nat.lt_of_lt_of_le hD.2 ?_
        have : (t1 * 18446744073709551616 + t2 + 1) * P ≤ ((t1 + 1) * 18446744073709551616) * P := Nat.mul_le_mul_right _ (by omega)
        rw [Nat.mul_assoc] at this; exact this
  · have hlt : u < t1 := by omega
    obtain ⟨w1, hw1⟩ : ∃ w1, w1 = w.drewN nq := ⟨_, rfl⟩
    have c0 : w1.cell? ⟨ga, oa + n, none⟩ = some (.int .u64 (u : Nat)) := by rw [hw1]; exact c0
    have c1 : w1.cell? ⟨ga, oa + j1, none⟩ = some (.int .u64 (v : Nat)) := by rw [hw1]; exact c1
    rw [← hw1]
    have HW1 := Lib.hid hw1
    clear hw1
    go_wp2
    obtain ⟨q, hq⟩ : ∃ q, q = (u * 18446744073709551616 + v) / t1 := ⟨_, rfl⟩
    obtain ⟨t, ht⟩ : ∃ t, t = (u * 18446744073709551616 + v) % t1 := ⟨_, rfl⟩
    have hqt : q * t1 + t = u * 18446744073709551616 + v := by rw [hq, ht, Nat.mul_comm]; exact Nat.div_add_mod _ _
    have htl : t < t1 := by rw [ht]; exact Nat.mod_lt _ (by omega)
    have hqb : q < 18446744073709551616 := by
      rw [hq, Nat.div_lt_iff_lt_mul (by omega)]
      have : (u + 1) * 18446744073709551616 ≤ t1 * 18446744073709551616 := Nat.mul_le_mul_right _ hlt
      omega
    have HDV : Hid (∀ W, Calls Tryz.prog 242 #[.int .u64 u, .int .u64 v, .int .u64 t1] W fun e w' => e = .returned (.tuple #[.int .u64 (q : Nat), .int .u64 (t : Nat)]) ∧ ∃ m, w' = W.drewN m) := fun W => (div64_any u v t1 d164 v64 hlt W).mono fun e w' hdp => by
      obtain ⟨q', t', k, he, h1, h2, _, _, h3⟩ := hdp
      rw [he, h1.out, h2.out, ← hq, ← ht]
      exact ⟨rfl, k, h3⟩
    have HQT := Lib.hid (And.intro hqt (And.intro htl hqb))
    clear hq ht hqt htl
    go_quiet ((go_at_call 242; refine Calls.quiet_of (HDV.out _)))
    go_wp2_with fail
    refine (mul64_any q t2 hqb d264 _).mono ?_
    rintro e w2 ⟨h, l, rfl, hm, hl, -, rfl⟩
    have HM := Lib.hid (And.intro hm.out hl)
    clear hm hl
    have hD := HVD.out
    have hR := HVR.out
    have hvt := HVT.out
    obtain ⟨k1, k2, k3⟩ := HQT.out
    have hDs : D < (t1 + 1) * (18446744073709551616 * P) := by
      refine Nat.lt_of_lt_of_le hD.2 ?_
      have : (t1 * 18446744073709551616 + t2 + 1) * P ≤ ((t1 + 1) * 18446744073709551616) * P := Nat.mul_le_mul_right _ (by omega)
      rw [Nat.mul_assoc] at this; exact this
    have hD1 : t1 * (18446744073709551616 * P) ≤ D := Nat.le_trans (Nat.le_add_right _ _) hD.1
    have hD0 : 0 < D := by have := HLT.out; omega
    have hlow : ∀ c, c * D ≤ R → c ≤ q := fun c hc => kn_low0 hR.2 hD1 k1 k2 hc
    have hgt : R < (q + 1) * D := by
      apply Decidable.byContradiction; intro hn
      have := hlow (q + 1) (by omega)
      omega
    by_cases hht : t < h
    · have hb : (t + 1) * 18446744073709551616 ≤ q * t2 := by
        have := HM.out.1
        have : (t + 1) * 18446744073709551616 ≤ h * 18446744073709551616 := Nat.mul_le_mul_right _ hht
        omega
      have hRq := kn_low hR.2 hD.1 k1 hb
      have hup := kn_up2 hR.1 hDs hD1 k1 k3 (by omega)
      have hq0 : 1 ≤ q := by
        apply Decidable.byContradiction; intro hn
        rw [show q = 0 by omega, Nat.zero_mul] at hRq
        omega
      have HF : Hid (Guessed (q - 1) R D) := ⟨by omega, by rw [Nat.sub_add_cancel hq0]; exact hRq, by
        have e : q * D = (q - 1) * D + D := by rw [← Nat.succ_mul, Nat.succ_eq_add_one, Nat.sub_add_cancel hq0]
        omega⟩
      clear hb hRq hup hgt hlow hD0 hD1 hDs hD hR hvt k1 k2 k3
      go_wp2
      go_ret
      exact ⟨q - 1, ret_int (by omega), HF.out, by rw [HW1.out, World.drewN_drewN]; exact ⟨_, rfl⟩⟩
    · have hb : q * t2 < (t + 1) * 18446744073709551616 := by
        have h1 := HM.out.1
        have h2 := HM.out.2
        have : h * 18446744073709551616 ≤ t * 18446744073709551616 := Nat.mul_le_mul_right _ (by omega)
        rw [Nat.add_mul, Nat.one_mul]
        omega
      have hup := kn_up1 hR.1 hD.2 hD1 k1 hb k3 (by omega) (by decide)
      have HF : Hid (Guessed q R D) := ⟨k3, hgt, hup⟩
      clear hb hup hgt hlow hD0 hD1 hDs hD hR hvt k1 k2 k3
      go_wp2
      go_ret
      exact ⟨q, rfl, HF.out, by rw [HW1.out, World.drewN_drewN]; exact ⟨_, rfl⟩⟩

theorem take_pure {t R D Rn Bn u z cy : Nat} (hg : Guessed t R D) (hR : R = Rn + Bn * u) (_hRn : Rn < Bn) (hD : D < Bn) (hz : z + t * D = Rn + Bn * cy) (hzb : z < Bn) :
    (cy ≤ u → t = R / D ∧ z = R % D) ∧ (u < cy → t = R / D + 1 ∧ z + D = Bn + R % D) := by
  obtain ⟨_, g1, g2⟩ := hg
  have hD0 : 0 < D := by
    apply Nat.pos_of_ne_zero; intro h; subst h; omega
  have hd := Nat.div_add_mod R D
  have hr := Nat.mod_lt R hD0
  rw [Nat.mul_comm] at hd
  generalize R / D = q at *
  generalize R % D = r at *
  have hqt : q ≤ t := by
    apply Decidable.byContradiction; intro hn
    have : (t + 1) * D ≤ q * D := Nat.mul_le_mul_right _ (by omega)
    omega
  have htq : t ≤ q + 1 := by
    apply Decidable.byContradiction; intro hn
    have : (q + 2) * D ≤ t * D := Nat.mul_le_mul_right _ (by omega)
    rw [Nat.add_mul] at this
    omega
  have ht : t = q ∨ t = q + 1 := by omega
  rcases ht with rfl | rfl
  · constructor
    · intro hc
      refine ⟨rfl, ?_⟩
      rcases Nat.lt_or_ge cy u with h | h
      · have : Bn * (cy + 1) ≤ Bn * u := Nat.mul_le_mul_left _ h
        rw [Nat.mul_add, Nat.mul_one] at this
        omega
      · obtain rfl : cy = u := by omega
        omega
    · intro hc
      have : Bn * (u + 1) ≤ Bn * cy := Nat.mul_le_mul_left _ hc
      rw [Nat.mul_add, Nat.mul_one] at this
      omega
  · rw [Nat.add_mul, Nat.one_mul] at hz
    constructor
    · intro hc
      have : Bn * cy ≤ Bn * u := Nat.mul_le_mul_left _ hc
      omega
    · intro hc
      refine ⟨rfl, ?_⟩
      rcases Nat.lt_or_ge (u + 1) cy with h | h
      · have : Bn * (u + 2) ≤ Bn * cy := Nat.mul_le_mul_left _ h
        rw [Nat.mul_add] at this
        omega
      · obtain rfl : cy = u + 1 := by omega
        rw [Nat.mul_add, Nat.mul_one] at hz
        omega
theorem raise_pure {z z2 D Bn r cy : Nat} (h : z + D = Bn + r) (h4 : z2 + Bn * cy = z + D) (hz : z2 < Bn) (hc : cy ≤ 1) (_hr : r < Bn) : z2 = r := by
  have : cy = 0 ∨ cy = 1 := by omega
  rcases this with rfl | rfl
  · rw [Nat.mul_zero] at h4; omega
  · rw [Nat.mul_one] at h4; omega

set_option maxHeartbeats 2000000 in
set_option maxRecDepth 100000 in
theorem takeOff_any (g off n c : Nat) (cur : Array Value) (rs : List Nat) (b : Option Addr) (cb : Nat) (ds : List Nat) (w : World) (hb : Blk w g cur) (hs : Sg cur off rs) (hn : rs.length = n + 1) (hc : n + 1 ≤ c) (hd : ds.length = n) (h2 : 2 ≤ n) (hn2 : n ≤ 1048576) (br : Bd rs)
    (hrb : Rd .u64 w b ds) (bd : Bd ds) (htop : 9223372036854775808 ≤ at0 ds (n - 1)) (hlt : val rs < 18446744073709551616 * val ds) (hne : ∀ p, b = some p → p.block ≠ g) :
    Calls Tryz.prog 224 #[.slice (some ⟨g, off, none⟩) (n + 1 : Nat) c, .slice b n cb] w fun e w' => ∃ zs, e = .returned (.int .u64 ((val rs / val ds : Nat) : Int)) ∧ zs.length = n ∧ Bd zs ∧ val zs = val rs % val ds ∧ Blk w' g (putL cur off zs) ∧ Chg (fun k => k = g) w w' := by
  have HG := Lib.hid (guess_any (some ⟨g, off, none⟩) b n c cb rs ds w hn hd h2 hn2 (Sg.rd hs hb) hrb br bd htop hlt)
  have hs' : Sg cur off (rs.take n) := ⟨by have := hs.1; rw [List.length_take]; omega, fun i hi => by
    rw [List.length_take] at hi
    rw [hs.2 i (by omega), at0_take (by omega)]⟩
  have hl' : (rs.take n).length = n := by rw [List.length_take]; omega
  have HLT := Lib.hid (fun W t (hB : Blk W g cur) (hr : Rd .u64 W b ds) (ht : t < 18446744073709551616) => lowerTimes_any g off n c cur (rs.take n) b cb ds t W hB hs' hl' (by omega) (br.take n) hr hd bd ht hne)
  have hcn : cur[off + n]? = some (.int .u64 (at0 rs n : Nat)) := hs.2 n (by omega)
  have hsz : off + n + 1 ≤ cur.size := by have := hs.1; omega
  have HV := Lib.hid (val_top2 hn)
  have HT := Lib.hid (val_lt (br.take n))
  have HDL := Lib.hid (val_lt bd)
  have hu := br.at0 n
  have HB := Lib.hid hb
  have HR := Lib.hid hrb
  have HBD := Lib.hid (And.intro bd hd)
  have HCN := Lib.hid hcn
  have HLL := Lib.hid hl'
  have HLB := Lib.hid hlt
  rw [hl'] at HT
  rw [hd] at HDL
  clear hb hs hn hd br hrb bd htop hlt hs' hl' hcn
  generalize at0 rs n = u at *
  generalize val (rs.take n) = Rn at *
  generalize val rs = R at *
  generalize hDD : val ds = D at *
  have HDD := Lib.hid hDD
  clear hDD
  have b5 : (n : Int) < (n : Int) + 1 := by omega
  have b6 : n ≤ c := by omega
  go_enter Tryz.func224, Tryz.ntmps224
  go_wp2_with fail
  refine HG.out.mono ?_
  rintro e w1 ⟨t, rfl, hg, m, rfl⟩
  have HGU := Lib.hid hg
  have ht := hg.1
  clear hg
  obtain ⟨w1, hw1⟩ : ∃ w1, w1 = w.drewN m := ⟨_, rfl⟩
  rw [← hw1]
  have HB1 : Hid (Blk w1 g cur) := by show Blk _ _ _; rw [hw1]; exact HB.out
  have HR1 : Hid (Rd .u64 w1 b ds) := by show Rd _ _ _ _; rw [hw1]; exact HR.out
  have HC1 : Hid (Chg (fun k => k = g) w w1) := by show Chg _ _ _; rw [hw1]; exact (Chg.refl _ _).drewM m
  clear hw1
  have c1 : w1.cell? ⟨g, off + n, none⟩ = some (.int .u64 (u : Nat)) := by rw [Blk.cell HB1.out]; exact HCN.out
  go_wp2_with fail
  go_region_with (go_at_call 244; refine (HLT.out _ t ?_ ?_ ht).mono ?_; exact HB1.out; exact HR1.out; rintro e w2 ⟨cy, zs, rfl, hzl, hzb, hcy, hzv, hbk, hch⟩; have c2 : w2.cell? ⟨g, off + n, none⟩ = some (.int .u64 (u : Nat)) := (by rw [Blk.cell hbk, putL_out (by omega) (by omega)]; exact HCN.out); have HZ := Lib.hid (And.intro hzl (And.intro hzb (And.intro hzv (And.intro hbk hch)))); clear hzl hzb hzv hbk hch c1)
  all_goals
    (by_cases hgt : u < cy
     · obtain ⟨hz1, hz2, hz3, hz4, hz5⟩ := HZ.out
       have hp := (take_pure HGU.out HV.out HT.out HDL.out hz3 (by have := val_lt hz2; rw [hz1] at this; exact this)).2 hgt
       have HPP := Lib.hid hp
       have HBK := Lib.hid hz4
       have HSG : Hid (Sg (putL cur off zs) off zs) := putL_sg (by rw [hz1]; omega)
       have HRD : Hid (Rd .u64 w2 b ds) := hz5.rd HR1.out hne
       have HCH := Lib.hid (HC1.out.trans (Chg.trans (Chg.refl _ _).drew hz5))
       have HZL := Lib.hid (And.intro hz1 hz2)
       clear hp hz1 hz2 hz3 hz4 hz5 HZ c2
       have hq1 : decide (u < cy) = true := by rw [decide_eq_true_iff]; exact hgt
       have ht1 : 1 ≤ t := by rw [HPP.out.1]; exact Nat.le_add_left _ _
       go_wp2_with fail
       refine (raise_any g off n c (putL cur off zs) zs b n cb ds _ HBK.out HSG.out HZL.out.1 (by omega) HZL.out.2 HRD.out HBD.out.2 (Nat.le_refl _) HBD.out.1 hne).mono ?_
       rintro e w3 ⟨cy2, zs2, rfl, h1, h2, h3, h4, h5, h6⟩
       have HF : Hid (zs2.length = n ∧ Bd zs2 ∧ val zs2 = R % D ∧ Blk w3 g (putL cur off zs2) ∧ Chg (fun k => k = g) w w3) := by
         refine ⟨h1, h2, ?_, ?_, HCH.out.trans ?_⟩
         · have := val_lt h2
           rw [h1] at this
           rw [HDD.out] at h4
           exact raise_pure HPP.out.2 h4 this h3 (Nat.lt_of_lt_of_le (Nat.mod_lt _ (by have := HLB.out; omega)) (Nat.le_of_lt HDL.out))
         · rw [putL_putL (by have := HZL.out.1; omega) (by rw [HZL.out.1, h1])] at h5; exact h5
         · exact h6
       clear h1 h2 h3 h4 h5 h6
       go_wp2
       go_ret
       exact ⟨zs2, ret_int (by have := HPP.out.1; omega), HF.out⟩
     · obtain ⟨hz1, hz2, hz3, hz4, hz5⟩ := HZ.out
       have hp := (take_pure HGU.out HV.out HT.out HDL.out hz3 (by have := val_lt hz2; rw [hz1] at this; exact this)).1 (by omega)
       have HF : Hid (t = R / D ∧ zs.length = n ∧ Bd zs ∧ val zs = R % D ∧ Blk w2 g (putL cur off zs) ∧ Chg (fun k => k = g) w w2) := ⟨hp.1, hz1, hz2, hp.2, hz4, HC1.out.trans (Chg.trans (Chg.refl _ _).drew hz5)⟩
       clear hp hz1 hz2 hz3 hz4 hz5 HZ c2
       have hq1 : decide (u < cy) = false := by rw [decide_eq_false_iff_not]; exact hgt
       go_wp2
       go_ret
       exact ⟨zs, ret_int (by have := HF.out.1; omega), HF.out.2⟩)

theorem top_ok {V Lo y s m : Nat} (hm : 1 ≤ m) (hV : V = Lo + 18446744073709551616 ^ (m - 1) * y) (hLo : Lo < 18446744073709551616 ^ (m - 1)) (hs : s ≤ 63) (h1 : 9223372036854775808 ≤ y * 2 ^ s) (h2 : y * 2 ^ s < 18446744073709551616) :
    V * 2 ^ s < 18446744073709551616 ^ m ∧ 9223372036854775808 * 18446744073709551616 ^ (m - 1) ≤ V * 2 ^ s := by
  have hP : 18446744073709551616 ^ m = 18446744073709551616 ^ (m - 1) * 18446744073709551616 := by rw [← Nat.pow_succ]; congr 1; omega
  rw [hP]
  generalize 18446744073709551616 ^ (m - 1) = Q at *
  have hB : (18446744073709551616 : Nat) = 2 ^ (64 - s) * 2 ^ s := by rw [← Nat.pow_add, show 64 - s + s = 64 by omega]
  have hy : y + 1 ≤ 2 ^ (64 - s) := by
    apply Decidable.byContradiction; intro hn
    have : 2 ^ (64 - s) * 2 ^ s ≤ y * 2 ^ s := Nat.mul_le_mul_right _ (by omega)
    omega
  have hy2 : (y + 1) * 2 ^ s ≤ 18446744073709551616 := by rw [hB]; exact Nat.mul_le_mul_right _ hy
  have hV2 : V < Q * (y + 1) := by rw [hV, Nat.mul_add, Nat.mul_one]; omega
  constructor
  · have k1 : V * 2 ^ s < Q * (y + 1) * 2 ^ s := Nat.mul_lt_mul_of_pos_right hV2 (Nat.two_pow_pos s)
    have k2 : Q * ((y + 1) * 2 ^ s) ≤ Q * 18446744073709551616 := Nat.mul_le_mul_left _ hy2
    rw [← Nat.mul_assoc] at k2
    omega
  · have k1 : Q * 9223372036854775808 ≤ Q * (y * 2 ^ s) := Nat.mul_le_mul_left _ h1
    have k2 : Q * y * 2 ^ s ≤ V * 2 ^ s := Nat.mul_le_mul_right _ (by rw [hV]; omega)
    rw [← Nat.mul_assoc] at k1
    rw [Nat.mul_comm 9223372036854775808]
    omega

theorem own64_fore {w : World} {B : Nat} {a : Option Addr} {n c k : Nat} {zs : List Nat} (h : own64 w B (.slice a n c) zs) (hk : k ≤ zs.length) : own64 w B (.slice a k c) (zs.take k) := by
  have hn := (own64.rd h).1
  rcases h.2 with ⟨hv, h0⟩ | ⟨g, c1, cur, hv, hb, hg, hnc, hm, hs, ht⟩
  · cases hv
    obtain rfl : k = 0 := by omega
    rw [List.take_zero]
    exact own64_nil w B
  · cases hv
    obtain ⟨g2, cur2, e1, e2, e3, e4, e5, e6, e7, e8⟩ := own64.blk h
    cases e1
    have h1 : (zs.take k).length = k := by rw [List.length_take]; omega
    have := own64_of_blk (B := B) (zs := zs.take k) (c := c) e4 e3 (by omega) e6 e7 ⟨by rw [h1]; have := e8.1; omega, fun i hi => by rw [h1] at hi; rw [at0_take hi]; exact e8.2 i (by omega)⟩
    rw [h1] at this
    exact this
theorem own64.low {w : World} {B B' : Nat} {v : Value} {zs : List Nat} (h : own64 w B v zs) (hb : B' ≤ B) : own64 w B' v zs := by
  refine ⟨h.1, ?_⟩
  rcases h.2 with h0 | ⟨g, cap, cur, hv, hg, rest⟩
  · exact .inl h0
  · exact .inr ⟨g, cap, cur, hv, Nat.le_trans hb hg, rest⟩
/-- The divisor's limbs once lifted. -/
theorem lifted {wb : List Nat} {D m : Nat} (hl : wb.length = m + 1) (hb : Bd wb) (hv : val wb = D) (hm : 1 ≤ m) (h1 : D < 18446744073709551616 ^ m) (h2 : 9223372036854775808 * 18446744073709551616 ^ (m - 1) ≤ D) :
    fl wb = m ∧ 9223372036854775808 ≤ at0 (wb.take m) (m - 1) ∧ val (wb.take m) = D := by
  have hf := (fl_spec wb).1
  have hnum := num_fm hb
  rw [hv] at hnum
  have k1 := hnum.len_le (k := m)
  have k2 := hnum.len_le (k := m - 1)
  rw [fm_length] at k1 k2
  have e1 := k1.2 h1
  have e2 : ¬ fl wb ≤ m - 1 := by
    intro h
    have := k2.1 h
    have hp : 0 < 18446744073709551616 ^ (m - 1) := Nat.pow_pos (by decide)
    omega
  have hfl : fl wb = m := by omega
  have hval : val (wb.take m) = D := by
    have := fm_val wb
    rw [fm, hfl] at this
    rw [this, hv]
  refine ⟨hfl, ?_, hval⟩
  have hlen : (wb.take m).length = m - 1 + 1 := by rw [List.length_take]; omega
  have ht := val_top2 hlen
  rw [hval] at ht
  have hlo := val_lt ((hb.take m).take (m - 1))
  rw [List.length_take, hlen, Nat.min_eq_left (by omega)] at hlo
  apply Decidable.byContradiction
  intro hn
  have h3 : 18446744073709551616 ^ (m - 1) * (at0 (wb.take m) (m - 1) + 1) ≤ 18446744073709551616 ^ (m - 1) * 9223372036854775808 := Nat.mul_le_mul_left _ (by omega)
  rw [Nat.mul_add, Nat.mul_one] at h3
  rw [Nat.mul_comm] at h2
  omega

/-- The part of the rest that the round looks at. -/
theorem piece_ok {rr : List Nat} {k m D : Nat} (hb : Bd rr) (hl : k + 1 + m ≤ rr.length) (h : val (rr.take (k + 1 + m)) < D * 18446744073709551616 ^ (k + 1)) :
    val (rr.take (k + 1 + m)) = val (rr.take k) + 18446744073709551616 ^ k * val ((rr.drop k).take (m + 1)) ∧ val ((rr.drop k).take (m + 1)) < 18446744073709551616 * D ∧ val (rr.take k) < 18446744073709551616 ^ k := by
  have h1 := val_take_drop (rr.take (k + 1 + m)) k (by rw [List.length_take]; omega)
  rw [List.take_take, Nat.min_eq_left (by omega), List.drop_take, show k + 1 + m - k = m + 1 by omega] at h1
  have h2 := val_lt (hb.take k)
  rw [List.length_take, Nat.min_eq_left (by omega)] at h2
  refine ⟨h1, ?_, h2⟩
  apply Decidable.byContradiction
  intro hn
  have h3 : 18446744073709551616 ^ k * (18446744073709551616 * D) ≤ 18446744073709551616 ^ k * val ((rr.drop k).take (m + 1)) := Nat.mul_le_mul_left _ (by omega)
  have e : D * 18446744073709551616 ^ (k + 1) = 18446744073709551616 ^ k * (18446744073709551616 * D) := by rw [Nat.pow_succ]; simp only [Nat.mul_assoc, Nat.mul_comm]
  omega

theorem spl_take {ws zs : List Nat} {off : Nat} (h : off ≤ ws.length) : (spl ws off zs).take (off + zs.length) = ws.take off ++ zs := by
  have h1 : (ws.take off).length = off := by simp; omega
  rw [spl, ← List.append_assoc, List.take_append_of_le_length (by simp; omega), List.take_of_length_le (by simp; omega)]

/-- One round. -/
theorem round_ok {rr zs qq : List Nat} {k m D X : Nat} (hb : Bd rr) (hl : k + 1 + m ≤ rr.length) (hz : zs.length = m) (hq : k < qq.length) (hD : 0 < D)
    (h1 : X = D * val (qq.drop (k + 1)) * 18446744073709551616 ^ (k + 1) + val (rr.take (k + 1 + m))) (h2 : val (rr.take (k + 1 + m)) < D * 18446744073709551616 ^ (k + 1))
    (h3 : val zs = val ((rr.drop k).take (m + 1)) % D) :
    X = D * val ((qq.set k (val ((rr.drop k).take (m + 1)) / D)).drop k) * 18446744073709551616 ^ k + val ((spl rr k zs).take (k + m)) ∧ val ((spl rr k zs).take (k + m)) < D * 18446744073709551616 ^ k := by
  obtain ⟨p1, _, p3⟩ := piece_ok hb hl h2
  generalize val ((rr.drop k).take (m + 1)) = P at *
  have hdm := Nat.div_add_mod P D
  have hml := Nat.mod_lt P hD
  have e1 : (qq.set k (P / D)).drop k = (P / D) :: qq.drop (k + 1) := by
    rw [List.drop_eq_getElem_cons (by rw [List.length_set]; exact hq), List.getElem_set_self, List.drop_set_of_lt (by omega)]
  have e2 : val ((spl rr k zs).take (k + m)) = val (rr.take k) + 18446744073709551616 ^ k * val zs := by
    rw [← hz, spl_take (by omega), val_append, List.length_take, Nat.min_eq_left (by omega)]
  rw [e1, e2, val_cons, h3, h1, p1]
  generalize P / D = q at *
  generalize P % D = r at *
  generalize val (qq.drop (k + 1)) = T at *
  generalize val (rr.take k) = L at *
  rw [Nat.pow_succ] at *
  generalize 18446744073709551616 ^ k = Bk at *
  subst hdm
  constructor
  · simp only [Nat.mul_add, Nat.mul_assoc, Nat.mul_comm, Nat.mul_left_comm]
    omega
  · have : Bk * (r + 1) ≤ Bk * D := Nat.mul_le_mul_left _ hml
    rw [Nat.mul_add, Nat.mul_one, Nat.mul_comm Bk D] at this
    omega

/-- The first round's bound. -/
theorem start_ok {A s D n m : Nat} (hA : A < 18446744073709551616 ^ n) (hs : s ≤ 63) (h2 : 9223372036854775808 * 18446744073709551616 ^ (m - 1) ≤ D) (hm : 1 ≤ m) (hmn : m ≤ n) :
    A * 2 ^ s < D * 18446744073709551616 ^ (n + 1 - m) := by
  have h3 : 9223372036854775808 * 18446744073709551616 ^ (m - 1) * 18446744073709551616 ^ (n + 1 - m) ≤ D * 18446744073709551616 ^ (n + 1 - m) := Nat.mul_le_mul_right _ h2
  rw [Nat.mul_assoc, ← Nat.pow_add, show m - 1 + (n + 1 - m) = n by omega] at h3
  have h4 : 2 ^ s ≤ 2 ^ 63 := Nat.pow_le_pow_right (by decide) hs
  have h5 : A * 2 ^ s ≤ A * 2 ^ 63 := Nat.mul_le_mul_left _ h4
  rw [show (2 : Nat) ^ 63 = 9223372036854775808 by decide] at h5
  omega

/-- What the last round leaves. -/
theorem end_ok {A Y s Q R : Nat} (h : A * 2 ^ s = Y * 2 ^ s * Q + R) (hR : R < Y * 2 ^ s) : A = Y * Q + R / 2 ^ s ∧ R / 2 ^ s < Y := by
  have hp := Nat.two_pow_pos s
  constructor
  · have h1 : A * 2 ^ s / 2 ^ s = A := Nat.mul_div_cancel _ hp
    rw [h, show Y * 2 ^ s * Q + R = R + 2 ^ s * (Y * Q) by rw [Nat.mul_right_comm, Nat.mul_comm (Y * Q), Nat.add_comm], Nat.add_mul_div_left _ _ hp] at h1
    omega
  · exact (Nat.div_lt_iff_lt_mul hp).2 hR

set_option maxHeartbeats 4000000 in
set_option maxRecDepth 100000 in
theorem divide_many {xs ys : List Nat} (bx : Bd xs) (bY : Bd ys) (hl : 2 ≤ ys.length) (hcy : Cn ys) (hbx : xs.length ≤ 1048576) (hby : ys.length ≤ 1048575) : DivideFor xs ys := by
  intro a b ca cb w hra hrb hca hcb hnone
  have HNO := Lib.hid hnone
  clear hnone
  obtain ⟨n, hn⟩ : ∃ n, n = xs.length := ⟨_, rfl⟩
  obtain ⟨m, hm⟩ : ∃ m, m = ys.length := ⟨_, rfl⟩
  rw [← hn] at hbx hca ⊢
  rw [← hm] at hcb hl hby ⊢
  have HNL := Lib.hid hn
  have HML := Lib.hid hm
  have HX := Lib.hid bx
  have HY := Lib.hid (And.intro bY hcy)
  clear hn hm bx bY hcy
  go_enter Tryz.func197, Tryz.ntmps197
  go_wp2_with fail
  refine (cmp_any a b n m ca cb xs ys _ HNL.out.symm HML.out.symm (by omega) (by omega) hca hcb hra hrb HX.out HY.out.1).mono ?_
  rintro e w1 ⟨rfl, nd, rfl⟩
  have hra1 : Rd .u64 (w.drewN nd) a xs := hra
  have hrb1 : Rd .u64 (w.drewN nd) b ys := hrb
  by_cases hlt : val xs < val ys
  · have hc := Lib.hid (cmpI_of_lt hlt)
    rw [hc.out]
    have HLT := Lib.hid hlt
    clear hlt
    go_wp2_with fail
    refine (copied_any a n ca xs _ HNL.out.symm (by omega) (fun _ h => HNO.out h) hra1).mono ?_
    rintro e w2 ⟨v, rfl, hown, hbl, _⟩
    have HO := Lib.hid hown
    have HB : Hid (Below w.heap.size w w2) := (Chg.below (Chg.drewM (Chg.refl (fun _ => False) w) nd) (Nat.le_refl _) (fun _ h => h.elim)).trans hbl
    clear hown hbl
    go_wp2
    go_ret2
    exact ⟨_, _, [], xs, rfl, own64_nil _ _, HO.out, Bd.nil, HX.out, by simp [val], HLT.out, (fun k hk => by cases hk), HB.out, by simp, by omega⟩
  · have hge : ¬ cmpI (val xs) (val ys) < 0 := fun h => hlt (cmpI_neg.1 h)
    have HGE : Hid (val ys ≤ val xs) := by show _ ≤ _; omega
    generalize cmpI (val xs) (val ys) = cc at hge
    have hq : decide (cc < 0) = false := by simp; omega
    have hm1 : ((m : Int) == 1) = false := by simp; omega
    obtain ⟨bb, ob, rfl⟩ := hrb.isAt (by rw [← HML.out]; omega)
    have hc1 := hrb1.cell (i := m - 1) (by rw [← HML.out]; omega)
    have ht64 := HY.out.1.at0 (m - 1)
    have hb3 : ((m - 1 : Nat) : Int) < m := by omega
    have hb4 : (m : Int) - 1 = ((m - 1 : Nat) : Int) := by omega
    clear hlt hge
    obtain ⟨w0, hw0⟩ : ∃ w0, w0 = w.drewN nd := ⟨_, rfl⟩
    rw [← hw0] at hra1 hrb1 hc1 ⊢
    have HB0 : Hid (Below w.heap.size w w0) := by show Below _ _ _; rw [hw0]; exact (Chg.below (Chg.drewM (Chg.refl (fun _ => False) w) nd) (Nat.le_refl _) (fun _ h => h.elim))
    clear hw0 hra hrb
    have htop0 : 0 < at0 ys (m - 1) := by
      have hc := HY.out.2
      have := (fl_of_cn hc)
      have h3 := (fl_spec ys).2.2 (by rw [this, ← HML.out]; omega)
      rw [this, ← HML.out] at h3
      omega
    have HTV : Hid (val ys = val (ys.take (m - 1)) + 18446744073709551616 ^ (m - 1) * at0 ys (m - 1)) := val_top2 (by rw [← HML.out]; omega)
    generalize hy0 : at0 ys (m - 1) = y0 at *
    clear hy0
    go_wp2_with fail
    refine (lz64_any y0 htop0 ht64 _).mono ?_
    rintro e w2 ⟨s, rfl, hs63, hsb, rfl⟩
    have HSB := Lib.hid hsb.out
    have HTOP : Hid (val ys * 2 ^ s < 18446744073709551616 ^ m ∧ 9223372036854775808 * 18446744073709551616 ^ (m - 1) ≤ val ys * 2 ^ s) := by
      have hlow := val_lt (HY.out.1.take (m - 1))
      rw [List.length_take, Nat.min_eq_left (by rw [← HML.out]; omega)] at hlow
      exact top_ok (by omega) HTV.out hlow hs63 HSB.out.1 HSB.out.2
    have HLB := Lib.hid (fun W (hr : Rd .u64 W (some ⟨bb, ob, none⟩) ys) => lift_any (some ⟨bb, ob, none⟩) m cb 0 s ys W HML.out.symm (by omega) (by decide) (by omega) hr HY.out.1)
    have HLA := Lib.hid (fun W (hr : Rd .u64 W a xs) => lift_any a n ca 0 s xs W HNL.out.symm (by omega) (by decide) (by omega) hr HX.out)
    simp only [Nat.mul_zero, Nat.zero_add, Nat.add_zero] at HLB HLA
    have HY0 : Hid (1 ≤ y0) := htop0
    clear hsb htop0 hc1 ht64
    go_wp2_with fail
    refine (HLB.out _ hrb1).mono ?_
    rintro e w1 ⟨vb, wb, rfl, hownb, hlb, hbb, hvb, hblb⟩
    obtain ⟨hfl, htp, hvd⟩ := lifted hlb hbb hvb (by omega) HTOP.out.1 HTOP.out.2
    obtain ⟨av, cv, rfl, hrv⟩ := own64.form hownb
    have hroom := own64.room hownb
    have HRA1 : Hid (Rd .u64 w1 a xs) := hra1.below hblb
    have HB1 : Hid (Below w.heap.size w w1) := by
      show Below _ _ _
      exact HB0.out.trans (Below.mono hblb HB0.out.size)
    have HFL := Lib.hid hfl
    have HTP := Lib.hid htp
    have HVD := Lib.hid hvd
    have HWB := Lib.hid hbb
    have HLW := Lib.hid hlb
    have HRV := Lib.hid hrv
    clear hownb hlb hbb hvb hblb hfl htp hvd hrv hra1 hrb1 HLB
    go_wp2_with fail
    refine (form_any av wb.length cv wb _ rfl (by rw [HLW.out]; omega) hroom.1 HRV.out).mono ?_
    rintro e w2 ⟨⟨a', c', rfl, hf1, hf2⟩, rfl⟩
    rw [HFL.out] at hf1 hf2 ⊢
    obtain ⟨rfl, rfl⟩ := hf1 (by omega)
    have hnc : m ≤ c' := by have := HLW.out; omega
    have HDR : Hid (Rd .u64 w1 a' (wb.take m)) := HRV.out.take m
    have HDL : Hid ((wb.take m).length = m) := by show _ = _; rw [List.length_take, HLW.out]; omega
    have HDB : Hid (Bd (wb.take m)) := HWB.out.take m
    have hold := old_of_rd HDR.out (by rw [HDL.out]; omega)
    have HOLD := Lib.hid hold
    have HD0 : Hid (0 < val (wb.take m)) := by
      show 0 < _; rw [HVD.out]
      have := HTOP.out.2
      have hp : 0 < 18446744073709551616 ^ (m - 1) := Nat.pow_pos (by decide)
      omega
    have hmn : m ≤ n := by
      have h1 := val_lt HX.out
      rw [← HNL.out] at h1
      have h2 := HGE.out
      have h3 := HTV.out
      apply Decidable.byContradiction; intro hn
      have h4 : 18446744073709551616 ^ n ≤ 18446744073709551616 ^ (m - 1) := Nat.pow_le_pow_right (by decide) (by omega)
      have h5 := HY0.out
      have h6 : 18446744073709551616 ^ (m - 1) * 1 ≤ 18446744073709551616 ^ (m - 1) * y0 := Nat.mul_le_mul_left _ h5
      omega
    generalize wb.take m = ds at HDR HDL HDB HTP HVD HD0 HOLD
    clear hf1 hf2 hold hroom HRV HWB
    go_wp2_with fail
    refine (HLA.out _ HRA1.out).mono ?_
    rintro e w2 ⟨vr, rs, rfl, hownr, hlr, hbr, hvr, hblr⟩
    obtain ⟨g1, c1, rfl, hB1, hg1⟩ := own64.isAt hownr (by omega)
    have HRO := Lib.hid hownr
    have HRL := Lib.hid hlr
    have HRB := Lib.hid hbr
    have HRV := Lib.hid hvr
    have HBR := Lib.hid hblr
    rw [hlr] at HRO ⊢
    clear hownr hlr hbr hvr hblr HLA
    obtain ⟨K, hK⟩ : ∃ K, K = n + 1 - m := ⟨_, rfl⟩
    have hKi : ((n + 1 : Nat) : Int) - (m : Int) = (K : Int) := by omega
    go_wp2_with (at_make; refine wpl_make64 rfl _ _ rfl w2.heap.size _ _ _ _ K rfl rfl (by omega) (by omega) (by omega) (Nat.le_refl _) ?_)
    intro w3 hownq hblq hszq
    rw [← hK] at hownq ⊢
    have HQO := Lib.hid hownq
    have HBQ := Lib.hid hblq
    have HSQ := Lib.hid hszq
    have HK := Lib.hid hK
    have hK2 : K ≤ 1048577 := by omega
    have hK1 : 1 ≤ K := by omega
    obtain ⟨g2, hg2⟩ : ∃ g2, g2 = w2.heap.size := ⟨_, rfl⟩
    rw [← hg2] at HQO hg1 ⊢
    have HG2 := Lib.hid hg2
    clear hownq hblq hszq hK hKi hg2
    have HRO3 : Hid (own64 w3 w1.heap.size (.slice (some ⟨g1, 0, none⟩) (n + 1) c1) rs) :=
      (Chg.of_below HBQ.out).owns HRO.out (fun k hk => by cases hk; have h := HG2.out; show ¬ (w2.heap.size ≤ g1); omega)
    have HBL : Hid (Below w1.heap.size w1 w3) := HBR.out.trans (HBQ.out.mono HBR.out.size)
    have HZ : Hid (val xs * 2 ^ s = val ds * val ((List.replicate K 0).drop K) * 18446744073709551616 ^ K + val (rs.take (K + m)) ∧ val (rs.take (K + m)) < val ds * 18446744073709551616 ^ K) := by
      have h1 := HK.out
      rw [List.drop_of_length_le (by simp), List.take_of_length_le (by rw [HRL.out]; omega), HRV.out]
      refine ⟨by simp [val], ?_⟩
      rw [h1]
      have hx := val_lt HX.out
      rw [← HNL.out] at hx
      exact start_ok hx hs63 (by rw [HVD.out]; exact HTOP.out.2) (by omega) hmn
    clear HRO HBR HBQ HRL
    go_wp2
    go_loopw [12] (fun iv wr => ∃ (k : Nat) (rr qq : List Nat), k ≤ K ∧ iv = .int .i64 ((k : Int) - 1) ∧ Hid (own64 wr w1.heap.size (.slice (some ⟨g1, 0, none⟩) (n + 1) c1) rr) ∧ Hid (Bd rr) ∧ Hid (own64 wr g2 (.slice (some ⟨g2, 0, none⟩) K K) qq) ∧ Hid (Bd qq) ∧ Hid (val xs * 2 ^ s = val ds * val (qq.drop k) * 18446744073709551616 ^ k + val (rr.take (k + m)) ∧ val (rr.take (k + m)) < val ds * 18446744073709551616 ^ k) ∧ Hid (Below w1.heap.size w1 wr)) (fun iv _ => (intOf iv + 1).toNat)
    case atStart => exact ⟨K, rs, _, Nat.le_refl _, rfl, HRO3, HRB, HQO, (fun x hx => by rw [List.eq_of_mem_replicate hx]; decide), HZ, HBL⟩
    case round =>
      clear HRO3 HBL HRB HQO HZ
      obtain ⟨k, rr, qq, hk, rfl, HRO, HRB, HQO, HQB, HZ, HBL⟩ := hrel
      have HRL : Hid (n + 1 = rr.length) := (own64.rd HRO.out).1
      have HQL : Hid (K = qq.length) := (own64.rd HQO.out).1
      by_cases h0 : k = 0
      · subst h0
        have hmc : m ≤ c1 := by have := (own64.room HRO.out).1; omega
        have hpre := own64_fore HRO.out (k := m) (by rw [← HRL.out]; omega)
        have HPRE := Lib.hid hpre
        clear hpre
        go_wp2_with fail
        have hsk := fun W h => sink_keep (fun q => q = g1) (some ⟨g1, 0, none⟩) m c1 0 s w1.heap.size (rr.take m) W (fun q hq => by cases hq; rfl) (by rw [List.length_take, ← HRL.out]; omega) (by omega) (by decide) (by omega) (HRB.out.take m) h
        simp only [Nat.mul_zero, Nat.zero_add] at hsk
        refine (hsk _ HPRE.out).mono ?_
        rintro e w5 ⟨v, zs, rfl, hown, hnum, hsu, hvb⟩
        have HOV := Lib.hid hown
        have HNU := Lib.hid hnum
        have HSU := Lib.hid hsu
        have HVB := Lib.hid hvb
        clear hown hnum hsu hvb hsk
        go_wp2
        go_ret2
        have hz := HZ.out
        rw [Nat.zero_add, Nat.pow_zero, Nat.mul_one, Nat.mul_one, List.drop_zero, HVD.out] at hz
        have he := end_ok hz.1 hz.2
        have hlow := Below.size HB1.out
        have hg2 := HG2.out
        refine ⟨_, _, qq, zs, rfl, ?_, own64.low HOV.out hlow, HQB.out, HNU.out.1, ?_, ?_, ?_, ?_, ?_, ?_⟩
        · exact own64.low (HSU.out.chg.owns HQO.out (fun k hk => by cases hk; show ¬ (g2 = g1); omega)) (by omega)
        · rw [HNU.out.3]; exact he.1
        · rw [HNU.out.3]; exact he.2
        · intro k hk hk2
          cases hk
          have : g2 = g1 := HVB.out _ hk2
          omega
        · exact HB1.out.trans ((HBL.out.trans HSU.out.below).mono hlow)
        · rw [← HQL.out, HK.out, ← HNL.out]; omega
        · have h1 := HNU.out.len_le (k := m)
          have h2 := val_lt HY.out.1
          rw [← HML.out] at h2
          have := h1.2 (Nat.lt_trans he.2 h2)
          rw [← HNL.out, ← HML.out]
          omega
      · obtain ⟨p, rfl⟩ : ∃ p, k = p + 1 := ⟨k - 1, by omega⟩
        have hpi : ((p + 1 : Nat) : Int) - 1 = (p : Int) := by omega
        rw [hpi]
        clear hpi
        have hpl : p + 1 + m ≤ rr.length := by rw [← HRL.out]; have := HK.out; omega
        have hpc := piece_ok HRB.out hpl HZ.out.2
        have HPC := Lib.hid hpc
        obtain ⟨G, cur, hg, -, hBg, hblk, hnc1, hcm, hcs, hsg⟩ := own64.blk HRO.out
        cases hg
        have HSG := Lib.hid hsg
        have HBK := Lib.hid hblk
        have HCS := Lib.hid hcs
        have hsegl : ((rr.drop p).take (m + 1)).length = m + 1 := by rw [List.length_take, List.length_drop]; omega
        have HSEG := Lib.hid hsegl
        have HDR2 : Hid (Rd .u64 wr a' ds) := HDR.out.below HBL.out
        have hpK : p < K := by omega
        have hpn : p + m + 1 ≤ n + 1 := by have := HK.out; omega
        have hp0 : (0 : Int) ≤ (p : Int) := by omega
        clear hsg hblk hcs hsegl hpc hpl
        have htk := fun c h => takeOff_any g1 p m c cur ((rr.drop p).take (m + 1)) a' c' ds wr HBK.out (sg_piece HSG.out (by rw [← HRL.out]; omega)) HSEG.out h HDL.out hl (by omega) ((HRB.out.drop _).take _) HDR2.out HDB.out HTP.out HPC.out.2.1 (fun q hq => by have := HOLD.out q hq; omega)
        have HTK := Lib.hid htk
        clear htk
        go_wp2_with fail
        rw [show p + m + 1 - p = m + 1 by omega]
        refine (HTK.out _ (by omega)).mono ?_
        rintro e w4 ⟨zs, rfl, hzl, hzb, hzv, hbk, hch⟩
        have ho2 := own64.over (ws := rr) (zs := zs) (off := p) (B := w1.heap.size) (c := c1) hBg hcm (by rw [← HRL.out]; exact hnc1) HCS.out HSG.out (by rw [hzl, ← HRL.out]; omega) hbk
        rw [← HRL.out] at ho2
        have hst := round_ok (X := val xs * 2 ^ s) (qq := qq) HRB.out (by rw [← HRL.out]; omega) hzl (by rw [← HQL.out]; exact hpK) HD0.out HZ.out.1 HZ.out.2 hzv
        have hqb : val ((rr.drop p).take (m + 1)) / val ds < 18446744073709551616 := (Nat.div_lt_iff_lt_mul HD0.out).2 HPC.out.2.1
        obtain ⟨q, hq0⟩ : ∃ q, q = val ((rr.drop p).take (m + 1)) / val ds := ⟨_, rfl⟩
        rw [← hq0] at hst hqb ⊢
        have hqo : own64 w4 g2 (.slice (some ⟨g2, 0, none⟩) K K) qq := hch.owns HQO.out (fun k hk => by cases hk; show ¬ (g2 = g1); omega)
        have hql : p < qq.length := by rw [← HQL.out]; exact hpK
        have hc2 := own64.cell hqo (j := p) hql
        have hf2 := own64.free hqo p
        have HQ2 : Hid (own64 (w4.setCell ⟨g2, p, none⟩ (.int .u64 (q : Nat))) g2 (.slice (some ⟨g2, 0, none⟩) K K) (qq.set p q)) := own64.set hqo p q
        have HQB2 : Hid (Bd (qq.set p q)) := HQB.out.set hqb
        have HR2 : Hid (own64 (w4.setCell ⟨g2, p, none⟩ (.int .u64 (q : Nat))) w1.heap.size (.slice (some ⟨g1, 0, none⟩) (n + 1) c1) (spl rr p zs)) :=
          ((Chg.refl (fun k => k = g2) w4).setCell (p := ⟨g2, p, none⟩) rfl _).owns ho2 (fun k hk => by cases hk; show ¬ (g1 = g2); omega)
        have HRB2 : Hid (Bd (spl rr p zs)) := HRB.out.spl hzb
        have HST := Lib.hid hst
        have hbl2 : Below w1.heap.size w1 w4 := HBL.out.trans (hch.below HBL.out.size (fun k hk => by have : k = g1 := hk; omega))
        have HBL2 : Hid (Below w1.heap.size w1 (w4.setCell ⟨g2, p, none⟩ (.int .u64 (q : Nat)))) := hbl2.setCell (p := ⟨g2, p, none⟩) (by show _ ≤ g2; omega) _
        clear ho2 hst hqo hql hbl2 hzl hzb hzv hbk hch hq0
        generalize at0 qq p = u at hc2
        go_wp2
        go_roundw
        case rel => exact ⟨p, _, _, by omega, rfl, HR2, HRB2, HQ2, HQB2, HST, HBL2⟩
        case measure => simp [intOf]
theorem divide_all {xs ys : List Nat} (bx : Bd xs) (bY : Bd ys) (hcy : Cn ys) (hp : 0 < val ys) (hbx : xs.length ≤ 1048576) (hby : ys.length ≤ 1048575) : DivideFor xs ys := by
  rcases Nat.lt_or_ge ys.length 2 with h | h
  · have : ys.length ≠ 0 := fun h0 => by rw [List.length_eq_zero_iff.1 h0] at hp; simp [val] at hp
    exact divide_one bx bY (by omega) hp hbx
  · exact divide_many bx bY h hcy hbx hby
theorem quo_all (a b : Option Addr) (la lb ca cb : Nat) (xs ys : List Nat) (w : World) (hla : xs.length = la) (hlb : ys.length = lb) (hba : la ≤ 1048575) (hbb : lb ≤ 1048575) (hca : la ≤ ca) (hcb : lb ≤ cb) (hna : a = none → ca = 0)
    (hra : Rd .u64 w a xs) (hrb : Rd .u64 w b ys) (bx : Bd xs) (bY : Bd ys) :
    Calls Tryz.prog 165 #[.slice a la ca, .slice b lb cb] w (QuoPost xs ys w) := by
  have h1 := (fl_spec xs).1
  have h2 := (fl_spec ys).1
  exact quo_any a b la lb ca cb xs ys w hla hlb (by omega) (by omega) hca hcb hna hra hrb bY fun hp => divide_all (fm_bd bx) (fm_bd bY) (fm_cn ys) (by rw [fm_val]; exact hp) (by rw [fm_length]; omega) (by rw [fm_length]; omega)

set_option exponentiation.threshold 10000 in
theorem isn_of_num {B : Nat} {w : World} {v : Value} {zs : List Nat} {n : Nat} (ho : own64 w B v zs) (hN : Num zs n) (hl : n < 18446744073709551616 ^ 128) : IsN B w v n true := by
  obtain ⟨a, c, rfl, _⟩ := own64.form ho
  exact ⟨a, c, zs, rfl, ho, hN.1, hN.3, hN.len_le.2 hl, fun _ => hN⟩
open Go.ChangeShapes Go.WideShapes Go.ChangeAt Go.RowKit

end Go.Proofs.YtaookoejdnkkoaaGreatDoor
