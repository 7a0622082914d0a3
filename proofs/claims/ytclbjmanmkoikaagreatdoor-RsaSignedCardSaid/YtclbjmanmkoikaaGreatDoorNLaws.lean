import Derived.Test.YtclbjmanmkoikaaGreatDoorGather
import Derived.Test.YtclbjmanmkoikaaGreatDoorGC
import Derived.Test.YtclbjmanmkoikaaGreatDoorBkW
import Derived.Outline
namespace Go.Proofs.YtclbjmanmkoikaaGreatDoor
open Go.RowKit

/-- A list of limbs of the law's own, told by its worth; k: it stands in its form. -/
def IsN (B : Nat) (w : World) (v : Value) (n : Nat) (k : Bool) : Prop :=
  ∃ a c zs, v = .slice a zs.length c ∧ own64 w B (.slice a zs.length c) zs ∧ Bd zs ∧ val zs = n ∧ zs.length ≤ 128 ∧ (k = true → Num zs n)
theorem own64.keep {w w' : World} {B : Nat} {v : Value} {zs : List Nat} (h : own64 w B v zs) (hb : Below w.heap.size w w') : own64 w' B v zs := (Chg.of_below hb).owns h (fun k hk => by have := h.lt k hk; omega)
theorem below_dn (w : World) (m : Nat) : Below w.heap.size w (w.drewN m) := ⟨rfl, rfl, rfl, Nat.le_refl _, fun _ _ => rfl⟩
theorem IsN.below {B : Nat} {w w' : World} {v : Value} {n : Nat} {k : Bool} (h : IsN B w v n k) (hb : Below w.heap.size w w') : IsN B w' v n k := by
  obtain ⟨a, c, zs, h1, h2, h3⟩ := h
  exact ⟨a, c, zs, h1, own64.keep h2 hb, h3⟩
theorem IsN.lt {B : Nat} {w : World} {v : Value} {n : Nat} {k : Bool} (h : IsN B w v n k) : n < 18446744073709551616 ^ 128 := by
  obtain ⟨a, c, zs, _, _, hb, hv, hl, _⟩ := h
  have h1 := val_lt hb
  rw [hv] at h1
  have : (18446744073709551616 : Nat) ^ zs.length ≤ 18446744073709551616 ^ 128 := Nat.pow_le_pow_right (by decide) hl
  omega
theorem IsN.of_num {B : Nat} {w : World} {v : Value} {zs : List Nat} {n : Nat} (ho : own64 w B v zs) (hN : Num zs n) (hn : n < 18446744073709551616 ^ 128) : IsN B w v n true := by
  obtain ⟨a, c, rfl, _⟩ := own64.form ho
  exact ⟨a, c, zs, rfl, ho, hN.bd, hN.vl, (hN.len_le (k := 128)).2 hn, fun _ => hN⟩
theorem own64_of {w : World} {B k : Nat} {v : Value} {zs : List Nat} (h : w.ownsRow B 51 1 v k (u64s zs)) (h2 : zs.length = k) : own64 w B v zs := by
  subst h2; exact h
theorem IsN.of_own {B : Nat} {w : World} {v : Value} {zs : List Nat} {n : Nat} (ho : own64 w B v zs) (hb : Bd zs) (hv : val zs = n) (hl : zs.length ≤ 128) : IsN B w v n false := by
  obtain ⟨a, c, rfl, _⟩ := own64.form ho
  exact ⟨a, c, zs, rfl, ho, hb, hv, hl, fun h => by cases h⟩
/-- What lists are known. -/
def NEnv (B : Nat) (w : World) (L : List (Value × Nat × Bool)) : Prop := B ≤ w.heap.size ∧ ∀ p ∈ L, IsN B w p.1 p.2.1 p.2.2
theorem NEnv.get {B : Nat} {w : World} {L : List (Value × Nat × Bool)} {v : Value} {n : Nat} {k : Bool} (h : NEnv B w L) (hm : (v, n, k) ∈ L) : IsN B w v n k := h.2 _ hm
theorem NEnv.below {B : Nat} {w w' : World} {L : List (Value × Nat × Bool)} (h : NEnv B w L) (hb : Below w.heap.size w w') : NEnv B w' L :=
  ⟨Nat.le_trans h.1 hb.size, fun p hp => (h.2 p hp).below hb⟩
theorem NEnv.add {B : Nat} {w w' : World} {L : List (Value × Nat × Bool)} {v : Value} {n : Nat} {k : Bool} (h : NEnv B w L) (hb : Below w.heap.size w w') (hv : IsN B w' v n k) : NEnv B w' ((v, n, k) :: L) :=
  ⟨Nat.le_trans h.1 hb.size, fun p hp => by
    rcases List.mem_cons.1 hp with rfl | hp
    · exact hv
    · exact (h.2 p hp).below hb⟩
theorem fl_le_128 {zs : List Nat} (h : zs.length ≤ 128) : fl zs ≤ 128 := Nat.le_trans (fl_spec zs).1 h

set_option exponentiation.threshold 10000 in
theorem n_of_post {B : Nat} {w w' : World} {L : List (Value × Nat × Bool)} {e : Ending} {n : Nat} {fits : Prop} (h : NEnv B w L) (hf : fits) (hl : n < 18446744073709551616 ^ 128) (hp : NumPost fits n w e w') :
    ∃ v, e = .returned (.tuple #[v, .int .i64 0]) ∧ NEnv B w' ((v, n, true) :: L) ∧ Below w.heap.size w w' := by
  obtain ⟨hb, hor⟩ := hp
  rcases hor with ⟨h1, _⟩ | ⟨_, _, v, zs, rfl, ho, hN⟩
  · exact absurd ⟨hf, hl⟩ h1
  · exact ⟨v, rfl, h.add hb (IsN.of_num (owns_base ho h.1) hN hl), hb⟩
theorem n_mul {B : Nat} {w : World} {L : List (Value × Nat × Bool)} {v1 v2 : Value} {n1 n2 : Nat} {k1 k2 : Bool} (hE : NEnv B w L) (hT : Trig w) (h1 : (v1, n1, k1) ∈ L) (h2 : (v2, n2, k2) ∈ L) (hl : n1 * n2 < 18446744073709551616 ^ 128) :
    Calls Tryz.prog 106 #[v1, v2] w fun e w' => ∃ v, e = .returned (.tuple #[v, .int .i64 0]) ∧ NEnv B w' ((v, n1 * n2, true) :: L) ∧ Below w.heap.size w w' := by
  obtain ⟨a, ca, xs, rfl, ho1, hb1, rfl, hl1, -⟩ := hE.get h1
  obtain ⟨b, cb, ys, rfl, ho2, hb2, rfl, hl2, -⟩ := hE.get h2
  exact (mul_any a b _ _ ca cb xs ys w rfl rfl (by omega) (by omega) (own64.room ho1).1 (own64.room ho2).1 (own64.rd ho1).2 (own64.rd ho2).2 hb1 hb2 hT).mono fun e w' hp => n_of_post hE ⟨fl_le_128 hl1, fl_le_128 hl2⟩ hl hp
theorem n_cmp {B : Nat} {w : World} {L : List (Value × Nat × Bool)} {v1 v2 : Value} {n1 n2 : Nat} {k1 k2 : Bool} (hE : NEnv B w L) (h1 : (v1, n1, k1) ∈ L) (h2 : (v2, n2, k2) ∈ L) :
    Calls Tryz.prog 64 #[v1, v2] w fun e w' => e = .returned (.int .i64 (cmpI n1 n2)) ∧ NEnv B w' L ∧ Below w.heap.size w w' := by
  obtain ⟨a, ca, xs, rfl, ho1, hb1, rfl, hl1, -⟩ := hE.get h1
  obtain ⟨b, cb, ys, rfl, ho2, hb2, rfl, hl2, -⟩ := hE.get h2
  refine (cmp_any a b _ _ ca cb xs ys w rfl rfl (by omega) (by omega) (own64.room ho1).1 (own64.room ho2).1 (own64.rd ho1).2 (own64.rd ho2).2 hb1 hb2).mono ?_
  rintro e w' ⟨rfl, m, rfl⟩
  exact ⟨rfl, hE.below (below_dn w m), below_dn w m⟩
theorem n_same {B : Nat} {w : World} {L : List (Value × Nat × Bool)} {v1 v2 : Value} {n1 n2 : Nat} (hE : NEnv B w L) (h1 : (v1, n1, true) ∈ L) (h2 : (v2, n2, true) ∈ L) (he : n1 = n2) :
    Calls Tryz.prog 85 #[v1, v2] w fun e w' => e = .returned (.bool true) ∧ NEnv B w' L ∧ Below w.heap.size w w' := by
  subst he
  obtain ⟨a, ca, xs, rfl, ho1, _, _, hl1, hN1⟩ := hE.get h1
  obtain ⟨b, cb, ys, rfl, ho2, _, _, hl2, hN2⟩ := hE.get h2
  obtain rfl := (hN1 rfl).unique (hN2 rfl)
  refine (words_same a b _ ca cb xs w rfl (by omega) (own64.rd ho1).2 (own64.rd ho2).2).mono ?_
  rintro e w' ⟨he, m, rfl⟩
  exact ⟨he, hE.below (below_dn w m), below_dn w m⟩

set_option maxHeartbeats 1000000 in
theorem n_norm {B : Nat} {w : World} {L : List (Value × Nat × Bool)} {v1 : Value} {n1 : Nat} {k1 : Bool} (hE : NEnv B w L) (h1 : (v1, n1, k1) ∈ L) :
    Calls Tryz.prog 92 #[v1] w fun e w' => ∃ v, e = .returned (.tuple #[v, .int .i64 0]) ∧ NEnv B w' ((v, n1, true) :: L) ∧ Below w.heap.size w w' := by
  have hn1 := (hE.get h1).lt
  obtain ⟨a, ca, xs, rfl, ho1, hb1, rfl, hl1, -⟩ := hE.get h1
  have hroom := own64.room ho1
  have hr := (own64.rd ho1).2
  have hfl := (fl_spec xs).1
  have hnum := num_fm hb1
  have HE := Lib.hid (And.intro hE (And.intro hn1 hnum))
  have HR := Lib.hid hr
  have HO := Lib.hid ho1
  have HM := Lib.hid hroom
  clear hE h1 ho1 hb1 hnum hn1 hr hroom
  obtain ⟨la, hla⟩ : ∃ la, xs.length = la := ⟨_, rfl⟩
  rw [hla] at hl1 hfl HM HO
  have HLA := Lib.hid hla
  rw [hla]
  clear hla
  go_enter Tryz.func92, Tryz.ntmps92
  go_wp2_with fail
  refine (one_any a la ca xs _ HLA.out (by omega) HM.out.1 HR.out).mono ?_
  rintro e w1 ⟨hor, rfl⟩
  rcases hor with ⟨h2, a', c', rfl, g1, g2⟩ | ⟨h2, rfl⟩
  · have hF : FormOf a ca (fl xs) a' c' := ⟨g1, g2⟩
    have hr' := hF.rd HR.out (by rw [HLA.out]; exact hfl)
    have hc0 : fl xs = 0 → a' = none → c' = 0 := fun h _ => (g2 h).2
    have HX := Lib.hid (And.intro hr' hc0)
    clear g1 g2 hF hr' hc0
    go_wp2_with fail
    refine (copied_any a' (fl xs) c' (fm xs) _ (fm_length xs) (by omega) HX.out.2 HX.out.1).mono ?_
    rintro e w2 ⟨v, rfl, ho, hb, -⟩
    have HV := Lib.hid (And.intro ho hb)
    clear ho hb
    go_wp2
    go_ret2
    exact ⟨v, rfl, HE.out.1.add HV.out.2 (IsN.of_num (owns_base HV.out.1 HE.out.1.1) HE.out.2.2 HE.out.2.1), HV.out.2⟩
  · omega
theorem IsN.base {B B' : Nat} {w : World} {v : Value} {n : Nat} {k : Bool} (h : IsN B w v n k) (hB : B' ≤ B) : IsN B' w v n k := by
  obtain ⟨a, c, zs, h1, h2, h3⟩ := h
  exact ⟨a, c, zs, h1, owns_base h2 hB, h3⟩
set_option exponentiation.threshold 10000 in
theorem lims {a b c : Nat} (ha : a < 18446744073709551616 ^ 40) (hb : b < 18446744073709551616 ^ 40) (hc : c < 18446744073709551616 ^ 40) :
    a + b < 18446744073709551616 ^ 128 ∧ a * b < 18446744073709551616 ^ 128 ∧ a + b + c < 18446744073709551616 ^ 128 ∧ a * b * c < 18446744073709551616 ^ 128 ∧ a * (b + c) < 18446744073709551616 ^ 128 ∧ a * b + a * c < 18446744073709551616 ^ 128 := by
  have k1 : a * b ≤ 18446744073709551616 ^ 40 * 18446744073709551616 ^ 40 := Nat.mul_le_mul (Nat.le_of_lt ha) (Nat.le_of_lt hb)
  have k2 : a * c ≤ 18446744073709551616 ^ 40 * 18446744073709551616 ^ 40 := Nat.mul_le_mul (Nat.le_of_lt ha) (Nat.le_of_lt hc)
  have k3 : a * b * c ≤ 18446744073709551616 ^ 40 * 18446744073709551616 ^ 40 * 18446744073709551616 ^ 40 := Nat.mul_le_mul k1 (Nat.le_of_lt hc)
  have e1 : (18446744073709551616 : Nat) ^ 40 * 18446744073709551616 ^ 40 = 18446744073709551616 ^ 80 := by rw [← Nat.pow_add]
  have e2 : (18446744073709551616 : Nat) ^ 40 * 18446744073709551616 ^ 40 * 18446744073709551616 ^ 40 = 18446744073709551616 ^ 120 := by rw [← Nat.pow_add, ← Nat.pow_add]
  rw [e1] at k1 k2
  rw [e2] at k3
  have p1 : (18446744073709551616 : Nat) ^ 40 * 4 ≤ 18446744073709551616 ^ 128 := by decide +kernel
  have p2 : (18446744073709551616 : Nat) ^ 80 * 4 ≤ 18446744073709551616 ^ 128 := by decide +kernel
  have p3 : (18446744073709551616 : Nat) ^ 120 < 18446744073709551616 ^ 128 := by decide +kernel
  rw [Nat.mul_add]
  generalize a * b * c = abc at *
  generalize a * b = ab at *
  generalize a * c = ac at *
  generalize (18446744073709551616 : Nat) ^ 40 = m40 at *
  generalize (18446744073709551616 : Nat) ^ 80 = m80 at *
  generalize (18446744073709551616 : Nat) ^ 120 = m120 at *
  generalize (18446744073709551616 : Nat) ^ 128 = m at *
  refine ⟨by omega, by omega, by omega, by omega, by omega, by omega⟩
theorem val_take_lt {xs : List Nat} (bx : Bd xs) (K : Nat) : val (xs.take K) < 18446744073709551616 ^ K := by
  have h1 := val_lt (bx.take K)
  have h2 : (18446744073709551616 : Nat) ^ (xs.take K).length ≤ 18446744073709551616 ^ K := Nat.pow_le_pow_right (by decide) (by rw [List.length_take]; omega)
  omega

end Go.Proofs.YtclbjmanmkoikaaGreatDoor
