import Derived.Test.YtaookoejdnkkoaaGreatDoorKCm
import Derived.Test.YtaookoejdnkkoaaGreatDoorKGather
namespace Go.Proofs.YtaookoejdnkkoaaGreatDoor
open Go.RowKit

/-- A list of limbs of the law's own, told by its worth; k: it stands in its form. -/
def IsN (B : Nat) (w : World) (v : Value) (n : Nat) (k : Bool) : Prop :=
  ∃ a c zs, v = .slice a zs.length c ∧ own64 w B (.slice a zs.length c) zs ∧ Bd zs ∧ val zs = n ∧ zs.length ≤ 128 ∧ (k = true → Num zs n)
theorem own64.keep {w w' : World} {B : Nat} {v : Value} {zs : List Nat} (h : own64 w B v zs) (hb : Below w.heap.size w w') : own64 w' B v zs := (Chg.of_below hb).owns h (fun k hk => by have := h.lt k hk; omega)
theorem IsN.below {B : Nat} {w w' : World} {v : Value} {n : Nat} {k : Bool} (h : IsN B w v n k) (hb : Below w.heap.size w w') : IsN B w' v n k := by
  obtain ⟨a, c, zs, h1, h2, h3⟩ := h
  exact ⟨a, c, zs, h1, own64.keep h2 hb, h3⟩
theorem IsN.lt {B : Nat} {w : World} {v : Value} {n : Nat} {k : Bool} (h : IsN B w v n k) : n < 18446744073709551616 ^ 128 := by
  obtain ⟨a, c, zs, _, _, hb, hv, hl, _⟩ := h
  have h1 := val_lt hb
  rw [hv] at h1
  have : (18446744073709551616 : Nat) ^ zs.length ≤ 18446744073709551616 ^ 128 := Nat.pow_le_pow_right (by decide) hl
  omega
theorem IsN.of_num {B : Nat} {w : World} {v : Value} {zs : List Nat} {n : Nat} (ho : own64 w B v zs) (hN : Num zs n) (hn : n < 18446744073709551616 ^ 128) : IsN B w v n true := by
  obtain ⟨a, c, rfl, _⟩ := own64.form ho
  exact ⟨a, c, zs, rfl, ho, hN.bd, hN.vl, (hN.len_le (k := 128)).2 hn, fun _ => hN⟩
/-- What lists are known. -/
def NEnv (B : Nat) (w : World) (L : List (Value × Nat × Bool)) : Prop := B ≤ w.heap.size ∧ ∀ p ∈ L, IsN B w p.1 p.2.1 p.2.2
theorem NEnv.get {B : Nat} {w : World} {L : List (Value × Nat × Bool)} {v : Value} {n : Nat} {k : Bool} (h : NEnv B w L) (hm : (v, n, k) ∈ L) : IsN B w v n k := h.2 _ hm
theorem NEnv.below {B : Nat} {w w' : World} {L : List (Value × Nat × Bool)} (h : NEnv B w L) (hb : Below w.heap.size w w') : NEnv B w' L :=
  ⟨Nat.le_trans h.1 hb.size, fun p hp => (h.2 p hp).below hb⟩
theorem NEnv.add {B : Nat} {w w' : World} {L : List (Value × Nat × Bool)} {v : Value} {n : Nat} {k : Bool} (h : NEnv B w L) (hb : Below w.heap.size w w') (hv : IsN B w' v n k) : NEnv B w' ((v, n, k) :: L) :=
  ⟨Nat.le_trans h.1 hb.size, fun p hp => by
    rcases List.mem_cons.1 hp with rfl | hp
    · exact hv
    · exact (h.2 p hp).below hb⟩
theorem fl_le_128 {zs : List Nat} (h : zs.length ≤ 128) : fl zs ≤ 128 := Nat.le_trans (fl_spec zs).1 h

set_option exponentiation.threshold 10000 in
theorem n_of_post {B : Nat} {w w' : World} {L : List (Value × Nat × Bool)} {e : Ending} {n : Nat} {fits : Prop} (h : NEnv B w L) (hf : fits) (hl : n < 18446744073709551616 ^ 128) (hp : NumPost fits n w e w') :
    ∃ v, e = .returned (.tuple #[v, .int .i64 0]) ∧ NEnv B w' ((v, n, true) :: L) ∧ Below w.heap.size w w' := by
  obtain ⟨hb, hor⟩ := hp
  rcases hor with ⟨h1, _⟩ | ⟨_, _, v, zs, rfl, ho, hN⟩
  · exact absurd ⟨hf, hl⟩ h1
  · exact ⟨v, rfl, h.add hb (IsN.of_num (owns_base ho h.1) hN hl), hb⟩
theorem n_mul {B : Nat} {w : World} {L : List (Value × Nat × Bool)} {v1 v2 : Value} {n1 n2 : Nat} {k1 k2 : Bool} (hE : NEnv B w L) (hT : Trig w) (h1 : (v1, n1, k1) ∈ L) (h2 : (v2, n2, k2) ∈ L) (hl : n1 * n2 < 18446744073709551616 ^ 128) :
    Calls Tryz.prog 195 #[v1, v2] w fun e w' => ∃ v, e = .returned (.tuple #[v, .int .i64 0]) ∧ NEnv B w' ((v, n1 * n2, true) :: L) ∧ Below w.heap.size w w' := by
  obtain ⟨a, ca, xs, rfl, ho1, hb1, rfl, hl1, -⟩ := hE.get h1
  obtain ⟨b, cb, ys, rfl, ho2, hb2, rfl, hl2, -⟩ := hE.get h2
  exact (mul_any a b _ _ ca cb xs ys w rfl rfl (by omega) (by omega) (own64.room ho1).1 (own64.room ho2).1 (own64.rd ho1).2 (own64.rd ho2).2 hb1 hb2 hT).mono fun e w' hp => n_of_post hE ⟨fl_le_128 hl1, fl_le_128 hl2⟩ hl hp
theorem IsN.base {B B' : Nat} {w : World} {v : Value} {n : Nat} {k : Bool} (h : IsN B w v n k) (hB : B' ≤ B) : IsN B' w v n k := by
  obtain ⟨a, c, zs, h1, h2, h3⟩ := h
  exact ⟨a, c, zs, h1, owns_base h2 hB, h3⟩
end Go.Proofs.YtaookoejdnkkoaaGreatDoor
