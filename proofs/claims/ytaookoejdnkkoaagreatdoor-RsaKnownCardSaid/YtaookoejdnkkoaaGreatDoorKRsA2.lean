import Derived.Test.YtaookoejdnkkoaaGreatDoorKFa
import Derived.Test.YtaookoejdnkkoaaGreatDoorKSa
import Derived.Test.YtaookoejdnkkoaaGreatDoorKHv
import Derived.Test.YtaookoejdnkkoaaGreatDoorCards
import Derived.Test.YtaookoejdnkkoaaGreatDoorTie
import Derived.ChangeMaps5
import Derived.Deep.DeepHandedRow
import Derived.Deep.RegionLaw
import Derived.Deep.RegionWith
import Derived.LaidOnce
import Derived.Laws.Entries
import Derived.Lay
import Derived.Lib.OthersKept
import Derived.OpenShut
import Derived.Outline
import Derived.ProofKit
import Derived.SevenTiedAt
import Derived.Shelf.Spec.TrailingZeros
import Derived.Test.YtaookoejdnkkoaaGreatDoorKSb
import Derived.Test.YtaookoejdnkkoaaGreatDoorKBo
namespace Go.Proofs.YtaookoejdnkkoaaGreatDoor
open Go.RowKit

theorem bits_len {bs : List Nat} {n k : Nat} (hB : BNum bs n) (h : BitsIs n k) : (k + 7) / 8 = bs.length := by
  rcases Nat.eq_zero_or_pos bs.length with h0 | hp
  · have hn : n = 0 := by rw [← hB.vl, List.length_eq_zero_iff.1 h0]; rfl
    rcases h with ⟨_, rfl⟩ | ⟨_, h1, _⟩
    · omega
    · have := Nat.two_pow_pos (k - 1); omega
  · have g1 := bval_ge (hB.cn hp)
    have g2 := bval_lt hB.b8
    rw [hB.vl] at g1 g2
    have e : ∀ q, (256 : Nat) ^ q = 2 ^ (8 * q) := fun q => by rw [show (256 : Nat) = 2 ^ 8 by decide, ← Nat.pow_mul]
    rw [e] at g1 g2
    have hpp := Nat.two_pow_pos (8 * (bs.length - 1))
    rcases h with ⟨h1, _⟩ | ⟨h0, h1, h2⟩
    · omega
    · have e1 := (Nat.pow_lt_pow_iff_right (by decide : 1 < 2)).1 (Nat.lt_of_le_of_lt h1 g2)
      have e2 := (Nat.pow_lt_pow_iff_right (by decide : 1 < 2)).1 (Nat.lt_of_le_of_lt g1 h2)
      omega

/-! What rsa tells, as numbers. -/
theorem bval_inj : ∀ {a b : List Nat}, B8 a → B8 b → a.length = b.length → bval a = bval b → a = b
  | [], [], _, _, _, _ => rfl
  | [], _ :: _, _, _, hl, _ => by simp at hl
  | _ :: _, [], _, _, hl, _ => by simp at hl
  | x :: a, y :: b, ha, hb, hl, h => by
    have hl' : a.length = b.length := by simpa using hl
    have ha' : B8 a := fun z hz => ha z (List.mem_cons_of_mem _ hz)
    have hb' : B8 b := fun z hz => hb z (List.mem_cons_of_mem _ hz)
    have h1 := bval_lt ha'
    have h2 := bval_lt hb'
    rw [bval_cons, bval_cons, hl'] at h
    rw [hl'] at h1
    have hxy : x = y := by
      generalize 256 ^ b.length = P at *
      rcases Nat.lt_trichotomy x y with g | g | g
      · have := Nat.mul_le_mul_right P (show x + 1 ≤ y from g)
        rw [Nat.succ_mul] at this
        omega
      · exact g
      · have := Nat.mul_le_mul_right P (show y + 1 ≤ x from g)
        rw [Nat.succ_mul] at this
        omega
    subst hxy
    rw [bval_inj ha' hb' hl' (by omega)]
/-- How many bits a number has. -/
def bitsN (n : Nat) : Nat := if n = 0 then 0 else n.log2 + 1
theorem bits_is (n : Nat) : BitsIs n (bitsN n) := by
  unfold bitsN
  split
  · exact .inl ⟨by assumption, rfl⟩
  · exact .inr ⟨by omega, by rw [Nat.add_sub_cancel]; exact Nat.log2_self_le (by assumption), Nat.lt_log2_self⟩
theorem BitsIs.eq {n k : Nat} (h : BitsIs n k) : k = bitsN n := bits_unique h (bits_is n)
/-- How many bytes. -/
def szN (n : Nat) : Nat := (bitsN n + 7) / 8
theorem bnum_sz {l : List Nat} {n : Nat} (h : BNum l n) : l.length = szN n := (bits_len h (bits_is n)).symm
theorem bits_mono {a b : Nat} (h : a ≤ b) : bitsN a ≤ bitsN b := by
  rcases bits_is a with ⟨_, h0⟩ | ⟨h0, h1, h2⟩
  · omega
  · have h3 := bits_lt (bits_is b)
    have := (Nat.pow_lt_pow_iff_right (by decide : 1 < 2)).1 (Nat.lt_of_le_of_lt h1 (Nat.lt_of_le_of_lt h h3))
    omega
theorem sz_mono {a b : Nat} (h : a ≤ b) : szN a ≤ szN b := by
  have := bits_mono h
  unfold szN
  omega
/-- May it be a key? -/
def KeyOk (N E : Nat) : Prop := 368 ≤ bitsN N ∧ bitsN N ≤ 4096 ∧ N % 2 = 1 ∧ E % 2 = 1 ∧ 3 ≤ E ∧ E < N
instance (N E : Nat) : Decidable (KeyOk N E) := by unfold KeyOk; infer_instance
set_option exponentiation.threshold 5000 in
theorem KeyOk.lim {N E : Nat} (h : KeyOk N E) : N < 18446744073709551616 ^ 64 := by
  have h1 := bits_lt (bits_is N)
  rw [pow_64]
  exact Nat.lt_of_lt_of_le h1 (Nat.pow_le_pow_right (by decide) h.2.1)
theorem KeyOk.pos {N E : Nat} (h : KeyOk N E) : 0 < N := by have := h.2.2.2.2; omega
theorem KeyOk.size {N E : Nat} (h : KeyOk N E) : 46 ≤ szN N ∧ szN N ≤ 512 := by
  have h1 := h.1
  have h2 := h.2.1
  unfold szN
  omega
/-- Is it a signature's number? -/
def SigOk (N : Nat) (s : List Nat) : Prop := s.length = szN N ∧ bval s < N
instance (N : Nat) (s : List Nat) : Decidable (SigOk N s) := by unfold SigOk; infer_instance
def RaiseTells (N E : Nat) (s : List Nat) (k : Int) (b : List Nat) : Prop :=
  (¬ KeyOk N E ∧ k = 80 ∧ b = []) ∨ (KeyOk N E ∧ ¬ SigOk N s ∧ k = 81 ∧ b = []) ∨ (KeyOk N E ∧ SigOk N s ∧ k = 0 ∧ b.length = szN N ∧ B8 b ∧ bval b = bval s ^ E % N)
theorem RaiseTells.one {N E : Nat} {s b b' : List Nat} {k k' : Int} (h : RaiseTells N E s k b) (g : RaiseTells N E s k' b') : k = k' ∧ b = b' := by
  rcases h with ⟨h1, rfl, rfl⟩ | ⟨h1, h2, rfl, rfl⟩ | ⟨h1, h2, rfl, h3, h4, h5⟩ <;> rcases g with ⟨g1, rfl, rfl⟩ | ⟨g1, g2, rfl, rfl⟩ | ⟨g1, g2, rfl, g3, g4, g5⟩
  all_goals first
    | exact ⟨rfl, rfl⟩
    | exact ⟨rfl, bval_inj h4 g4 (h3.trans g3.symm) (h5.trans g5.symm)⟩
    | exact absurd h1 g1
    | exact absurd g1 h1
    | exact absurd h2 g2
    | exact absurd g2 h2
theorem RaiseTells.len {N E : Nat} {s b : List Nat} {k : Int} (h : RaiseTells N E s k b) : b.length ≤ 512 := by
  rcases h with ⟨_, _, rfl⟩ | ⟨_, _, _, rfl⟩ | ⟨h1, _, _, h3, _⟩
  · simp
  · simp
  · rw [h3]; exact h1.size.2
/-- A number in n bytes. -/
def padL (n : Nat) (l : List Nat) : List Nat := List.replicate (n - l.length) 0 ++ l
theorem b8_rep (n x : Nat) (h : x < 256) : B8 (List.replicate n x) := fun y hy => by rw [(List.mem_replicate.1 hy).2]; exact h
theorem B8.app {a b : List Nat} (ha : B8 a) (hb : B8 b) : B8 (a ++ b) := fun x hx => by
  rcases List.mem_append.1 hx with h | h
  · exact ha x h
  · exact hb x h
theorem bval_rep0 : ∀ n, bval (List.replicate n 0) = 0
  | 0 => rfl
  | n + 1 => by rw [List.replicate_succ, bval_cons, bval_rep0 n, Nat.zero_mul]
theorem padL_tells {l : List Nat} {n P : Nat} (h : BNum l P) (hn : szN P ≤ n) : (padL n l).length = n ∧ B8 (padL n l) ∧ bval (padL n l) = P := by
  have hl := bnum_sz h
  refine ⟨?_, (b8_rep _ 0 (by decide)).app h.b8, ?_⟩
  · unfold padL
    rw [List.length_append, List.length_replicate]
    omega
  · unfold padL
    rw [bval_append, bval_rep0, Nat.zero_mul, Nat.zero_add, h.vl]
theorem RaiseTells.yes {N E P : Nat} {s l : List Nat} (h : KeyOk N E) (hs : SigOk N s) (hP : P = bval s ^ E % N) (hl : BNum l P) : RaiseTells N E s 0 (padL (szN N) l) := by
  have hlt : P < N := by rw [hP]; exact Nat.mod_lt _ h.pos
  have := padL_tells hl (sz_mono (Nat.le_of_lt hlt))
  exact .inr (.inr ⟨h, hs, rfl, this.1, this.2.1, this.2.2.trans hP⟩)
/-- A digest's encoding. -/
def midL : List Nat := [0, 48, 33, 48, 9, 6, 5, 43, 14, 3, 2, 26, 5, 0, 4, 20]
def encL (d : List Nat) (n : Nat) : List Nat := [0, 1] ++ (List.replicate (n - 38) 255 ++ (midL ++ d))
theorem encL_len {d : List Nat} {n : Nat} (hd : d.length = 20) (hn : 38 ≤ n) : (encL d n).length = n := by
  simp only [encL, midL, List.length_append, List.length_replicate, List.length_cons, List.length_nil, hd]
  omega
theorem encL_8 {d : List Nat} {n : Nat} (hd : B8 d) : B8 (encL d n) :=
  (show B8 [0, 1] from fun x hx => by simp at hx; omega).app ((b8_rep _ 255 (by decide)).app ((show B8 midL from fun x hx => by simp [midL] at hx; omega).app hd))
def EncdTells (d : List Nat) (z : Int) (k : Int) (b : List Nat) : Prop := ((z < 46 ∨ 512 < z) ∧ k = 81 ∧ b = []) ∨ (46 ≤ z ∧ z ≤ 512 ∧ k = 0 ∧ b = encL d z.toNat)
theorem EncdTells.one {d b b' : List Nat} {z k k' : Int} (h : EncdTells d z k b) (g : EncdTells d z k' b') : k = k' ∧ b = b' := by
  rcases h with ⟨h1, rfl, rfl⟩ | ⟨h1, h2, rfl, rfl⟩ <;> rcases g with ⟨g1, rfl, rfl⟩ | ⟨g1, g2, rfl, rfl⟩
  all_goals first | exact ⟨rfl, rfl⟩ | (exfalso; omega)
theorem EncdTells.len {d b : List Nat} {z k : Int} (h : EncdTells d z k b) (hd : d.length = 20) : b.length ≤ 512 := by
  rcases h with ⟨_, _, rfl⟩ | ⟨h1, h2, _, rfl⟩
  · simp
  · rw [encL_len hd (by omega)]; omega
theorem EncdTells.b8 {d b : List Nat} {z k : Int} (h : EncdTells d z k b) (hd : B8 d) : B8 b := by
  rcases h with ⟨_, _, rfl⟩ | ⟨h1, h2, _, rfl⟩
  · intro x hx; cases hx
  · exact encL_8 hd
/-- SHA-1 of bytes, as numbers. -/
def shaN (m : List Nat) : List Nat := (bytes20 (sha5 m)).map Int.toNat
theorem byteI_in (s : S5) (i : Nat) : 0 ≤ byteI s i ∧ byteI s i < 256 := by unfold byteI; omega
theorem shaN_len (m : List Nat) : (shaN m).length = 20 := by simp [shaN, bytes20]
theorem shaN_8 (m : List Nat) : B8 (shaN m) := fun x hx => by
  simp only [shaN, bytes20, List.map_map, List.mem_map] at hx
  obtain ⟨i, _, rfl⟩ := hx
  have := byteI_in (sha5 m) i
  simp only [Function.comp]
  omega
theorem shaC_u8s (m : List Nat) : shaC m = u8s (shaN m) := by
  simp only [shaC, bcells, shaN, bytes20, u8s, List.map_map]
  apply List.map_congr_left
  intro i _
  have := byteI_in (sha5 m) i
  simp only [Function.comp]
  rw [Int.toNat_of_nonneg this.1]
def VerTells (N E : Nat) (m s : List Nat) (v : Int) : Prop := ∃ k b, RaiseTells N E s k b ∧ v = if k = 0 then (if b = encL (shaN m) (szN N) then 0 else 82) else k
theorem VerTells.one {N E : Nat} {m s : List Nat} {v v' : Int} (h : VerTells N E m s v) (g : VerTells N E m s v') : v = v' := by
  obtain ⟨k, b, h1, rfl⟩ := h
  obtain ⟨k', b', g1, rfl⟩ := g
  obtain ⟨rfl, rfl⟩ := h1.one g1
  rfl
end Go.Proofs.YtaookoejdnkkoaaGreatDoor
