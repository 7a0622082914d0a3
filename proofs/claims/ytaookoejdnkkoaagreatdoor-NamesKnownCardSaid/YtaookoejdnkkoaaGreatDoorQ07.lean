import Derived.Test.YtaookoejdnkkoaaGreatDoorQ03
import Derived.Test.YtaookoejdnkkoaaGreatDoorQDeJ
import Derived.Laws.StructEq
import Derived.Lib.AppendStr
import Derived.ScopeJumps
import Derived.WalkMore
import Derived.Test.YtaookoejdnkkoaaGreatDoorCards
import Derived.Test.YtaookoejdnkkoaaGreatDoorTie
import Derived.ChangeMaps5
import Derived.Deep.DeepHandedRow
import Derived.LaidOnce
import Derived.Lay
import Derived.OpenShut
import Derived.ProofKit
import Derived.SevenTiedAt
import Derived.Test.YtaookoejdnkkoaaGreatDoorRows
import Derived.Test.YtaookoejdnkkoaaGreatDoorShelf
import Derived.BigQuiet
import Derived.BigRegion
import Derived.Deep.CutBlock
import Derived.Deep.DeepCutAuto
import Derived.Deep.MidRow
import Derived.Deep.QuietTactic
import Derived.Deep.RegionHeld3
import Derived.Deep.RegionLaw
import Derived.Deep.RegionWith
import Derived.Deep.WholeRow
import Derived.Handy
import Derived.Laws.BitsAllLaws
import Derived.Laws.ComplexArith
import Derived.Laws.CopyOwn
import Derived.Laws.Entries
import Derived.Laws.Externs
import Derived.Laws.ResultCell
import Derived.Lib.Hide
import Derived.Lib.ItoaNum
import Derived.Lib.OthersKept
import Derived.Lib.TrimByte
import Derived.OrdersHeld
import Derived.Outline
import Derived.Shelf.RegionOpenPlain
import Derived.Shelf.Spec.BitsCarry
import Derived.Shelf.Spec.TrailingZeros
import Derived.StillTail
import Derived.StillTailTactics
import Derived.WalkKit
import Derived.Test.YtaookoejdnkkoaaGreatDoorQ02
namespace Go.Proofs.YtaookoejdnkkoaaGreatDoor
open Go.RowKit

/-! Names, without a program: what a text tells. -/
/-- Great letters A to Z as small ones. -/
def loA (c : Nat) : Nat := if 65 ≤ c ∧ c ≤ 90 then c + 32 else c
theorem loA_lt {c : Nat} (h : c < 256) : loA c < 256 := by unfold loA; split <;> omega
theorem loA_45 {c : Nat} : loA c = 45 ↔ c = 45 := by unfold loA; split <;> omega
theorem b8_loA {l : List Nat} (h : B8 l) : B8 (l.map loA) := fun x hx => by
  obtain ⟨c, hc, rfl⟩ := List.mem_map.1 hx
  exact loA_lt (h c hc)
theorem mem45_lo {l : List Nat} : 45 ∈ l.map loA ↔ 45 ∈ l := by
  constructor
  · intro h
    obtain ⟨c, hc, e⟩ := List.mem_map.1 h
    rwa [loA_45.1 e] at hc
  · intro h
    exact List.mem_map.2 ⟨45, h, by decide⟩
/-- Letters and digits. -/
def isLD (c : Nat) : Prop := (97 ≤ c ∧ c ≤ 122) ∨ (48 ≤ c ∧ c ≤ 57)
def plainL (a : List Nat) : Prop := a ≠ [] ∧ ∀ c ∈ a, isLD c
def hexW : List Nat := [104, 101, 120]
def b64W : List Nat := [98, 97, 115, 101, 54, 52]
def polW : List Nat := [80, 79, 76, 73, 67, 89]
def rsaW : List Nat := [114, 115, 97]
def sigW : List Nat := [115, 105, 103, 45, 114, 115, 97, 45, 115, 104, 97, 49]
/-- rsa-hex: -/
def keyW : List Nat := [114, 115, 97, 45, 104, 101, 120, 58]
theorem enc_45 {e : List Nat} (h : e = hexW ∨ e = b64W) : 45 ∉ e := by rcases h with rfl | rfl <;> decide
theorem hex_ne_b64 : hexW ≠ b64W := by decide
/-- A text taken apart: its front, what stands in it ahead of the last dash, the encoding, the data. -/
def NamF (l f a e d : List Nat) : Prop := l = f ++ 58 :: d ∧ 58 ∉ f ∧ f.map loA = a ++ 45 :: e ∧ (e = hexW ∨ e = b64W)
theorem first_one {f d f' d' : List Nat} {c : Nat} (h : f ++ c :: d = f' ++ c :: d') (h1 : c ∉ f) (h2 : c ∉ f') : f = f' ∧ d = d' := by
  induction f generalizing f' with
  | nil =>
    cases f' with
    | nil => simp at h; exact ⟨rfl, h⟩
    | cons x t => simp at h; exact absurd (by simp [h.1]) h2
  | cons x t ih =>
    cases f' with
    | nil => simp at h; exact absurd (by simp [h.1]) h1
    | cons y s =>
      simp only [List.cons_append, List.cons.injEq] at h
      obtain ⟨e1, e2⟩ := ih h.2 (fun m => h1 (List.mem_cons_of_mem _ m)) (fun m => h2 (List.mem_cons_of_mem _ m))
      exact ⟨by rw [h.1, e1], e2⟩
theorem last_one {a e a' e' : List Nat} {c : Nat} (h : a ++ c :: e = a' ++ c :: e') (h1 : c ∉ e) (h2 : c ∉ e') : a = a' ∧ e = e' := by
  have hr : e.reverse ++ c :: a.reverse = e'.reverse ++ c :: a'.reverse := by
    have := congrArg List.reverse h
    simpa using this
  obtain ⟨e1, e2⟩ := first_one hr (by simpa using h1) (by simpa using h2)
  exact ⟨by simpa using congrArg List.reverse e2, by simpa using congrArg List.reverse e1⟩
theorem NamF.one {l f a e d f' a' e' d' : List Nat} (h : NamF l f a e d) (g : NamF l f' a' e' d') : f = f' ∧ a = a' ∧ e = e' ∧ d = d' := by
  obtain ⟨h1, h2, h3, h4⟩ := h
  obtain ⟨g1, g2, g3, g4⟩ := g
  obtain ⟨rfl, rfl⟩ := first_one (h1.symm.trans g1) h2 g2
  obtain ⟨rfl, rfl⟩ := last_one (h3.symm.trans g3) (enc_45 h4) (enc_45 g4)
  exact ⟨rfl, rfl, rfl, rfl⟩
theorem NamF.nocol {l f a e d : List Nat} (h : NamF l f a e d) : 58 ∈ l := by rw [h.1]; simp
/-- What data in an encoding tells. -/
def RdT (e d : List Nat) (k : Int) (b : List Nat) : Prop := (e = hexW ∧ ∃ k0, UnhexTells d k0 b ∧ k = if k0 = 0 then 0 else 91) ∨ (e = b64W ∧ ∃ k0, Un64Tells d k0 b ∧ k = if k0 = 0 then 0 else 91)
theorem RdT.one {e d b b' : List Nat} {k k' : Int} (h : RdT e d k b) (g : RdT e d k' b') : k = k' ∧ b = b' := by
  rcases h with ⟨rfl, k0, h, rfl⟩ | ⟨rfl, k0, h, rfl⟩ <;> rcases g with ⟨ge, k1, g, rfl⟩ | ⟨ge, k1, g, rfl⟩
  · obtain ⟨rfl, rfl⟩ := h.one g; exact ⟨rfl, rfl⟩
  · exact absurd ge hex_ne_b64
  · exact absurd ge.symm hex_ne_b64
  · obtain ⟨rfl, rfl⟩ := h.one g; exact ⟨rfl, rfl⟩
theorem UnhexTells.b8 {d b : List Nat} {k : Int} (h : UnhexTells d k b) : B8 b := by
  rcases h with ⟨_, h, _⟩ | ⟨_, rfl, _⟩
  · exact h
  · intro x hx; cases hx
theorem Un64Tells.b8 {d b : List Nat} {k : Int} (h : Un64Tells d k b) : B8 b := by
  rcases h with ⟨_, h, _⟩ | ⟨_, rfl, _⟩
  · exact h
  · intro x hx; cases hx
theorem RdT.b8 {e d b : List Nat} {k : Int} (h : RdT e d k b) : B8 b := by
  rcases h with ⟨_, k0, h, _⟩ | ⟨_, k0, h, _⟩
  · exact h.b8
  · exact h.b8
theorem RdT.kinds {e d b : List Nat} {k : Int} (h : RdT e d k b) : k = 0 ∨ (k = 91 ∧ b = []) := by
  rcases h with ⟨_, k0, ⟨rfl, _⟩ | ⟨rfl, h, _⟩, rfl⟩ | ⟨_, k0, ⟨rfl, _⟩ | ⟨rfl, h, _⟩, rfl⟩
  · exact .inl rfl
  · exact .inr ⟨rfl, h⟩
  · exact .inl rfl
  · exact .inr ⟨rfl, h⟩

/-- What a text tells as a signature: the error, its front with the colon, the bytes. -/
def SigTells (l : List Nat) (k : Int) (p b : List Nat) : Prop :=
  (65536 < l.length ∧ k = 3 ∧ p = [] ∧ b = []) ∨ (l.length ≤ 65536 ∧ (∀ f e d, ¬ NamF l f sigW e d) ∧ k = 90 ∧ p = [] ∧ b = []) ∨
  (l.length ≤ 65536 ∧ ∃ f e d, NamF l f sigW e d ∧ RdT e d k b ∧ p = if k = 0 then f ++ [58] else [])
theorem SigTells.one {l p b p' b' : List Nat} {k k' : Int} (h : SigTells l k p b) (g : SigTells l k' p' b') : k = k' ∧ p = p' ∧ b = b' := by
  rcases h with ⟨h0, rfl, rfl, rfl⟩ | ⟨h0, h1, rfl, rfl, rfl⟩ | ⟨h0, f, e, d, h1, h2, rfl⟩ <;> rcases g with ⟨g0, rfl, rfl, rfl⟩ | ⟨g0, g1, rfl, rfl, rfl⟩ | ⟨g0, f', e', d', g1, g2, rfl⟩
  · exact ⟨rfl, rfl, rfl⟩
  · omega
  · omega
  · omega
  · exact ⟨rfl, rfl, rfl⟩
  · exact absurd g1 (h1 _ _ _)
  · omega
  · exact absurd h1 (g1 _ _ _)
  · obtain ⟨rfl, _, rfl, rfl⟩ := h1.one g1
    obtain ⟨rfl, rfl⟩ := h2.one g2
    exact ⟨rfl, rfl, rfl⟩
theorem SigTells.b8 {l p b : List Nat} {k : Int} (h : SigTells l k p b) : B8 b := by
  rcases h with ⟨_, _, _, rfl⟩ | ⟨_, _, _, _, rfl⟩ | ⟨_, f, e, d, _, h, _⟩
  · intro x hx; cases hx
  · intro x hx; cases hx
  · exact h.b8

/-- What the key is that an encoding's data tells, or why there is none. -/
def GotTells (e d : List Nat) (k : Int) (N E : List Nat) : Prop :=
  ∃ k1 b, RdT e d k1 b ∧ ((k1 ≠ 0 ∧ k = k1 ∧ N = [] ∧ E = []) ∨ (k1 = 0 ∧ ∃ k2 M F, KeyTells b k2 M F ∧ ((k2 ≠ 0 ∧ k = (if k2 = 3 then 3 else 92) ∧ N = [] ∧ E = []) ∨ (k2 = 0 ∧ ¬ KeyOk (val M) (val F) ∧ k = 80 ∧ N = [] ∧ E = []) ∨
    (k2 = 0 ∧ KeyOk (val M) (val F) ∧ k = 0 ∧ N = M ∧ E = F))))
theorem GotTells.one {e d N E N' E' : List Nat} {k k' : Int} (h : GotTells e d k N E) (g : GotTells e d k' N' E') : k = k' ∧ N = N' ∧ E = E' := by
  obtain ⟨k1, b, h1, h2⟩ := h
  obtain ⟨k1', b', g1, g2⟩ := g
  obtain ⟨rfl, rfl⟩ := h1.one g1
  rcases h2 with ⟨h2, rfl, rfl, rfl⟩ | ⟨h2, k2, M, F, h3, h4⟩ <;> rcases g2 with ⟨g2, rfl, rfl, rfl⟩ | ⟨g2, k2', M', F', g3, g4⟩
  · exact ⟨rfl, rfl, rfl⟩
  · exact absurd g2 h2
  · exact absurd h2 g2
  · obtain ⟨rfl, rfl, rfl⟩ := h3.one g3
    rcases h4 with ⟨h4, rfl, rfl, rfl⟩ | ⟨h4, h5, rfl, rfl, rfl⟩ | ⟨h4, h5, rfl, rfl, rfl⟩ <;> rcases g4 with ⟨g4, rfl, rfl, rfl⟩ | ⟨g4, g5, rfl, rfl, rfl⟩ | ⟨g4, g5, rfl, rfl, rfl⟩
    all_goals first | exact ⟨rfl, rfl, rfl⟩ | exact absurd h4 g4 | exact absurd g4 h4 | exact absurd h5 g5 | exact absurd g5 h5
/-- Who is meant by a text: the error, the kind, the text, the key. -/
def OfTells (l : List Nat) (k kind : Int) (T N E : List Nat) : Prop :=
  (65536 < l.length ∧ k = 3 ∧ kind = 0 ∧ T = [] ∧ N = [] ∧ E = []) ∨
  (l.length ≤ 65536 ∧ l = polW ∧ k = 0 ∧ kind = 3 ∧ T = l ∧ N = [] ∧ E = []) ∨
  (l.length ≤ 65536 ∧ l ≠ polW ∧ (∀ f a e d, NamF l f a e d → ¬ plainL a) ∧ k = 0 ∧ kind = 1 ∧ T = l ∧ N = [] ∧ E = []) ∨
  (l.length ≤ 65536 ∧ ∃ f a e d, NamF l f a e d ∧ plainL a ∧ a ≠ rsaW ∧ k = 90 ∧ kind = 0 ∧ T = [] ∧ N = [] ∧ E = []) ∨
  (l.length ≤ 65536 ∧ ∃ f e d, NamF l f rsaW e d ∧ GotTells e d k N E ∧ ((k ≠ 0 ∧ kind = 0 ∧ T = []) ∨ (k = 0 ∧ kind = 2 ∧ ∃ c, KeyB (val N) (val E) c ∧ T = keyW ++ hexL c)))
theorem plain_rsa : plainL rsaW := ⟨by decide, fun c hc => by simp [rsaW] at hc; unfold isLD; omega⟩
theorem pol_no {f a e d : List Nat} (h : NamF polW f a e d) : False := by
  have := h.nocol
  revert this; decide
theorem OfTells.one {l T N E T' N' E' : List Nat} {k kind k' kind' : Int} (h : OfTells l k kind T N E) (g : OfTells l k' kind' T' N' E') : k = k' ∧ kind = kind' ∧ T = T' ∧ N = N' ∧ E = E' := by
  rcases h with ⟨h0, rfl, rfl, rfl, rfl, rfl⟩ | ⟨h0, h1, rfl, rfl, rfl, rfl, rfl⟩ | ⟨h0, h1, h2, rfl, rfl, rfl, rfl, rfl⟩ | ⟨h0, f, a, e, d, h1, h2, h3, rfl, rfl, rfl, rfl, rfl⟩ | ⟨h0, f, e, d, h1, h2, h3⟩
  · rcases g with ⟨g0, rfl, rfl, rfl, rfl, rfl⟩ | ⟨g0, _⟩ | ⟨g0, _⟩ | ⟨g0, _⟩ | ⟨g0, _⟩
    · exact ⟨rfl, rfl, rfl, rfl, rfl⟩
    all_goals omega
  · rcases g with ⟨g0, _⟩ | ⟨g0, g1, rfl, rfl, rfl, rfl, rfl⟩ | ⟨g0, g1, _⟩ | ⟨g0, f', a', e', d', g1, _⟩ | ⟨g0, f', e', d', g1, _⟩
    · omega
    · exact ⟨rfl, rfl, rfl, rfl, rfl⟩
    · exact absurd h1 g1
    · rw [h1] at g1; exact (pol_no g1).elim
    · rw [h1] at g1; exact (pol_no g1).elim
  · rcases g with ⟨g0, _⟩ | ⟨g0, g1, _⟩ | ⟨g0, g1, g2, rfl, rfl, rfl, rfl, rfl⟩ | ⟨g0, f', a', e', d', g1, g2, _⟩ | ⟨g0, f', e', d', g1, _⟩
    · omega
    · exact absurd g1 h1
    · exact ⟨rfl, rfl, rfl, rfl, rfl⟩
    · exact absurd g2 (h2 _ _ _ _ g1)
    · exact absurd plain_rsa (h2 _ _ _ _ g1)
  · rcases g with ⟨g0, _⟩ | ⟨g0, g1, _⟩ | ⟨g0, g1, g2, _⟩ | ⟨g0, f', a', e', d', g1, g2, g3, rfl, rfl, rfl, rfl, rfl⟩ | ⟨g0, f', e', d', g1, _⟩
    · omega
    · rw [g1] at h1; exact (pol_no h1).elim
    · exact absurd h2 (g2 _ _ _ _ h1)
    · exact ⟨rfl, rfl, rfl, rfl, rfl⟩
    · exact absurd (h1.one g1).2.1 h3
  · rcases g with ⟨g0, _⟩ | ⟨g0, g1, _⟩ | ⟨g0, g1, g2, _⟩ | ⟨g0, f', a', e', d', g1, g2, g3, _⟩ | ⟨g0, f', e', d', g1, g2, g3⟩
    · omega
    · rw [g1] at h1; exact (pol_no h1).elim
    · exact absurd plain_rsa (g2 _ _ _ _ h1)
    · exact absurd (h1.one g1).2.1.symm g3
    · obtain ⟨rfl, _, rfl, rfl⟩ := h1.one g1
      obtain ⟨rfl, rfl, rfl⟩ := h2.one g2
      rcases h3 with ⟨h3, rfl, rfl⟩ | ⟨h3, rfl, c, h4, rfl⟩ <;> rcases g3 with ⟨g3, rfl, rfl⟩ | ⟨g3, rfl, c', g4, rfl⟩
      · exact ⟨rfl, rfl, rfl, rfl, rfl⟩
      · exact absurd g3 h3
      · exact absurd h3 g3
      · rw [h4.one g4]; exact ⟨rfl, rfl, rfl, rfl, rfl⟩

open Go.ChangeShapes Go.WideShapes Go.ChangeAt Go.RowKit

/-- The tables of worths. -/
def hexT : List Int := [-1, -1, -1, -1, -1, -1, -1, -1, -1, -1, -1, -1, -1, -1, -1, -1, -1, -1, -1, -1, -1, -1, -1, -1, -1, -1, -1, -1, -1, -1, -1, -1, -1, -1, -1, -1, -1, -1, -1, -1, -1, -1, -1, -1, -1, -1, -1, -1, 0, 1, 2, 3, 4, 5, 6, 7, 8, 9, -1, -1, -1, -1, -1, -1, -1, 10, 11, 12, 13, 14, 15, -1, -1, -1, -1, -1, -1, -1, -1, -1, -1, -1, -1, -1, -1, -1, -1, -1, -1, -1, -1, -1, -1, -1, -1, -1, -1, 10, 11, 12, 13, 14, 15, -1, -1, -1, -1, -1, -1, -1, -1, -1, -1, -1, -1, -1, -1, -1, -1, -1, -1, -1, -1, -1, -1, -1, -1, -1]
def b64T : List Int := [-1, -1, -1, -1, -1, -1, -1, -1, -1, -1, -1, -1, -1, -1, -1, -1, -1, -1, -1, -1, -1, -1, -1, -1, -1, -1, -1, -1, -1, -1, -1, -1, -1, -1, -1, -1, -1, -1, -1, -1, -1, -1, -1, 62, -1, -1, -1, 63, 52, 53, 54, 55, 56, 57, 58, 59, 60, 61, -1, -1, -1, -1, -1, -1, -1, 0, 1, 2, 3, 4, 5, 6, 7, 8, 9, 10, 11, 12, 13, 14, 15, 16, 17, 18, 19, 20, 21, 22, 23, 24, 25, -1, -1, -1, -1, -1, -1, 26, 27, 28, 29, 30, 31, 32, 33, 34, 35, 36, 37, 38, 39, 40, 41, 42, 43, 44, 45, 46, 47, 48, 49, 50, 51, -1, -1, -1, -1, -1]
def hw (i : Nat) : Int := hexT.getD i 0
def bw (i : Nat) : Int := b64T.getD i 0
def HT (w : World) : Prop := ∀ i, i < 128 → w.cell? ⟨2, i, none⟩ = some (.int .i8 (hw i))
def BT (w : World) : Prop := ∀ i, i < 128 → w.cell? ⟨3, i, none⟩ = some (.int .i8 (bw i))
theorem HT.below {w w' : World} (h : HT w) (hb : Below w.heap.size w w') : HT w' := fun i hi => below_cell hb _ _ (h i hi)
theorem BT.below {w w' : World} (h : BT w) (hb : Below w.heap.size w w') : BT w' := fun i hi => below_cell hb _ _ (h i hi)
theorem HT.chg {w w' : World} {S : Nat → Prop} (h : HT w) (hc : Chg S w w') (hn : ¬ S 2) : HT w' := fun i hi => hc.cell (h i hi) hn
theorem BT.chg {w w' : World} {S : Nat → Prop} (h : BT w) (hc : Chg S w w') (hn : ¬ S 3) : BT w' := fun i hi => hc.cell (h i hi) hn
theorem HT.lt {w : World} (h : HT w) : (2 : Nat) < w.heap.size := World.block_lt_of_cell? w _ (h 0 (by decide))
theorem BT.lt {w : World} (h : BT w) : (3 : Nat) < w.heap.size := World.block_lt_of_cell? w _ (h 0 (by decide))
set_option maxRecDepth 100000 in
theorem hw_cases (i : Nat) (h : i < 128) : (hw i = -1 ∧ ∀ d, d < 16 → hexD d ≠ low i) ∨ ∃ d : Nat, d < 16 ∧ hw i = (d : Int) ∧ hexD d = low i := by
  have : ∀ i : Fin 128, (hw i.val = -1 ∧ ∀ d : Fin 16, hexD d.val ≠ low i.val) ∨ ∃ d : Fin 16, hw i.val = (d.val : Int) ∧ hexD d.val = low i.val := by decide +kernel
  rcases this ⟨i, h⟩ with ⟨h1, h2⟩ | ⟨d, h1, h2⟩
  · exact .inl ⟨h1, fun d hd => h2 ⟨d, hd⟩⟩
  · exact .inr ⟨d.val, d.isLt, h1, h2⟩
set_option maxRecDepth 100000 in
theorem bw_cases (i : Nat) (h : i < 128) : (bw i = -1 ∧ ∀ d, d < 64 → b64D d ≠ i) ∨ ∃ d : Nat, d < 64 ∧ bw i = (d : Int) ∧ b64D d = i := by
  have : ∀ i : Fin 128, (bw i.val = -1 ∧ ∀ d : Fin 64, b64D d.val ≠ i.val) ∨ ∃ d : Fin 64, bw i.val = (d.val : Int) ∧ b64D d.val = i.val := by decide +kernel
  rcases this ⟨i, h⟩ with ⟨h1, h2⟩ | ⟨d, h1, h2⟩
  · exact .inl ⟨h1, fun d hd => h2 ⟨d, hd⟩⟩
  · exact .inr ⟨d.val, d.isLt, h1, h2⟩

set_option maxHeartbeats 800000 in
theorem whex_high (r : Int) (w : World) (h : 128 ≤ r) (h2 : r ≤ 2147483647) : Calls Tryz.prog 208 #[.int .i32 r] w fun e w' => e = .returned (.tuple #[.int .u8 0, .bool false]) ∧ w = w' := by
  have hq : decide ((128 : Int) ≤ r) = true := decide_eq_true h
  go_enter Tryz.func208, Tryz.ntmps208
  go_wp2
  go_ret2
  exact ⟨rfl, rfl⟩
set_option maxHeartbeats 800000 in
theorem whex_no (i : Nat) (w : World) (h : i < 128) (hT : HT w) (hn : hw i = -1) : Calls Tryz.prog 208 #[.int .i32 (i : Nat)] w fun e w' => e = .returned (.tuple #[.int .u8 0, .bool false]) ∧ w = w' := by
  have hq : decide ((128 : Int) ≤ (i : Int)) = false := decide_eq_false (by omega)
  have hc := hT i h
  rw [hn] at hc
  clear hT hn
  go_enter Tryz.func208, Tryz.ntmps208
  go_wp2
  go_ret2
  exact ⟨rfl, rfl⟩
set_option maxHeartbeats 800000 in
theorem whex_yes (i d : Nat) (w : World) (h : i < 128) (hT : HT w) (hd : d < 16) (hn : hw i = (d : Int)) : Calls Tryz.prog 208 #[.int .i32 (i : Nat)] w fun e w' => e = .returned (.tuple #[.int .u8 (d : Nat), .bool true]) ∧ w = w' := by
  have hq : decide ((128 : Int) ≤ (i : Int)) = false := decide_eq_false (by omega)
  have hc := hT i h
  rw [hn] at hc
  have e1 : IntKind.u8.wrap (d : Int) = (d : Int) := wrap_u8_in d (by omega)
  have hm : ((d : Int) == -1) = false := by simp
  clear hT hn
  go_enter Tryz.func208, Tryz.ntmps208
  go_wp2
  go_ret2
  exact ⟨rfl, rfl⟩
set_option maxHeartbeats 800000 in
theorem w64_high (r : Int) (w : World) (h : 128 ≤ r) (h2 : r ≤ 2147483647) : Calls Tryz.prog 210 #[.int .i32 r] w fun e w' => e = .returned (.tuple #[.int .u8 0, .bool false]) ∧ w = w' := by
  have hq : decide ((128 : Int) ≤ r) = true := decide_eq_true h
  go_enter Tryz.func210, Tryz.ntmps210
  go_wp2
  go_ret2
  exact ⟨rfl, rfl⟩
set_option maxHeartbeats 800000 in
theorem w64_no (i : Nat) (w : World) (h : i < 128) (hT : BT w) (hn : bw i = -1) : Calls Tryz.prog 210 #[.int .i32 (i : Nat)] w fun e w' => e = .returned (.tuple #[.int .u8 0, .bool false]) ∧ w = w' := by
  have hq : decide ((128 : Int) ≤ (i : Int)) = false := decide_eq_false (by omega)
  have hc := hT i h
  rw [hn] at hc
  clear hT hn
  go_enter Tryz.func210, Tryz.ntmps210
  go_wp2
  go_ret2
  exact ⟨rfl, rfl⟩
set_option maxHeartbeats 800000 in
theorem w64_yes (i d : Nat) (w : World) (h : i < 128) (hT : BT w) (hd : d < 64) (hn : bw i = (d : Int)) : Calls Tryz.prog 210 #[.int .i32 (i : Nat)] w fun e w' => e = .returned (.tuple #[.int .u8 (d : Nat), .bool true]) ∧ w = w' := by
  have hq : decide ((128 : Int) ≤ (i : Int)) = false := decide_eq_false (by omega)
  have hc := hT i h
  rw [hn] at hc
  have e1 : IntKind.u8.wrap (d : Int) = (d : Int) := wrap_u8_in d (by omega)
  have hm : ((d : Int) == -1) = false := by simp
  clear hT hn
  go_enter Tryz.func210, Tryz.ntmps210
  go_wp2
  go_ret2
  exact ⟨rfl, rfl⟩

theorem and_one (a : Nat) (h : a < 18446744073709551616) : bits BinOp.and IntKind.u64 (a : Int) 1 = ((a % 2 : Nat) : Int) := by
  have := u64_and_nat a 1 h (by decide)
  rw [show ((1 : Nat) : Int) = 1 from rfl] at this
  rw [this]
  exact congrArg _ (Nat.and_two_pow_sub_one_eq_mod a 1)

/-- A list that can be read, told by its worth. -/
def Raw (w : World) (v : Value) (n : Nat) : Prop := ∃ a c zs, v = .slice a zs.length c ∧ zs.length ≤ c ∧ (a = none → c = 0) ∧ Rd .u64 w a zs ∧ Bd zs ∧ val zs = n ∧ zs.length ≤ 1000
theorem Raw.below {w w' : World} {v : Value} {n : Nat} (h : Raw w v n) (hb : Below w.heap.size w w') : Raw w' v n := by
  obtain ⟨a, c, zs, h1, h2, h3, h4, h5⟩ := h
  exact ⟨a, c, zs, h1, h2, h3, h4.below hb, h5⟩
theorem Raw.sl {w : World} {v : Value} {n : Nat} (h : Raw w v n) : ∃ a k c, v = .slice a k c := by
  obtain ⟨a, c, zs, rfl, _⟩ := h
  exact ⟨a, _, c, rfl⟩
theorem fl_iff {zs : List Nat} {k : Nat} (h : Bd zs) : fl zs ≤ k ↔ val zs < 18446744073709551616 ^ k := by
  have h1 := (num_fm h).len_le (k := k)
  rw [fm_length] at h1
  exact h1
theorem raw_of_own {w : World} {B n : Nat} {v : Value} {zs : List Nat} (ho : own64 w B v zs) (hN : Num zs n) (hn : n < 18446744073709551616 ^ 1000) : Raw w v n := by
  obtain ⟨a, c, rfl, _⟩ := own64.form ho
  exact ⟨a, c, zs, rfl, (own64.room ho).1, (own64.room ho).2, (own64.rd ho).2, hN.bd, hN.vl, (hN.len_le (k := 1000)).2 hn⟩
theorem g_bits {w : World} {v : Value} {n : Nat} (h : Raw w v n) :
    Calls Tryz.prog 109 #[v] w fun e w' => ∃ k : Nat, e = .returned (.int .i64 (k : Nat)) ∧ BitsIs n k ∧ k ≤ 64000 ∧ w = w' := by
  obtain ⟨a, c, zs, rfl, h1, _, hr, hb, rfl, hl⟩ := h
  refine (bits_any a _ c zs w rfl (by omega) h1 hr hb).mono ?_
  rintro e w' ⟨⟨k, rfl, hk, hk2⟩, rfl⟩
  have f1 := (fl_spec zs).1
  exact ⟨k, rfl, hk, by omega, rfl⟩
theorem bits_fits {n k m : Nat} (h : BitsIs n k) : k ≤ 64 * m ↔ n < 18446744073709551616 ^ m := by
  rw [show (18446744073709551616 : Nat) = 2 ^ 64 by decide, ← Nat.pow_mul]
  rcases h with ⟨h1, h2⟩ | ⟨h0, h1, h2⟩
  · have := Nat.two_pow_pos (64 * m); omega
  · constructor
    · intro h; exact Nat.lt_of_lt_of_le h2 (Nat.pow_le_pow_right (by decide) h)
    · intro h
      have := (Nat.pow_lt_pow_iff_right (by decide : 1 < 2)).1 (Nat.lt_of_le_of_lt h1 h)
      omega
end Go.Proofs.YtaookoejdnkkoaaGreatDoor
