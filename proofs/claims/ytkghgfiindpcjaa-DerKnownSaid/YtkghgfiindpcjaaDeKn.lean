import Derived.Test.YtkghgfiindpcjaaDeTell
import Derived.Test.YtkghgfiindpcjaaDeX
import Derived.Deep.RegionHeld3
namespace Go.Proofs.Ytkghgfiindpcjaa
open Go.RowKit

/-! DerKnown: what its parts share. -/
/-- A row of bytes that a law may be asked of. -/
def BR (w : World) (a : Option Addr) (l c : Nat) : Prop := ∃ xs, xs.length = l ∧ l ≤ c ∧ c ≤ 9223372036854775807 ∧ (a = none → c = 0) ∧ B8 xs ∧ Rd .u8 w a xs
theorem BR.below {w w' : World} {a : Option Addr} {l c : Nat} (h : BR w a l c) (hb : Below w.heap.size w w') : BR w' a l c := by
  obtain ⟨xs, h1, h2, h3, h4, h5, h6⟩ := h
  exact ⟨xs, h1, h2, h3, h4, h5, h6.below hb⟩
theorem br_own {w : World} {B : Nat} {a : Option Addr} {l c : Nat} {zs : List Nat} (h : own8 w B (.slice a l c) zs) (hl : zs.length = l) (h8 : B8 zs) : BR w a l c := by
  obtain ⟨a2, c2, e, h1, h2, h3, h4⟩ := own8_open h
  injection e with e1 e2 e3
  subst e1 e3
  exact ⟨zs, hl, by omega, h4, h3, h8, h2⟩
theorem BR.items {w : World} {a : Option Addr} {l c : Nat} (h : BR w a l c) (z : Int) (h1 : -9223372036854775808 ≤ z) (h2 : z ≤ 9223372036854775807) :
    Calls Try.prog 3 #[.slice a l c, .int .i64 z] w fun e w' => e = .returned (.bool true) ∧ Below w.heap.size w w' := by
  obtain ⟨xs, k1, k2, k3, k4, k5, k6⟩ := h
  exact derItems_any a l c xs z w k1 k2 k3 k4 k5 k6 h1 h2
theorem BR.reads {w : World} {a : Option Addr} {l c : Nat} (h : BR w a l c) :
    Calls Try.prog 4 #[.slice a l c] w fun e w' => e = .returned (.bool true) ∧ Below w.heap.size w w' := by
  obtain ⟨xs, k1, k2, k3, k4, k5, k6⟩ := h
  exact derReads_any a l c xs w k1 k2 k3 k4 k5 k6
theorem BR.once {w : World} {a : Option Addr} {l c : Nat} (h : BR w a l c) :
    Calls Try.prog 7 #[.slice a l c] w fun e w' => e = .returned (.bool true) ∧ Below w.heap.size w w' := by
  obtain ⟨xs, k1, k2, k3, k4, k5, k6⟩ := h
  exact derOnce_any a l c xs w k1 k2 k3 k4 k5 k6
theorem BR.lies {w : World} {a : Option Addr} {l c : Nat} (h : BR w a l c) (z : Int) (y : Nat) (h1 : -9223372036854775808 ≤ z) (h2 : z ≤ 9223372036854775807) (hy : y < 256) :
    Calls Try.prog 8 #[.slice a l c, .int .i64 z, .int .u8 (y : Nat)] w fun e w' => e = .returned (.bool true) ∧ Below w.heap.size w w' := by
  obtain ⟨xs, k1, k2, k3, k4, k5, k6⟩ := h
  exact derLies_any a l c xs z y w k1 k2 k3 k4 k5 k6 h1 h2 hy

/-- A block that is known whole. -/
def CL (w : World) (t : TypeId) (g : Nat) (cs : List Value) : Prop := w.heap[g]? = some (.cells cs.toArray t (0, 0))
theorem CL.lt {w : World} {t : TypeId} {g : Nat} {cs : List Value} (h : CL w t g cs) : g < w.heap.size := lt_of_block h
theorem CL.cell {w : World} {t : TypeId} {g : Nat} {cs : List Value} (h : CL w t g cs) (i : Nat) : w.cell? ⟨g, i, none⟩ = cs[i]? := by unfold CL at h; simp [World.cell?, h]
theorem CL.below {w w' : World} {t : TypeId} {g : Nat} {cs : List Value} (h : CL w t g cs) (hb : Below w.heap.size w w') : CL w' t g cs := by
  show _ = _; rw [hb.block _ h.lt]; exact h
theorem CL.new (w : World) (t : TypeId) (cs : List Value) : CL (w.alloc (.cells cs.toArray t)) t w.heap.size cs := heap_new w _
theorem CL.rd {w : World} {t : TypeId} {g : Nat} {l : List Nat} (h : CL w t g (u8s l)) : Rd .u8 w (some ⟨g, 0, none⟩) l := fun j hj => ⟨g, 0, rfl, fun i hi => by
  rw [Nat.zero_add, h.cell]
  simp [u8s, hi, List.getD]⟩

/-! Rows laid one behind the other, and the list of them. -/
def lays (w : World) : List (List Nat) → World
  | [] => w
  | l :: r => lays (w.alloc (.cells (u8s l).toArray 5)) r
def outs (g : Nat) : List (List Nat) → List Value
  | [] => []
  | l :: r => .slice (some ⟨g, 0, none⟩) l.length l.length :: outs (g + 1) r
theorem outs_at (Ls : List (List Nat)) (g i : Nat) (h : i < Ls.length) : (outs g Ls)[i]? = some (.slice (some ⟨g + i, 0, none⟩) Ls[i].length Ls[i].length) := by
  induction Ls generalizing g i with
  | nil => simp at h
  | cons l r ih =>
    cases i with
    | zero => simp [outs]
    | succ i =>
      simp only [outs, List.getElem?_cons_succ, List.getElem_cons_succ]
      rw [ih (g + 1) i (by simpa using h), show g + 1 + i = g + (i + 1) by omega]
theorem lays_size (Ls : List (List Nat)) (w : World) : (lays w Ls).heap.size = w.heap.size + Ls.length ∧ Below w.heap.size w (lays w Ls) := by
  induction Ls generalizing w with
  | nil => exact ⟨rfl, Below.refl _ _⟩
  | cons l r ih =>
    obtain ⟨h1, h2⟩ := ih (w.alloc (.cells (u8s l).toArray 5))
    refine ⟨?_, ?_⟩
    · show (lays (w.alloc (.cells (u8s l).toArray 5)) r).heap.size = _
      rw [h1]; simp; omega
    · exact ((Below.refl w.heap.size w).alloc (Nat.le_refl _) _).trans (h2.mono (by simp))
theorem lays_at (Ls : List (List Nat)) (w : World) (i : Nat) (h : i < Ls.length) : CL (lays w Ls) 5 (w.heap.size + i) (u8s Ls[i]) := by
  induction Ls generalizing w i with
  | nil => simp at h
  | cons l r ih =>
    cases i with
    | zero => exact (CL.new w 5 (u8s l)).below (lays_size r _).2
    | succ i =>
      have := ih (w.alloc (.cells (u8s l).toArray 5)) i (by simpa using h)
      rw [show (w.alloc (.cells (u8s l).toArray 5)).heap.size + i = w.heap.size + (i + 1) by simp; omega] at this
      exact this
/-- A list of rows lies there. -/
def LitAt (W : World) (g n : Nat) : Prop := g < W.heap.size ∧ ∀ i, i < n → ∃ a l xs, W.cell? ⟨g, i, none⟩ = some (.slice a l l) ∧ l ≤ 16 ∧ xs.length = l ∧ B8 xs ∧ (a = none → l = 0) ∧ Rd .u8 W a xs
theorem LitAt.below {w w' : World} {g n : Nat} (h : LitAt w g n) (hb : Below w.heap.size w w') : LitAt w' g n := ⟨Nat.lt_of_lt_of_le h.1 hb.size, fun i hi => by
  obtain ⟨a, l, xs, h1, h2, h3, h4, h5, h6⟩ := h.2 i hi
  exact ⟨a, l, xs, below_cell hb _ _ h1, h2, h3, h4, h5, h6.below hb⟩⟩
theorem lits_at (Ls : List (List Nat)) (w : World) (hl : Ls.all (fun l => decide (l.length ≤ 16) && l.all (fun x => decide (x < 256))) = true) :
    LitAt ((lays w Ls).alloc (.cells (outs w.heap.size Ls).toArray 22)) (w.heap.size + Ls.length) Ls.length ∧ Below w.heap.size w ((lays w Ls).alloc (.cells (outs w.heap.size Ls).toArray 22)) := by
  obtain ⟨h1, h2⟩ := lays_size Ls w
  have hb := (Below.refl (lays w Ls).heap.size (lays w Ls)).alloc (Nat.le_refl _) (.cells (outs w.heap.size Ls).toArray 22)
  have hc := CL.new (lays w Ls) 22 (outs w.heap.size Ls)
  rw [h1] at hc
  refine ⟨⟨hc.lt, fun i hi => ?_⟩, h2.trans (hb.mono (by omega))⟩
  have hm := List.all_eq_true.1 hl Ls[i] (List.getElem_mem hi)
  simp only [Bool.and_eq_true, decide_eq_true_eq, List.all_eq_true] at hm
  refine ⟨some ⟨w.heap.size + i, 0, none⟩, Ls[i].length, Ls[i], ?_, hm.1, rfl, fun x hx => hm.2 x hx, (fun h => by cases h), ((lays_at Ls w i hi).below hb).rd⟩
  rw [hc.cell, outs_at Ls _ i hi]
def i64s (l : List Int) : List Value := l.map (Value.int .i64)
theorem i64s_at (l : List Int) (i : Nat) (h : i < l.length) : (i64s l)[i]? = some (.int .i64 l[i]) := by simp [i64s, h]
theorem all_in {l : List Int} {a b : Int} (h : l.all (fun x => decide (a ≤ x) && decide (x ≤ b)) = true) (i : Nat) (hi : i < l.length) : a ≤ l[i] ∧ l[i] ≤ b := by
  have := List.all_eq_true.1 h l[i] (List.getElem_mem hi)
  simpa using this
end Go.Proofs.Ytkghgfiindpcjaa
