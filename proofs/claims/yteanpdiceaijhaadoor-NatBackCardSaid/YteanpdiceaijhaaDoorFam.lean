import Derived.Test.YteanpdiceaijhaaDoorBook
namespace Go.Proofs.YteanpdiceaijhaaDoor
open Go.RowKit

def updR (r : Nat → Rw) (p : Nat) (x : Rw) : Nat → Rw := fun i => if i = p then x else r i
theorem updR_same (r : Nat → Rw) (p : Nat) (x : Rw) : updR r p x p = x := by simp [updR]
theorem updR_ne (r : Nat → Rw) {p i : Nat} (x : Rw) (h : i ≠ p) : updR r p x i = r i := by simp [updR, h]

/-- Rows by numbers, each in a block of its own. -/
structure Fam (w : World) (B m : Nat) (r : Nat → Rw) : Prop where
  own : ∀ i, i < m → w.ownsRow B (r i).E 1 (r i).v (r i).n (r i).xs
  apart : ∀ i, i < m → ∀ j, j < m → i ≠ j → (r i).apart (r j)

theorem Sep.fam {w : World} {B : Nat} {R : List Rw} (d : Rw) (h : Sep w B R) : Fam w B R.length (fun i => R.getD i d) := by
  refine ⟨fun i hi => ?_, fun i hi j hj hne => ?_⟩
  · simp only [List.getD, List.getElem?_eq_getElem hi, Option.getD_some]; exact h.1 _ (List.getElem_mem hi)
  · simp only [List.getD, List.getElem?_eq_getElem hi, List.getElem?_eq_getElem hj, Option.getD_some]
    rcases Nat.lt_or_gt_of_ne hne with hlt | hlt
    · exact List.pairwise_iff_getElem.1 h.2 i j hi hj hlt
    · exact (List.pairwise_iff_getElem.1 h.2 j i hj hi hlt).symm

theorem Fam.put {w w' : World} {B m p : Nat} {r : Nat → Rw} {x : Rw} (h : Fam w B m r) (hp : p < m) (hc : Chg (fun k => some k = (r p).v.ownBlock) w w') (ho : w'.ownsRow B x.E 1 x.v x.n x.xs)
    (hb : ∀ k, x.v.ownBlock = some k → (r p).v.ownBlock = some k ∨ w.heap.size ≤ k) : Fam w' B m (updR r p x) := by
  have key : ∀ i, i < m → i ≠ p → x.apart (r i) := by
    intro i hi hne k hk hk'
    rcases hb k hk with hb | hb
    · exact h.apart p hp i hi (Ne.symm hne) k hb hk'
    · have := (h.own i hi).lt k hk'; omega
  refine ⟨fun i hi => ?_, fun i hi j hj hne => ?_⟩
  · by_cases e : i = p
    · subst e; rw [updR_same]; exact ho
    · rw [updR_ne _ _ e]; exact hc.owns (h.own i hi) (fun k hk e' => h.apart p hp i hi (Ne.symm e) k e'.symm hk)
  · by_cases e : i = p
    · subst e; rw [updR_same, updR_ne _ _ (Ne.symm hne)]; exact key j hj (Ne.symm hne)
    · by_cases e2 : j = p
      · subst e2; rw [updR_same, updR_ne _ _ e]; exact (key i hi e).symm
      · rw [updR_ne _ _ e, updR_ne _ _ e2]; exact h.apart i hi j hj hne

theorem Fam.chg {w w' : World} {B m : Nat} {r : Nat → Rw} {S : Nat → Prop} (h : Fam w B m r) (hc : Chg S w w') (hS : ∀ i, i < m → ∀ k, (r i).v.ownBlock = some k → ¬ S k) : Fam w' B m r :=
  ⟨fun i hi => hc.owns (h.own i hi) (hS i hi), h.apart⟩

/-- A store into row p. -/
theorem Fam.store {w : World} {B m p g n c : Nat} {r : Nat → Rw} (h : Fam w B m r) (hp : p < m) (hv : (r p).v = .slice (some ⟨g, 0, none⟩) n c) (hn : (r p).n = n) (j : Nat) (u : Value) :
    Fam (w.setCell ⟨g, j, none⟩ u) B m (updR r p { r p with xs := (r p).xs.set j u }) := by
  have ho := h.own p hp
  rw [hv, hn] at ho
  refine h.put hp ((Chg.refl _ _).setCell (p := ⟨g, j, none⟩) (by rw [hv]; rfl) u) ?_ (fun k hk => .inl hk)
  show World.ownsRow _ B (r p).E 1 (r p).v (r p).n _
  rw [hv, hn]
  exact (ho.stored j u).1

theorem Fam.cellAt {w : World} {B m p g n c : Nat} {r : Nat → Rw} (h : Fam w B m r) (hp : p < m) (hv : (r p).v = .slice (some ⟨g, 0, none⟩) n c) (hn : (r p).n = n) (j : Nat) (hj : j < n) :
    w.cell? ⟨g, j, none⟩ = (r p).xs[j]? := by
  have ho := h.own p hp
  rw [hv, hn] at ho
  exact ho.cellAt j (by omega)
theorem Fam.frozenAt {w : World} {B m p g n c : Nat} {r : Nat → Rw} (h : Fam w B m r) (hp : p < m) (hv : (r p).v = .slice (some ⟨g, 0, none⟩) n c) (hn : (r p).n = n) (j : Nat) :
    w.frozen? ⟨g, j, none⟩ = false := by
  have ho := h.own p hp
  rw [hv, hn] at ho
  exact ho.frozenAt j
/-- A row of one element or more lies in a block. -/
theorem owns_some {w : World} {B E n : Nat} {v : Value} {xs : List Value} (h : w.ownsRow B E 1 v n xs) (hn : 0 < n) : ∃ g c, v = .slice (some ⟨g, 0, none⟩) n c ∧ B ≤ g ∧ g < w.heap.size := by
  rcases h.2 with ⟨_, h0⟩ | ⟨g, c, cur, rfl, hb, hg, _⟩
  · omega
  · exact ⟨g, c, rfl, hb, lt_of_block hg⟩
theorem owns_form {w : World} {B E n : Nat} {v : Value} {xs : List Value} (h : w.ownsRow B E 1 v n xs) : ∃ a c, v = .slice a n c := by
  rcases h.2 with ⟨rfl, rfl⟩ | ⟨g, c, cur, rfl, hb, hg, _⟩
  · exact ⟨_, _, rfl⟩
  · exact ⟨_, _, rfl⟩

theorem mark_q (k i : Int) (w : World) :
    Calls Tryd.prog 54 #[.int .i64 k, .int .i64 i] w fun e w' => e = .returned (.int .u64 (mk k i)) ∧ w' = w := (mark_any k i w).mono fun _ _ ⟨h, k⟩ => ⟨h, k.symm⟩

def ms64 (k n : Nat) : List Value := (List.range n).map fun (j : Nat) => Value.int .u64 (mk k j)
def ms8 (k n : Nat) : List Value := (List.range n).map fun (j : Nat) => Value.int .u8 (IntKind.u8.wrap (mk k j))
end Go.Proofs.YteanpdiceaijhaaDoor
