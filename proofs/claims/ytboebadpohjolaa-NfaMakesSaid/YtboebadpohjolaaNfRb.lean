import Derived.Test.YtboebadpohjolaaNfF
import Derived.Lib.SmallJoins
import Derived.LoopIn
import Derived.LoopNIn
import Derived.OwnWalkIn
import Derived.RangeFuncLeaves
import Derived.RangeFuncNested
import Derived.Shelf.RegionOpen
import Derived.TacticsInMore
namespace Go.Proofs.Ytboebadpohjolaa
open Go.RowKit Go.Shelf
attribute [local go_sem] Oper.semAt_some

variable {B : Nat}

/-! A row laid. -/
theorem owned_cells {w : World} {b0 : Nat} {e : TypeId} {S : Nat} {v : Value} {n : Nat} {xs : List Value} (h : w.ownsRow b0 e S v n xs) {k : Nat} (hk : v.ownBlock = some k) : ∃ o : Obj, w.heap[k]? = some o ∧ o.isCells = true := by
  rcases h.2 with ⟨h2, _⟩ | ⟨g, cap, cur, hv, hg, hh, -⟩
  · subst h2; cases hk
  · subst hv
    injection hk with hk
    subst hk
    exact ⟨_, hh, rfl⟩
theorem CB.cells {w : World} {t : TypeId} {g : Nat} {cs : List Value} (h : CB w t g cs) : ∃ o : Obj, w.heap[g]? = some o ∧ o.isCells = true := ⟨_, h, rfl⟩
theorem not_cells {w : World} {k : Nat} (h1 : ∃ o : Obj, w.heap[k]? = some o ∧ o.isCells = true) (h2 : ∃ o : Obj, w.heap[k]? = some o ∧ o.isCells = false) : False := by
  obtain ⟨o, ho, hc⟩ := h1
  obtain ⟨p, hp, hd⟩ := h2
  rw [ho] at hp
  cases hp
  rw [hc] at hd
  cases hd
theorem CB.others {w w' : World} {t : TypeId} {g : Nat} {cs : List Value} {row : Option Nat} (h : CB w t g cs) (hg : w.grownBy w' row) (hr : ∀ r, row = some r → ∃ o : Obj, w.heap[r]? = some o ∧ o.isCells = false) : CB w' t g cs :=
  CB.chg h (Chg.of_grown hg) fun e => not_cells h.cells (hr g e.symm)
theorem LS.others {a w w' : World} {lb : Nat} {v v' : Value} {L : List St} {row : Option Nat} (h : LS B a w lb v L v') (hg : w.grownBy w' row) (hr : ∀ r, row = some r → a.heap.size ≤ r ∧ ∃ o : Obj, w.heap[r]? = some o ∧ o.isCells = false) : LS B a w' lb v L v' :=
  ⟨⟨h.at_.box.others hg fun r e => (hr r e).2, (Chg.of_grown hg).ownsS h.at_.row fun k hk e => not_cells (owned_cells h.at_.row hk) (hr k e.symm).2, h.at_.ne, h.at_.base⟩,
    h.chg.step (Chg.of_grown hg) fun i hi hlt => (by have := (hr i hi.symm).1; omega), h.own⟩
/-- What is no cells stays, as the layout goes on. -/
theorem LS.keeps {a b : World} {lb D : Nat} {v0 v1 : Value} {L M : List St} (h : LS B a b lb v0 M v1) (h0 : LC B a lb L v0) : KeepsFrom D a b :=
  ⟨h.chg.size, fun k o hk h1 ho => (h.chg.block k (Array.getElem?_eq_some_iff.1 h1).1 fun e => e.elim (fun e => by subst e; exact not_cells h0.box.cells ⟨o, h1, ho⟩) fun e => not_cells (owned_cells h0.row e) ⟨o, h1, ho⟩).trans h1⟩
theorem n_backward {F : Fence} {n : Nat} (hF : F.fn 45) (hro : F.round = none) (a : Option Addr) (len c : Nat) (w : World) :
    CallsIn F n Try.prog 45 #[.slice a len c] w fun e w' => e = .returned (.func (.func 51) #[] #[.pointer (some ⟨w.heap.size, 0, none⟩)]) ∧ w' = w.alloc (.cells #[.slice a len c] 25) := by
  refine callsIn_of_wp Try.func45 rfl hF ?_ hro
  simp only [Try.ntmps45, List.size_toArray, List.length_cons, List.length_nil, Nat.reduceAdd, Nat.reduceSub, Array.replicate_succ, Array.replicate_zero, List.push_toArray, List.append_toArray, List.nil_append, List.cons_append]
  gi_wp2
  go_ret
  exact ⟨rfl, rfl⟩
/-- The row's states when k parts are laid. -/
def rowK (ps : List PT) (q : Nat) (L : List St) (k : Nat) : List St × Nat := layRow (ps.drop (ps.length - k)) q L
theorem rowK_zero (ps : List PT) (q : Nat) (L : List St) : rowK ps q L 0 = (L, q) := by
  unfold rowK
  rw [Nat.sub_zero, List.drop_length, layRow]
theorem rowK_all (ps : List PT) (q : Nat) (L : List St) : rowK ps q L ps.length = layRow ps q L := by
  unfold rowK
  rw [Nat.sub_self, List.drop_zero]
theorem rowK_succ (ps : List PT) (q : Nat) (L : List St) {j k : Nat} (h : j + 1 + k = ps.length) (hj : j < ps.length) : rowK ps q L (k + 1) = layT ps[j] (rowK ps q L k).2 (rowK ps q L k).1 := by
  unfold rowK
  rw [show ps.length - (k + 1) = j by omega, show ps.length - k = j + 1 by omega, List.drop_eq_getElem_cons hj, layRow]
theorem cntL_drop (ps : List PT) (d : Nat) : cntL (ps.drop d) ≤ cntL ps := by
  induction ps generalizing d with
  | nil => simp
  | cons t ts ih =>
    cases d with
    | zero => simp
    | succ d => rw [List.drop_succ_cons, cntL]; have := ih d; omega
theorem rowK_laid (ps : List PT) (hp : ∀ t ∈ ps, Laid (layT t) (cnt t)) (q : Nat) (L : List St) (k : Nat) (h : LI L q) : (rowK ps q L k).1.length = L.length + cntL (ps.drop (ps.length - k)) ∧ LI (rowK ps q L k).1 (rowK ps q L k).2 := by
  have := layRow_laid (ps.drop (ps.length - k)) (fun t ht => hp t (List.mem_of_mem_drop ht)) q L h.1 h.2.1 h.2.2
  exact ⟨this.1, by unfold rowK; have := h.1; omega, this.2⟩
end Go.Proofs.Ytboebadpohjolaa
