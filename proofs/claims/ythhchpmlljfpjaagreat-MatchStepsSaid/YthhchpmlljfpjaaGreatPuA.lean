import Derived.Test.YthhchpmlljfpjaaGreatPtO
namespace Go.Proofs.YthhchpmlljfpjaaGreat
open Go.RowKit

/-! Trees that are only read. -/
/-- A row of cells lies behind a slice. -/
def RowAt (w : World) (a : Option Addr) (cs : List Value) : Prop := cs = [] ∨ ∃ b off, a = some ⟨b, off, none⟩ ∧ w.rangeAt b off cs
theorem RowAt.mono {w w' : World} {a : Option Addr} {cs : List Value} (h : RowAt w a cs) (hb : ∀ p v, w.cell? p = some v → w'.cell? p = some v) : RowAt w' a cs := by
  rcases h with h | ⟨b, off, e, h⟩
  · exact .inl h
  · exact .inr ⟨b, off, e, fun j v hv => hb _ _ (h j v hv)⟩
mutual
def NT.Lies (w : World) : NT → Prop | .mk _ _ _ _ p ps => (∃ a c, p = .slice a ps.length c ∧ RowAt w a (ps.flatMap NT.cells)) ∧ NT.LiesL w ps
def NT.LiesL (w : World) : List NT → Prop | [] => True | t :: ts => t.Lies w ∧ NT.LiesL w ts
end
theorem NT.LiesL_all {w : World} (ps : List NT) : NT.LiesL w ps ↔ ∀ t ∈ ps, t.Lies w := by
  induction ps with
  | nil => simp [NT.LiesL]
  | cons t ts ih => rw [NT.LiesL, ih]; simp
theorem NT.Lies_mk {w : World} {k : Int} {s : S4} {m n : Int} {p : Value} {ps : List NT} : (NT.mk k s m n p ps).Lies w ↔ (∃ a c, p = .slice a ps.length c ∧ RowAt w a (ps.flatMap NT.cells)) ∧ ∀ t ∈ ps, t.Lies w := by rw [NT.Lies, NT.LiesL_all]
theorem NT.Lies.mono {w w' : World} (hb : ∀ p v, w.cell? p = some v → w'.cell? p = some v) (t : NT) : t.Lies w → t.Lies w' := by
  induction t using NT.ind with
  | h k s m n p ps ih =>
    rw [NT.Lies_mk, NT.Lies_mk]
    rintro ⟨⟨a, c, rfl, h⟩, h2⟩
    exact ⟨⟨a, c, rfl, h.mono hb⟩, fun t ht => ih t ht (h2 t ht)⟩
theorem NT.Lies.below {w w' : World} {t : NT} (h : t.Lies w) (hb : Below w.heap.size w w') : t.Lies w' := NT.Lies.mono (below_cell hb) t h
theorem NT.Own.lies {w : World} {B : Nat} (t : NT) : t.Own w B → t.Lies w := by
  induction t using NT.ind with
  | h k s m n p ps ih =>
    rw [NT.Own_mk, NT.Lies_mk]
    rintro ⟨h1, h2⟩
    refine ⟨?_, fun t ht => ih t ht (h2 t ht)⟩
    rcases h1.2 with ⟨rfl, h0⟩ | ⟨g, cap, cur, rfl, hb, hg, _⟩
    · have : ps.length = 0 := h0
      obtain rfl := List.length_eq_zero_iff.1 this
      exact ⟨none, 0, rfl, .inl rfl⟩
    · exact ⟨_, cap, rfl, .inr ⟨g, 0, rfl, fun j v hv => by
        have := h1.cells (g := g) rfl j v hv
        rw [show (⟨g, 0, none⟩ : Addr).add j = ⟨g, 0 + j, none⟩ by unfold Addr.add; split <;> simp_all] at this
        exact this⟩⟩
theorem cells_len (t : NT) : t.cells.length = 8 := rfl
theorem flat_at : ∀ (ps : List NT) (i : Nat) (h : i < ps.length) (j : Nat), j < 8 → (ps.flatMap NT.cells)[8 * i + j]? = (ps[i]).cells[j]?
  | [], i, h, _, _ => by cases h
  | t :: ts, 0, _, j, hj => by rw [List.flatMap_cons, List.getElem?_append_left (by rw [cells_len]; omega)]; simp
  | t :: ts, i + 1, h, j, hj => by
    rw [List.flatMap_cons, List.getElem?_append_right (by rw [cells_len]; omega), cells_len, show 8 * (i + 1) + j - 8 = 8 * i + j by omega]
    exact flat_at ts i (by simpa using h) j hj
/-- An element of a row. -/
theorem RowAt.elem {w : World} {a : Option Addr} {ps : List NT} (h : RowAt w a (ps.flatMap NT.cells)) {i : Nat} (hi : i < ps.length) : ∃ b off, a = some ⟨b, off, none⟩ ∧ w.rangeAt b (off + i * 8) (ps[i]).cells := by
  rcases h with h | ⟨b, off, e, h⟩
  · have := flat_at ps i hi 0 (by omega)
    rw [h] at this
    cases this
  · refine ⟨b, off, e, fun j v hv => ?_⟩
    have hj : j < 8 := by
      have := (List.getElem?_eq_some_iff.1 hv).1
      rw [cells_len] at this
      exact this
    rw [← flat_at ps i hi j hj] at hv
    have := h _ _ hv
    rw [show off + i * 8 + j = off + (8 * i + j) by omega]
    exact this
theorem isRowNode : ∃ d, Tryz.prog.underlying 42 = some d ∧ d.isRow = true := ⟨_, Tryz.underlying42, rfl⟩
/-- A whole node is loaded out of a row. -/
theorem wpl_loadN {w : World} {ops : Array Oper} {rest : List Oper} {o : Oper} {a : Act} {Q : Exit → Act → World → Prop} (x : Operand) (ho : o.op = .load 42 x) (hgd : o.guard = none)
    {g off : Nat} (hx : a.eval x = .pointer (some ⟨g, off, none⟩)) {k : Int} {s : S4} {m n : Int} {p : Value} (hr : w.rangeAt g off (nodeCells k s m n p))
    (h : wpList Tryz.prog ops Q rest (a.put o.dst (nodeVal k s m n p)) w) : wpList Tryz.prog ops Q (o :: rest) a w := by
  refine wpList_plain hgd fun K hK => ?_
  obtain ⟨d, hd, hd2⟩ := isRowNode
  refine wp_load_mid _ x ho g off hx _ d hr hd hd2 ?_ (hK _ _ h)
  rw [infoNode]
  rfl
/-- An element, taken apart. -/
theorem lies_elem {w : World} {a : Option Addr} {ps : List NT} (h : RowAt w a (ps.flatMap NT.cells)) (hl : ∀ t ∈ ps, t.Lies w) {i : Nat} (hi : i < ps.length) :
    ∃ b off k s m n ta tl tc tps, a = some ⟨b, off, none⟩ ∧ ps[i] = .mk k s m n (.slice ta tl tc) tps ∧ NT.mk k s m n (.slice ta tl tc) tps ∈ ps ∧ w.rangeAt b (off + i * 8) (nodeCells k s m n (.slice ta tl tc)) := by
  obtain ⟨b, off, e, hr⟩ := h.elem hi
  have hm : ps[i] ∈ ps := List.getElem_mem _
  have hl1 := hl _ hm
  obtain ⟨t, ht⟩ : ∃ t, ps[i] = t := ⟨_, rfl⟩
  rw [ht] at hr hm hl1
  obtain ⟨k, s, m, n, p, tps⟩ := t
  obtain ⟨⟨ta, tc, rfl, _⟩, _⟩ := NT.Lies_mk.1 hl1
  exact ⟨b, off, k, s, m, n, ta, _, tc, tps, e, ht, hm, hr⟩
theorem rangeAt_below {w w' : World} {b off : Nat} {cs : List Value} (h : w.rangeAt b off cs) (hb : Below w.heap.size w w') : w'.rangeAt b off cs := fun j v hv => below_cell hb _ _ (h j v hv)
theorem nodes_mk (k : Int) (s : S4) (m n : Int) (p : Value) (ps : List NT) : nodes (NT.mk k s m n p ps).pt = 1 + nodesL (ps.map NT.pt) := by rw [NT.pt_mk, nodes]
theorem nodesL_app (a b : List PT) : nodesL (a ++ b) = nodesL a + nodesL b := by
  induction a with
  | nil => simp [nodesL]
  | cons t ts ih => rw [List.cons_append, nodesL, nodesL, ih]; omega
theorem take_mapP {ps : List NT} {i : Nat} (h : i < ps.length) : (ps.map NT.pt).take (i + 1) = (ps.map NT.pt).take i ++ [(ps[i]).pt] := by
  rw [List.take_add_one, List.getElem?_map, List.getElem?_eq_getElem h]; rfl
theorem nodesL_take {ps : List NT} {i : Nat} (h : i < ps.length) : nodesL ((ps.map NT.pt).take (i + 1)) = nodesL ((ps.map NT.pt).take i) + nodes (ps[i]).pt := by
  rw [take_mapP h, nodesL_app, nodesL, nodesL, Nat.add_zero]
theorem nodes_pos (t : PT) : 1 ≤ nodes t := by cases t; rw [nodes]; omega
theorem nodesL_len : ∀ l : List PT, l.length ≤ nodesL l
  | [] => Nat.le_refl _
  | t :: ts => by have := nodesL_len ts; have := nodes_pos t; rw [nodesL, List.length_cons]; omega
theorem nodesL_take_le (l : List PT) (i : Nat) : nodesL (l.take i) ≤ nodesL l := by
  have := nodesL_app (l.take i) (l.drop i)
  rw [List.take_append_drop] at this
  omega
end Go.Proofs.YthhchpmlljfpjaaGreat
