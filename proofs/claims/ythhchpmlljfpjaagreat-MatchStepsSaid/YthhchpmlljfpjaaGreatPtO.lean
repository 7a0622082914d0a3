import Derived.Test.YthhchpmlljfpjaaGreatPtB
import Derived.Test.YthhchpmlljfpjaaGreatPtL
namespace Go.Proofs.YthhchpmlljfpjaaGreat
open Go.RowKit

/-! Elements of many cells behind a row; trees in memory. -/
theorem run_appS {P : Program} {w : World} (T ty E : TypeId) (hT : P.underlying T = some (.slice E)) {z : Value} {S bytes : Nat} (hI : (P.info? E).map (fun i => (i.zero, i.size, i.bytes)) = some (some z, S, bytes)) (hzs : z.cells.size = S) (hS : 0 < S) (hby : bytes ≤ 128)
    (B : Nat) (v : Value) (n : Nat) (xs : List Value) (hown : w.ownsRow B E S v n xs) (b : Nat) (cs : List Value) (hl : cs.length = S)
    (hc : ∀ j u, cs[j]? = some u → w.cell? ⟨b, j, none⟩ = some u) (h1 : ∀ u ∈ cs, u.oneCell' = true) (hn : n + 1 ≤ 1099511627776) (hB : B ≤ w.heap.size) :
    ∃ g cap w', (Builtin.append_ #[T, T] ty #[v, .slice (some ⟨b, 0, none⟩) 1 1]).run P w = .ok (.slice (some ⟨g, 0, none⟩) (n + 1) cap) w' ∧
      w'.ownsRow B E S (.slice (some ⟨g, 0, none⟩) (n + 1) cap) (n + 1) (xs ++ cs) ∧ w.grownBy w' v.ownBlock ∧ B ≤ g ∧ g < w'.heap.size ∧ (v.ownBlock = some g ∨ g = w.heap.size) := by
  obtain ⟨i, hi, hz, hsz, hb⟩ := info_parts hI
  have hnews : ∀ (j : Nat) u, cs[j]? = some u → w.cell? ((⟨b, 0, none⟩ : Addr).add j) = some u := by
    intro j u hj
    rw [show (⟨b, 0, none⟩ : Addr).add j = ⟨b, j, none⟩ by unfold Addr.add; split <;> simp_all]
    exact hc j u hj
  have hbytes : (n + 1) * bytes ≤ 140737488355328 := Nat.le_trans (Nat.mul_le_mul hn hby) (by decide)
  have hl1 : cs.length = 1 * S := by omega
  obtain ⟨v', w', hr, hown', hg, _⟩ := run_append_own (P := P) w B T ty E i z S bytes hT hi hz hsz hb hzs hS v n xs hown ⟨b, 0, none⟩ 1 1 cs hl1 hnews h1 (by simp only [maxLen]; omega) hbytes hB
  have key : ∀ g cap w1, (Builtin.append_ #[T, T] ty #[v, .slice (some ⟨b, 0, none⟩) 1 1]).run P w = .ok (.slice (some ⟨g, 0, none⟩) (n + 1) cap) w1 → (v.ownBlock = some g ∨ g = w.heap.size) →
      ∃ g cap w', (Builtin.append_ #[T, T] ty #[v, .slice (some ⟨b, 0, none⟩) 1 1]).run P w = .ok (.slice (some ⟨g, 0, none⟩) (n + 1) cap) w' ∧
      w'.ownsRow B E S (.slice (some ⟨g, 0, none⟩) (n + 1) cap) (n + 1) (xs ++ cs) ∧ w.grownBy w' v.ownBlock ∧ B ≤ g ∧ g < w'.heap.size ∧ (v.ownBlock = some g ∨ g = w.heap.size) := by
    intro g cap w1 hr1 hor
    rw [hr] at hr1
    have hr2 : v' = .slice (some ⟨g, 0, none⟩) (n + 1) cap ∧ w' = w1 := by simpa using hr1
    obtain ⟨rfl, rfl⟩ := hr2
    have hl := hown'.lt g rfl
    exact ⟨g, cap, w', hr, hown', hg, hl.1, hl.2, hor⟩
  rcases hown.2 with ⟨rfl, rfl⟩ | ⟨g, cap, cur, rfl, hbg, hgg, hnc, hcm, hcs, htake⟩
  · have hr1 := run_append_nil (P := P) w T ty E i z hT hi hz ⟨b, 0, none⟩ 1 1 cs (by rw [hsz]; exact hl1) hnews (by omega) (by omega) (by rw [hb]; omega)
    exact key _ _ _ hr1 (.inr rfl)
  · by_cases hroom : n + 1 ≤ cap
    · have hfit : n * i.size + cs.length ≤ cur.size := by
        rw [hsz, hcs, hl]
        have : (n + 1) * S ≤ cap * S := Nat.mul_le_mul_right _ hroom
        rw [Nat.add_mul] at this
        omega
      have hr1 := run_append_room (P := P) w T ty E i hT hi g n cap cur hgg ⟨b, 0, none⟩ 1 1 cs (by rw [hsz]; exact hl1) hnews h1 hroom hfit
      exact key _ _ _ hr1 (.inl rfl)
    · have hr1 := run_append_grow (P := P) w T ty E i z hT hi hz ⟨g, 0, none⟩ n cap xs (by rw [hsz]; exact hown.1) (hown.cells (g := g) rfl) ⟨b, 0, none⟩ 1 1 cs (by rw [hsz]; exact hl1) hnews (by omega) (by omega) (growslice_fits (by omega) (by rw [hb]; exact hbytes))
      exact key _ _ _ hr1 (.inr rfl)
theorem wpl_appS (T E : TypeId) (hT : Tryz.prog.underlying T = some (.slice E)) {z : Value} {S bytes : Nat} (hI : (Tryz.prog.info? E).map (fun i => (i.zero, i.size, i.bytes)) = some (some z, S, bytes)) (hzs : z.cells.size = S) (hS : 0 < S) (hby : bytes ≤ 128)
    {w : World} {ops : Array Oper} {rest : List Oper} {o : Oper} {a : Act} {Q : Exit → Act → World → Prop} (hgd : o.guard = none) (s x : Operand)
    (ho : o.op = .call { callee := .builtin .append, args := #[s, x], argTypes := #[T, T] })
    (B : Nat) (v : Value) (n : Nat) (xs : List Value) (hs : a.eval s = v) (hown : w.ownsRow B E S v n xs) (b : Nat) (cs : List Value) (hl : cs.length = S) (hx : a.eval x = .slice (some ⟨b, 0, none⟩) 1 1)
    (hc : ∀ j u, cs[j]? = some u → w.cell? ⟨b, j, none⟩ = some u) (h1 : ∀ u ∈ cs, u.oneCell' = true) (hn : n + 1 ≤ 1099511627776) (hB : B ≤ w.heap.size)
    (h : ∀ g cap w', w'.ownsRow B E S (.slice (some ⟨g, 0, none⟩) (n + 1) cap) (n + 1) (xs ++ cs) → w.grownBy w' v.ownBlock → B ≤ g → g < w'.heap.size → Hid (v.ownBlock = some g ∨ g = w.heap.size) →
      wpList Tryz.prog ops Q rest (a.put o.dst (.slice (some ⟨g, 0, none⟩) (n + 1) cap)) w') :
    wpList Tryz.prog ops Q (o :: rest) a w := by
  refine wpList_plain hgd fun K hK => ?_
  obtain ⟨g, cap, w', hr, hown', hg, hBg, hlt, hor⟩ := run_appS (P := Tryz.prog) T o.type E hT hI hzs hS hby B v n xs hown b cs hl hc h1 hn hB
  unfold Oper.wp execOp
  simp only [ho, resolve, invoke, builtin, Sem.run_bind, Sem.run_pure, Result.andThen_ok, List.map_toArray, List.map_cons, List.map_nil, hs, hx, hr]
  exact hK _ _ (h g cap w' hown' hg hBg hlt hor)
/-- A whole value into a block that is known whole. -/
theorem wpl_storeS {w : World} {ops : Array Oper} {rest : List Oper} {o : Oper} {a : Act} {Q : Exit → Act → World → Prop} (ty : TypeId) (x y : Operand) (ho : o.op = .store ty x y) (hgd : o.guard = none)
    {t : TypeId} {g : Nat} {cur : List Value} (hc : CB w t g cur) (hx : a.eval x = .pointer (some ⟨g, 0, none⟩)) {vs : Array Value} (hy : a.eval y = .agg vs) (hn : vs.size = cur.length) (hi : (Tryz.prog.info? ty).map (·.size) = some cur.length) (h1 : (vs.toList.all fun v => v.oneCell') = true)
    (h : ∀ w', CB w' t g vs.toList → Chg (fun k => k = g) w w' → w'.heap.size = w.heap.size → wpList Tryz.prog ops Q rest (a.put o.dst undef) w') : wpList Tryz.prog ops Q (o :: rest) a w := by
  refine wpList_plain hgd fun K hK => ?_
  refine wp_storec ty x y ho g 0 cur.length hx vs.toList (by simpa using hy) (by simpa using hn) hc hi (by omega) (List.all_eq_true.1 h1) fun w' h2 h3 h4 => hK _ _ (h w' ?_ h3 h4)
  have e : splice cur 0 vs.toList = vs.toList := by
    unfold splice
    simp [hn]
  rw [e] at h2
  exact h2
theorem Chg.ownsS {S : Nat → Prop} {w w' : World} (h : Chg S w w') {B E n k : Nat} {v : Value} {xs : List Value} (ho : w.ownsRow B E k v n xs) (hn : ∀ k, v.ownBlock = some k → ¬ S k) : w'.ownsRow B E k v n xs := by
  refine ⟨ho.1, ?_⟩
  rcases ho.2 with h0 | ⟨g, cap, cur, rfl, hb, hg, rest⟩
  · exact .inl h0
  · exact .inr ⟨g, cap, cur, rfl, hb, h.heap hg (hn g rfl), rest⟩
theorem ownsS_base {w : World} {B B' E n k : Nat} {v : Value} {xs : List Value} (ho : w.ownsRow B E k v n xs) (hB : B' ≤ B) : w.ownsRow B' E k v n xs := by
  refine ⟨ho.1, ?_⟩
  rcases ho.2 with h0 | ⟨g, cap, cur, rfl, hb, rest⟩
  · exact .inl h0
  · exact .inr ⟨g, cap, cur, rfl, Nat.le_trans hB hb, rest⟩
@[reducible] def nodeCells (k : Int) (s : S4) (m n : Int) (p : Value) : List Value := [.int .i64 k, .int .u64 (s.a : Nat), .int .u64 (s.b : Nat), .int .u64 (s.c : Nat), .int .u64 (s.d : Nat), .int .i64 m, .int .i64 n, p]
@[reducible] def nodeVal (k : Int) (s : S4) (m n : Int) (p : Value) : Value := .agg #[.int .i64 k, .int .u64 (s.a : Nat), .int .u64 (s.b : Nat), .int .u64 (s.c : Nat), .int .u64 (s.d : Nat), .int .i64 m, .int .i64 n, p]
theorem infoNode : (Tryz.prog.info? 42).map (·.size) = some 8 := by kernel_rfl
theorem infoNode3 : (Tryz.prog.info? 42).map (fun i => (i.zero, i.size, i.bytes)) = some (some (nodeVal 0 .zero 0 0 (.slice none 0 0)), 8, 80) := by kernel_rfl
/-- A tree in memory: its cells, and its parts. -/
inductive NT where
  | mk (k : Int) (s : S4) (m n : Int) (p : Value) (ps : List NT)
def NT.k : NT → Int | .mk k _ _ _ _ _ => k
def NT.s : NT → S4 | .mk _ s _ _ _ _ => s
def NT.m : NT → Int | .mk _ _ m _ _ _ => m
def NT.n : NT → Int | .mk _ _ _ n _ _ => n
def NT.p : NT → Value | .mk _ _ _ _ p _ => p
def NT.ps : NT → List NT | .mk _ _ _ _ _ ps => ps
def NT.cells (t : NT) : List Value := nodeCells t.k t.s t.m t.n t.p
@[reducible] def NT.val (t : NT) : Value := nodeVal t.k t.s t.m t.n t.p
mutual
def NT.pt : NT → PT | .mk k s m n _ ps => .mk k s m n (NT.ptL ps)
def NT.ptL : List NT → List PT | [] => [] | t :: ts => t.pt :: NT.ptL ts
end
mutual
/-- The blocks of its rows. -/
def NT.foot : NT → List Nat | .mk _ _ _ _ p ps => p.ownBlock.toList ++ NT.footL ps
def NT.footL : List NT → List Nat | [] => [] | t :: ts => t.foot ++ NT.footL ts
end
mutual
/-- Its rows stand in blocks of their own, from B on. -/
def NT.Own (w : World) (B : Nat) : NT → Prop | .mk _ _ _ _ p ps => w.ownsRow B 42 8 p ps.length (ps.flatMap NT.cells) ∧ NT.OwnL w B ps
def NT.OwnL (w : World) (B : Nat) : List NT → Prop | [] => True | t :: ts => t.Own w B ∧ NT.OwnL w B ts
end
theorem NT.ptL_map (ps : List NT) : NT.ptL ps = ps.map NT.pt := by induction ps with | nil => rfl | cons t ts ih => rw [NT.ptL, ih]; rfl
theorem NT.footL_map (ps : List NT) : NT.footL ps = ps.flatMap NT.foot := by induction ps with | nil => rfl | cons t ts ih => rw [NT.footL, ih]; rfl
theorem NT.OwnL_all {w : World} {B : Nat} (ps : List NT) : NT.OwnL w B ps ↔ ∀ t ∈ ps, t.Own w B := by
  induction ps with
  | nil => simp [NT.OwnL]
  | cons t ts ih => rw [NT.OwnL, ih]; simp
theorem NT.ind {P : NT → Prop} (h : ∀ k s m n p ps, (∀ t ∈ ps, P t) → P (.mk k s m n p ps)) (t : NT) : P t :=
  NT.rec (motive_1 := P) (motive_2 := fun ps => ∀ t ∈ ps, P t) (fun k s m n p ps ih => h k s m n p ps ih) (fun _ ht => by cases ht) (fun _ _ h1 h2 t ht => (List.mem_cons.1 ht).elim (fun e => e ▸ h1) (fun ht => h2 t ht)) t
theorem NT.foot_mk (k : Int) (s : S4) (m n : Int) (p : Value) (ps : List NT) : (NT.mk k s m n p ps).foot = p.ownBlock.toList ++ ps.flatMap NT.foot := by rw [NT.foot, NT.footL_map]
theorem NT.Own_mk {w : World} {B : Nat} {k : Int} {s : S4} {m n : Int} {p : Value} {ps : List NT} : (NT.mk k s m n p ps).Own w B ↔ w.ownsRow B 42 8 p ps.length (ps.flatMap NT.cells) ∧ ∀ t ∈ ps, t.Own w B := by rw [NT.Own, NT.OwnL_all]
theorem NT.pt_mk (k : Int) (s : S4) (m n : Int) (p : Value) (ps : List NT) : (NT.mk k s m n p ps).pt = .mk k s m n (ps.map NT.pt) := by rw [NT.pt, NT.ptL_map]
/-- A tree stays where its blocks stay. -/
theorem NT.Own.chg {S : Nat → Prop} {w w' : World} {B : Nat} (h : Chg S w w') (t : NT) : t.Own w B → (∀ g ∈ t.foot, ¬ S g) → t.Own w' B := by
  induction t using NT.ind with
  | h k s m n p ps ih =>
    rw [NT.Own_mk, NT.Own_mk, NT.foot_mk]
    rintro ⟨h1, h2⟩ hS
    refine ⟨h.ownsS h1 fun g hg => hS g (by simp [hg]), fun t ht => ih t ht (h2 t ht) fun g hg => hS g ?_⟩
    exact List.mem_append_right _ (List.mem_flatMap.2 ⟨t, ht, hg⟩)
theorem NT.Own.base {w : World} {B B' : Nat} (hB : B' ≤ B) (t : NT) : t.Own w B → t.Own w B' := by
  induction t using NT.ind with
  | h k s m n p ps ih =>
    rw [NT.Own_mk, NT.Own_mk]
    rintro ⟨h1, h2⟩
    exact ⟨ownsS_base h1 hB, fun t ht => ih t ht (h2 t ht)⟩
theorem NT.Own.lt {w : World} {B : Nat} (t : NT) : t.Own w B → ∀ g ∈ t.foot, B ≤ g ∧ g < w.heap.size := by
  induction t using NT.ind with
  | h k s m n p ps ih =>
    rw [NT.Own_mk, NT.foot_mk]
    rintro ⟨h1, h2⟩ g hg
    rcases List.mem_append.1 hg with hg | hg
    · exact World.ownsRow.lt h1 g (by simpa using hg)
    · obtain ⟨t, ht, hg⟩ := List.mem_flatMap.1 hg
      exact ih t ht (h2 t ht) g hg
theorem NT.Own.below {w w' : World} {B : Nat} {t : NT} (h : t.Own w B) (hb : Below w.heap.size w w') : t.Own w' B :=
  NT.Own.chg (Chg.of_below hb) t h fun g hg => by have := NT.Own.lt t h g hg; omega
/-- A node without parts. -/
def leafN (k : Int) (s : S4) : NT := .mk k s 0 0 (.slice none 0 0) []
theorem leafN_own (k : Int) (s : S4) (w : World) (B : Nat) : (leafN k s).Own w B := NT.Own_mk.2 ⟨World.ownsRow_nil _ _ _ _, (fun t ht => by cases ht)⟩
theorem leafN_foot (k : Int) (s : S4) : (leafN k s).foot = [] := by unfold leafN; rw [NT.foot_mk]; rfl
theorem leafN_pt (k : Int) (s : S4) : (leafN k s).pt = .mk k s 0 0 [] := by unfold leafN; rw [NT.pt_mk]; rfl
/-- A tree of the caller's own. -/
structure NewT (w : World) (B : Nat) (t : NT) : Prop where
  own : t.Own w B
  nodup : t.foot.Nodup
theorem leafN_new (k : Int) (s : S4) (w : World) (B : Nat) : NewT w B (leafN k s) := ⟨leafN_own k s w B, by rw [leafN_foot]; exact List.nodup_nil⟩
/-- A part of a text was read as a tree, or there is an error. -/
def TreeRet (rb : Nat) (s : ByteArray) (i o n : Nat) (p : Nat → Res PT → Prop) (w : World) (e : Ending) (w' : World) : Prop :=
  ∃ j o' : Nat, RS w w' rb s j o' ∧ i ≤ j ∧ j ≤ n ∧ ((∃ t : NT, NewT w' w.heap.size t ∧ o' = o ∧ p j (.ok t.pt ((bsN s).drop j)) ∧ e = .returned (.tuple #[t.val, .int .i64 0])) ∨ (∃ k : Int, k ≠ 0 ∧ p j (.no k.toNat) ∧ e = .returned (.tuple #[nodeVal 0 .zero 0 0 (.slice none 0 0), .int .i64 k])))
theorem CB.eight {w : World} {t : TypeId} {g : Nat} {a b c d e f x y : Value} (h : CB w t g [a, b, c, d, e, f, x, y]) :
    (w.cell? ⟨g, 0, none⟩ = some a ∧ w.cell? ⟨g, 1, none⟩ = some b ∧ w.cell? ⟨g, 2, none⟩ = some c ∧ w.cell? ⟨g, 3, none⟩ = some d ∧ w.cell? ⟨g, 4, none⟩ = some e ∧ w.cell? ⟨g, 5, none⟩ = some f ∧ w.cell? ⟨g, 6, none⟩ = some x ∧ w.cell? ⟨g, 7, none⟩ = some y) ∧
    (w.frozen? ⟨g, 0, none⟩ = false ∧ w.frozen? ⟨g, 1, none⟩ = false ∧ w.frozen? ⟨g, 2, none⟩ = false ∧ w.frozen? ⟨g, 3, none⟩ = false ∧ w.frozen? ⟨g, 4, none⟩ = false ∧ w.frozen? ⟨g, 5, none⟩ = false ∧ w.frozen? ⟨g, 6, none⟩ = false ∧ w.frozen? ⟨g, 7, none⟩ = false) :=
  ⟨⟨h.cell 0, h.cell 1, h.cell 2, h.cell 3, h.cell 4, h.cell 5, h.cell 6, h.cell 7⟩, h.free 0, h.free 1, h.free 2, h.free 3, h.free 4, h.free 5, h.free 6, h.free 7⟩
def World.put8 (w : World) (g : Nat) (a b c d e f x y : Value) : World := (((((((w.setCell ⟨g, 0, none⟩ a).setCell ⟨g, 1, none⟩ b).setCell ⟨g, 2, none⟩ c).setCell ⟨g, 3, none⟩ d).setCell ⟨g, 4, none⟩ e).setCell ⟨g, 5, none⟩ f).setCell ⟨g, 6, none⟩ x).setCell ⟨g, 7, none⟩ y
theorem CB.set8 {w : World} {t : TypeId} {g : Nat} {v0 v1 v2 v3 v4 v5 v6 v7 : Value} (h : CB w t g [v0, v1, v2, v3, v4, v5, v6, v7]) (a b c d e f x y : Value) :
    CB ((((((((w.setCell ⟨g, 0, none⟩ a).setCell ⟨g, 1, none⟩ b).setCell ⟨g, 2, none⟩ c).setCell ⟨g, 3, none⟩ d).setCell ⟨g, 4, none⟩ e).setCell ⟨g, 5, none⟩ f).setCell ⟨g, 6, none⟩ x).setCell ⟨g, 7, none⟩ y) t g [a, b, c, d, e, f, x, y] :=
  (((((((h.set 0 a).set 1 b).set 2 c).set 3 d).set 4 e).set 5 f).set 6 x).set 7 y
theorem Chg.put_new {S : Nat → Prop} {a w w' : World} {g : Nat} (h : Chg S a w) (k : Chg (fun k => k = g) w w') (hg : a.heap.size ≤ g) : Chg S a w' :=
  ⟨k.os.trans h.os, k.tape.trans h.tape, k.output.trans h.output, Nat.le_trans h.size k.size, fun i hi hs => (k.block i (Nat.lt_of_lt_of_le hi h.size) (by omega)).trans (h.block i hi hs)⟩
theorem RS.put {w0 w w' : World} {rb : Nat} {s : ByteArray} {i o g : Nat} (h : RS w0 w rb s i o) (k : Chg (fun k => k = g) w w') (hg : w0.heap.size ≤ g) (hne : g ≠ rb) : RS w0 w' rb s i o :=
  ⟨CB.chg h.box k (fun e => hne e.symm), h.chg.put_new k hg⟩
theorem RS.eight {w0 w : World} {rb : Nat} {s : ByteArray} {i o : Nat} (h : RS w0 w rb s i o) {g : Nat} (hg : w0.heap.size ≤ g) (hne : g ≠ rb) (a b c d e f x y : Value) :
    RS w0 ((((((((w.setCell ⟨g, 0, none⟩ a).setCell ⟨g, 1, none⟩ b).setCell ⟨g, 2, none⟩ c).setCell ⟨g, 3, none⟩ d).setCell ⟨g, 4, none⟩ e).setCell ⟨g, 5, none⟩ f).setCell ⟨g, 6, none⟩ x).setCell ⟨g, 7, none⟩ y) rb s i o :=
  (((((((h.other hg hne 0 a).other hg hne 1 b).other hg hne 2 c).other hg hne 3 d).other hg hne 4 e).other hg hne 5 f).other hg hne 6 x).other hg hne 7 y
set_option maxHeartbeats 1000000 in
set_option maxRecDepth 100000 in
theorem p_setOf (s : S4) (w : World) : Calls Tryz.prog 106 #[s.val] w fun e w' => e = .returned (nodeVal 1 s 0 0 (.slice none 0 0)) ∧ Below w.heap.size w w' := by
  have hc := cb2 w (.cells s.cells.toArray 39) 42 (nodeCells 1 s 0 0 (.slice none 0 0))
  have HC := Lib.hid hc
  clear hc
  go_enter Tryz.func106, Tryz.ntmps106
  go_wp2
  refine bodyPost_ret (ret_row rfl rfl HC.out _ Tryz.underlying42 rfl infoNode) rfl ⟨rfl, ?_⟩
  exact ((Below.refl _ _).alloc (Nat.le_refl _) _).alloc (by go_size) _
end Go.Proofs.YthhchpmlljfpjaaGreat
