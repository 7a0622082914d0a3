import Derived.Test.YteanpdiceaijhaaDoorRows
import Derived.WalkKit
import Derived.Handy
import Derived.Lib.Hide
namespace Go.Proofs.YteanpdiceaijhaaDoor
open Go.RowKit

/-- The list that a slice's cells hold. -/
def Rd (k : IntKind) (w : World) (a : Option Addr) (xs : List Nat) : Prop :=
  ∀ j, j < xs.length → ∃ b off, a = some ⟨b, off, none⟩ ∧ ∀ i, i < xs.length → w.cell? ⟨b, off + i, none⟩ = some (.int k (xs.getD i 0 : Nat))

theorem Rd.get {k : IntKind} {w : World} {a : Option Addr} {xs : List Nat} (h : Rd k w a xs) (h0 : 0 < xs.length) : ∃ b off, a = some ⟨b, off, none⟩ ∧ ∀ i, i < xs.length → w.cell? ⟨b, off + i, none⟩ = some (.int k (xs.getD i 0 : Nat)) := h 0 h0

theorem Rd.mono {k : IntKind} {w w' : World} {a : Option Addr} {xs : List Nat} (h : Rd k w a xs) (hb : ∀ p v, w.cell? p = some v → w'.cell? p = some v) : Rd k w' a xs := by
  intro j hj
  obtain ⟨b, off, e, hc⟩ := h j hj
  exact ⟨b, off, e, fun i hi => hb _ _ (hc i hi)⟩

theorem below_cell {w w' : World} (hb : Below w.heap.size w w') : ∀ p v, w.cell? p = some v → w'.cell? p = some v := by
  intro p v h
  rw [hb.cell (World.block_lt_of_cell? w p h)]
  exact h

theorem Rd.below {k : IntKind} {w w' : World} {a : Option Addr} {xs : List Nat} (h : Rd k w a xs) (hb : Below w.heap.size w w') : Rd k w' a xs := h.mono (below_cell hb)

theorem bcell {W w1 : World} (hb : Below W.heap.size W w1) : (∀ b o, b < W.heap.size → w1.cell? ⟨b, o, none⟩ = W.cell? ⟨b, o, none⟩) ∧ (∀ b o, b < W.heap.size → w1.frozen? ⟨b, o, none⟩ = W.frozen? ⟨b, o, none⟩) :=
  ⟨fun b o h => hb.cell (p := ⟨b, o, none⟩) h, fun b o h => hb.frozen (p := ⟨b, o, none⟩) h⟩

theorem ret_int {k : IntKind} {a b : Int} (h : a = b) : Ending.returned (.int k a) = .returned (.int k b) := by rw [h]

theorem info64 : (Tryd.prog.info? 55).map (fun i => (i.zero, i.size, i.bytes)) = some (some (.int .u64 0), 1, 8) := by kernel_rfl
theorem info8 : (Tryd.prog.info? 5).map (fun i => (i.zero, i.size, i.bytes)) = some (some (.int .u8 0), 1, 1) := by kernel_rfl
theorem infoL64 : (Tryd.prog.info? 22).map (fun i => (i.zero, i.size, i.bytes)) = some (some (.slice none 0 0), 1, 24) := by kernel_rfl
theorem infoL8 : (Tryd.prog.info? 29).map (fun i => (i.zero, i.size, i.bytes)) = some (some (.slice none 0 0), 1, 24) := by kernel_rfl


/-- What has turned lies in blocks of S, or is new. -/
structure Chg (S : Nat → Prop) (w w' : World) : Prop where
  os : w'.os = w.os
  tape : w'.tape = w.tape
  output : w'.output = w.output
  size : w.heap.size ≤ w'.heap.size
  block : ∀ k, k < w.heap.size → ¬ S k → w'.heap[k]? = w.heap[k]?

theorem Chg.refl (S : Nat → Prop) (w : World) : Chg S w w := ⟨rfl, rfl, rfl, Nat.le_refl _, fun _ _ _ => rfl⟩
theorem Chg.trans {S : Nat → Prop} {a b c : World} (h : Chg S a b) (k : Chg S b c) : Chg S a c :=
  ⟨k.os.trans h.os, k.tape.trans h.tape, k.output.trans h.output, Nat.le_trans h.size k.size, fun i hi hs => (k.block i (Nat.lt_of_lt_of_le hi h.size) hs).trans (h.block i hi hs)⟩
/-- Two steps, the second's blocks being S's or new. -/
theorem Chg.step {S T : Nat → Prop} {a b c : World} (h : Chg S a b) (k : Chg T b c) (hT : ∀ i, T i → i < a.heap.size → S i) : Chg S a c :=
  ⟨k.os.trans h.os, k.tape.trans h.tape, k.output.trans h.output, Nat.le_trans h.size k.size, fun i hi hs => (k.block i (Nat.lt_of_lt_of_le hi h.size) (fun ht => hs (hT i ht hi))).trans (h.block i hi hs)⟩
theorem Chg.mono {S T : Nat → Prop} {a b : World} (h : Chg S a b) (hS : ∀ i, S i → i < a.heap.size → T i) : Chg T a b := ⟨h.os, h.tape, h.output, h.size, fun i hi hs => h.block i hi (fun k => hs (hS i k hi))⟩
theorem Chg.of_grown {w w' : World} {row : Option Nat} (h : w.grownBy w' row) : Chg (fun k => some k = row) w w' := ⟨h.os, h.tape, h.output, h.size, fun k hk hn => h.block k hk hn⟩
theorem Chg.of_below {B : Nat} {w w' : World} (h : Below B w w') : Chg (fun k => B ≤ k) w w' := ⟨h.os, h.tape, h.output, h.size, fun k _ hn => h.block k (by omega)⟩
theorem Chg.below {S : Nat → Prop} {B : Nat} {w w' : World} (h : Chg S w w') (hB : B ≤ w.heap.size) (hS : ∀ k, S k → B ≤ k) : Below B w w' := ⟨h.os, h.tape, h.output, h.size, fun k hk => h.block k (by omega) (fun hs => by have := hS k hs; omega)⟩
theorem Chg.alloc {S : Nat → Prop} {a w : World} (h : Chg S a w) (o : Obj) : Chg S a (w.alloc o) :=
  h.trans ⟨rfl, rfl, rfl, by simp, fun k hk _ => Below.heap_alloc _ _ _ hk⟩
theorem Chg.drew {S : Nat → Prop} {a w : World} (h : Chg S a w) : Chg S a w.drew := ⟨h.os, h.tape, h.output, h.size, h.block⟩
theorem Chg.setCell {S : Nat → Prop} {a w : World} (h : Chg S a w) {p : Addr} (hp : S p.block) (u : Value) : Chg S a (w.setCell p u) :=
  h.trans ⟨rfl, rfl, rfl, by simp [World.setCell], fun k _ hn => Below.heap_setCell _ _ _ _ (fun e => hn (e ▸ hp))⟩
theorem Chg.heap {S : Nat → Prop} {w w' : World} (h : Chg S w w') {k : Nat} {o : Obj} (hk : w.heap[k]? = some o) (hn : ¬ S k) : w'.heap[k]? = some o := (h.block k (lt_of_block hk) hn).trans hk
theorem Chg.cell {S : Nat → Prop} {w w' : World} (h : Chg S w w') {p : Addr} {v : Value} (hp : w.cell? p = some v) (hn : ¬ S p.block) : w'.cell? p = some v := by
  rw [← hp]; exact World.cell?_of_block (h.block p.block (World.block_lt_of_cell? w p hp) hn)
theorem Chg.rd {S : Nat → Prop} {w w' : World} (h : Chg S w w') {k : IntKind} {a : Option Addr} {xs : List Nat} (hr : Rd k w a xs) (hn : ∀ p, a = some p → ¬ S p.block) : Rd k w' a xs := by
  intro j hj
  obtain ⟨b, off, e, hc⟩ := hr j hj
  exact ⟨b, off, e, fun i hi => h.cell (hc i hi) (hn ⟨b, off, none⟩ e)⟩
theorem Chg.owns {S : Nat → Prop} {w w' : World} (h : Chg S w w') {B E n : Nat} {v : Value} {xs : List Value} (ho : w.ownsRow B E 1 v n xs) (hn : ∀ k, v.ownBlock = some k → ¬ S k) : w'.ownsRow B E 1 v n xs := by
  refine ⟨ho.1, ?_⟩
  rcases ho.2 with h0 | ⟨g, cap, cur, rfl, hb, hg, rest⟩
  · exact .inl h0
  · exact .inr ⟨g, cap, cur, rfl, hb, h.heap hg (hn g rfl), rest⟩

/-- A smaller base. -/
theorem owns_base {w : World} {B B' E n : Nat} {v : Value} {xs : List Value} (ho : w.ownsRow B E 1 v n xs) (hB : B' ≤ B) : w.ownsRow B' E 1 v n xs := by
  refine ⟨ho.1, ?_⟩
  rcases ho.2 with h0 | ⟨g, cap, cur, rfl, hb, rest⟩
  · exact .inl h0
  · exact .inr ⟨g, cap, cur, rfl, Nat.le_trans hB hb, rest⟩

/-- One element more behind a row: the block is the row's own, or a new one. -/
theorem run_app {P : Program} {w : World} (T ty E : TypeId) (hT : P.underlying T = some (.slice E)) {z : Value} {bytes : Nat} (hI : (P.info? E).map (fun i => (i.zero, i.size, i.bytes)) = some (some z, 1, bytes)) (hzs : z.cells.size = 1) (hby : bytes ≤ 32)
    (B : Nat) (v : Value) (n : Nat) (xs : List Value) (hown : w.ownsRow B E 1 v n xs) (b : Nat) (c : Value)
    (hc : w.cell? ⟨b, 0, none⟩ = some c) (h1 : c.oneCell' = true) (hn : n + 1 ≤ 4398046511104) (hB : B ≤ w.heap.size) :
    ∃ g cap w', (Builtin.append_ #[T, T] ty #[v, .slice (some ⟨b, 0, none⟩) 1 1]).run P w = .ok (.slice (some ⟨g, 0, none⟩) (n + 1) cap) w' ∧
      w'.ownsRow B E 1 (.slice (some ⟨g, 0, none⟩) (n + 1) cap) (n + 1) (xs ++ [c]) ∧ w.grownBy w' v.ownBlock ∧ B ≤ g ∧ g < w'.heap.size ∧ (v.ownBlock = some g ∨ g = w.heap.size) := by
  obtain ⟨i, hi, hz, hsz, hb⟩ := info_parts hI
  have hnews : ∀ (j : Nat) u, [c][j]? = some u → w.cell? ((⟨b, 0, none⟩ : Addr).add j) = some u := by
    intro j u hj
    rcases j with _ | j
    · simpa [Addr.add] using (by simpa using hj : c = u) ▸ hc
    · simp at hj
  have h1' : ∀ u ∈ [c], u.oneCell' = true := by
    intro u hu
    obtain rfl : u = c := by simpa using hu
    exact h1
  have hbytes : (n + 1) * bytes ≤ 140737488355328 := Nat.le_trans (Nat.mul_le_mul hn hby) (by decide)
  obtain ⟨v', w', hr, hown', hg, _⟩ := run_append_own (P := P) w B T ty E i z 1 bytes hT hi hz hsz hb hzs (by decide) v n xs hown ⟨b, 0, none⟩ 1 1 [c] rfl hnews h1' (by simp only [maxLen]; omega) hbytes hB
  have key : ∀ g cap w1, (Builtin.append_ #[T, T] ty #[v, .slice (some ⟨b, 0, none⟩) 1 1]).run P w = .ok (.slice (some ⟨g, 0, none⟩) (n + 1) cap) w1 → (v.ownBlock = some g ∨ g = w.heap.size) →
      ∃ g cap w', (Builtin.append_ #[T, T] ty #[v, .slice (some ⟨b, 0, none⟩) 1 1]).run P w = .ok (.slice (some ⟨g, 0, none⟩) (n + 1) cap) w' ∧
      w'.ownsRow B E 1 (.slice (some ⟨g, 0, none⟩) (n + 1) cap) (n + 1) (xs ++ [c]) ∧ w.grownBy w' v.ownBlock ∧ B ≤ g ∧ g < w'.heap.size ∧ (v.ownBlock = some g ∨ g = w.heap.size) := by
    intro g cap w1 hr1 hor
    rw [hr] at hr1
    have hr2 : v' = .slice (some ⟨g, 0, none⟩) (n + 1) cap ∧ w' = w1 := by simpa using hr1
    obtain ⟨rfl, rfl⟩ := hr2
    have hl := hown'.lt g rfl
    exact ⟨g, cap, w', hr, hown', hg, hl.1, hl.2, hor⟩
  rcases hown.2 with ⟨rfl, rfl⟩ | ⟨g, cap, cur, rfl, hbg, hgg, hnc, hcm, hcs, htake⟩
  · have hr1 := run_append_nil (P := P) w T ty E i z hT hi hz ⟨b, 0, none⟩ 1 1 [c] (by simp [hsz]) hnews (by omega) (by omega) (by rw [hb]; omega)
    exact key _ _ _ hr1 (.inr rfl)
  · by_cases hroom : n + 1 ≤ cap
    · have hr1 := run_append_room (P := P) w T ty E i hT hi g n cap cur hgg ⟨b, 0, none⟩ 1 1 [c] (by simp [hsz]) hnews h1' hroom (by rw [hsz]; simp; omega)
      exact key _ _ _ hr1 (.inl rfl)
    · have hr1 := run_append_grow (P := P) w T ty E i z hT hi hz ⟨g, 0, none⟩ n cap xs (by rw [hsz]; exact hown.1) (hown.cells (g := g) rfl) ⟨b, 0, none⟩ 1 1 [c] (by simp [hsz]) hnews (by omega) (by omega) (growslice_fits (by omega) (by rw [hb]; exact hbytes))
      exact key _ _ _ hr1 (.inr rfl)

/-- One element more behind a row that the call owns, in a walk. -/
theorem wpl_app (T E : TypeId) (hT : Tryd.prog.underlying T = some (.slice E)) {z : Value} {bytes : Nat} (hI : (Tryd.prog.info? E).map (fun i => (i.zero, i.size, i.bytes)) = some (some z, 1, bytes)) (hzs : z.cells.size = 1) (hby : bytes ≤ 32)
    {w : World} {ops : Array Oper} {rest : List Oper} {o : Oper} {a : Act} {Q : Exit → Act → World → Prop} (hgd : o.guard = none) (s x : Operand)
    (ho : o.op = .call { callee := .builtin .append, args := #[s, x], argTypes := #[T, T] })
    (B : Nat) (v : Value) (n : Nat) (xs : List Value) (hs : a.eval s = v) (hown : w.ownsRow B E 1 v n xs) (b : Nat) (c : Value) (hx : a.eval x = .slice (some ⟨b, 0, none⟩) 1 1)
    (hc : w.cell? ⟨b, 0, none⟩ = some c) (h1 : c.oneCell' = true) (hn : n + 1 ≤ 4398046511104) (hB : B ≤ w.heap.size)
    (h : ∀ g cap w', w'.ownsRow B E 1 (.slice (some ⟨g, 0, none⟩) (n + 1) cap) (n + 1) (xs ++ [c]) → w.grownBy w' v.ownBlock → B ≤ g → g < w'.heap.size → Hid (v.ownBlock = some g ∨ g = w.heap.size) →
      wpList Tryd.prog ops Q rest (a.put o.dst (.slice (some ⟨g, 0, none⟩) (n + 1) cap)) w') :
    wpList Tryd.prog ops Q (o :: rest) a w := by
  refine wpList_plain hgd fun K hK => ?_
  obtain ⟨g, cap, w', hr, hown', hg, hBg, hlt, hor⟩ := run_app (P := Tryd.prog) T o.type E hT hI hzs hby B v n xs hown b c hc h1 hn hB
  unfold Oper.wp execOp
  simp only [ho, resolve, invoke, builtin, Sem.run_bind, Sem.run_pure, Result.andThen_ok, List.map_toArray, List.map_cons, List.map_nil, hs, hx, hr]
  exact hK _ _ (h g cap w' hown' hg hBg hlt hor)

/-- Rows that the call owns, each in a block of its own. -/
structure Rw where
  v : Value
  E : TypeId
  n : Nat
  xs : List Value
def Rw.apart (r s : Rw) : Prop := ∀ k, r.v.ownBlock = some k → s.v.ownBlock ≠ some k
theorem Rw.apart.symm {r s : Rw} (h : r.apart s) : s.apart r := fun k hs hr => h k hr hs
def Sep (w : World) (B : Nat) (R : List Rw) : Prop := (∀ r ∈ R, w.ownsRow B r.E 1 r.v r.n r.xs) ∧ R.Pairwise Rw.apart

theorem Sep.perm {w : World} {B : Nat} {R R' : List Rw} (h : Sep w B R) (hp : R.Perm R') : Sep w B R' :=
  ⟨fun r hr => h.1 r (hp.mem_iff.2 hr), hp.pairwise h.2 (fun h => h.symm)⟩
theorem Sep.sub {w : World} {B : Nat} {R R' : List Rw} (h : Sep w B R) (hs : R'.Sublist R) : Sep w B R' := ⟨fun r hr => h.1 r (hs.subset hr), h.2.sublist hs⟩
theorem Sep.tail {w : World} {B : Nat} {r : Rw} {R : List Rw} (h : Sep w B (r :: R)) : Sep w B R := h.sub (List.sublist_cons_self _ _)
theorem Sep.head {w : World} {B : Nat} {r : Rw} {R : List Rw} (h : Sep w B (r :: R)) : w.ownsRow B r.E 1 r.v r.n r.xs := h.1 r (List.mem_cons_self ..)
theorem Sep.nil (w : World) (B : Nat) : Sep w B [] := ⟨(fun _ h => by cases h), List.Pairwise.nil⟩

/-- What lies elsewhere turns nothing. -/
theorem Sep.chg {w w' : World} {B : Nat} {R : List Rw} {S : Nat → Prop} (h : Sep w B R) (hc : Chg S w w') (hS : ∀ r ∈ R, ∀ k, r.v.ownBlock = some k → ¬ S k) : Sep w' B R :=
  ⟨fun r hr => hc.owns (h.1 r hr) (hS r hr), h.2⟩
/-- The head's row turned, in its block or in a new one. -/
theorem Sep.upd {w w' : World} {B : Nat} {r r' : Rw} {R : List Rw} (h : Sep w B (r :: R)) (hc : Chg (fun k => some k = r.v.ownBlock) w w') (ho : w'.ownsRow B r'.E 1 r'.v r'.n r'.xs)
    (hb : ∀ k, r'.v.ownBlock = some k → r.v.ownBlock = some k ∨ w.heap.size ≤ k) : Sep w' B (r' :: R) := by
  obtain ⟨h1, h2⟩ := h
  have hp := List.pairwise_cons.1 h2
  refine ⟨fun s hs => ?_, List.pairwise_cons.2 ⟨fun s hs k hk hk' => ?_, hp.2⟩⟩
  · rcases List.mem_cons.1 hs with rfl | hs
    · exact ho
    · exact hc.owns (h1 s (List.mem_cons_of_mem _ hs)) (fun k hk e => hp.1 s hs k e.symm hk)
  · rcases hb k hk with hb | hb
    · exact hp.1 s hs k hb hk'
    · have := (h1 s (List.mem_cons_of_mem _ hs)).lt k hk'
      omega
/-- A row more, in a new block. -/
theorem Sep.add {w w' : World} {B : Nat} {r' : Rw} {R : List Rw} (h : Sep w B R) (hc : Chg (fun _ => False) w w') (ho : w'.ownsRow B r'.E 1 r'.v r'.n r'.xs)
    (hb : ∀ k, r'.v.ownBlock = some k → w.heap.size ≤ k) : Sep w' B (r' :: R) := by
  refine ⟨fun s hs => ?_, List.pairwise_cons.2 ⟨fun s hs k hk hk' => ?_, h.2⟩⟩
  · rcases List.mem_cons.1 hs with rfl | hs
    · exact ho
    · exact hc.owns (h.1 s hs) (fun k _ e => e)
  · have := (h.1 s hs).lt k hk'
    have := hb k hk
    omega
end Go.Proofs.YteanpdiceaijhaaDoor
