import Derived.Test.YtaookoejdnkkoaaGreatDoorRows
import Derived.Test.YtaookoejdnkkoaaGreatDoorShelf
import Derived.BigQuiet
import Derived.Deep.CutBlock
import Derived.Deep.DeepCutAuto
import Derived.Deep.QuietTactic
import Derived.Handy
import Derived.Laws.Externs
import Derived.Lib.Hide
import Derived.Lib.ItoaNum
import Derived.Shelf.Spec.BitsCarry
import Derived.WalkKit
namespace Go.Proofs.YtaookoejdnkkoaaGreatDoor
open Go.RowKit

/-- The list that a slice's cells hold. -/
def Rd (k : IntKind) (w : World) (a : Option Addr) (xs : List Nat) : Prop :=
  ∀ j, j < xs.length → ∃ b off, a = some ⟨b, off, none⟩ ∧ ∀ i, i < xs.length → w.cell? ⟨b, off + i, none⟩ = some (.int k (xs.getD i 0 : Nat))

theorem Rd.get {k : IntKind} {w : World} {a : Option Addr} {xs : List Nat} (h : Rd k w a xs) (h0 : 0 < xs.length) : ∃ b off, a = some ⟨b, off, none⟩ ∧ ∀ i, i < xs.length → w.cell? ⟨b, off + i, none⟩ = some (.int k (xs.getD i 0 : Nat)) := h 0 h0

theorem Rd.mono {k : IntKind} {w w' : World} {a : Option Addr} {xs : List Nat} (h : Rd k w a xs) (hb : ∀ p v, w.cell? p = some v → w'.cell? p = some v) : Rd k w' a xs := by
  intro j hj
  obtain ⟨b, off, e, hc⟩ := h j hj
  exact ⟨b, off, e, fun i hi => hb _ _ (hc i hi)⟩

theorem below_cell {w w' : World} (hb : Below w.heap.size w w') : ∀ p v, w.cell? p = some v → w'.cell? p = some v := by
  intro p v h
  rw [hb.cell (World.block_lt_of_cell? w p h)]
  exact h

theorem Rd.below {k : IntKind} {w w' : World} {a : Option Addr} {xs : List Nat} (h : Rd k w a xs) (hb : Below w.heap.size w w') : Rd k w' a xs := h.mono (below_cell hb)

theorem info64 : (Tryz.prog.info? 47).map (fun i => (i.zero, i.size, i.bytes)) = some (some (.int .u64 0), 1, 8) := by kernel_rfl
theorem info8 : (Tryz.prog.info? 5).map (fun i => (i.zero, i.size, i.bytes)) = some (some (.int .u8 0), 1, 1) := by kernel_rfl
theorem infoL64 : (Tryz.prog.info? 23).map (fun i => (i.zero, i.size, i.bytes)) = some (some (.slice none 0 0), 1, 24) := by kernel_rfl
theorem infoL8 : (Tryz.prog.info? 40).map (fun i => (i.zero, i.size, i.bytes)) = some (some (.slice none 0 0), 1, 24) := by kernel_rfl


/-- What has turned lies in blocks of S, or is new. -/
structure Chg (S : Nat → Prop) (w w' : World) : Prop where
  os : w'.os = w.os
  tape : w'.tape = w.tape
  output : w'.output = w.output
  size : w.heap.size ≤ w'.heap.size
  block : ∀ k, k < w.heap.size → ¬ S k → w'.heap[k]? = w.heap[k]?

theorem Chg.refl (S : Nat → Prop) (w : World) : Chg S w w := ⟨rfl, rfl, rfl, Nat.le_refl _, fun _ _ _ => rfl⟩
theorem Chg.trans {S : Nat → Prop} {a b c : World} (h : Chg S a b) (k : Chg S b c) : Chg S a c :=
  ⟨k.os.trans h.os, k.tape.trans h.tape, k.output.trans h.output, Nat.le_trans h.size k.size, fun i hi hs => (k.block i (Nat.lt_of_lt_of_le hi h.size) hs).trans (h.block i hi hs)⟩
/-- Two steps, the second's blocks being S's or new. -/
theorem Chg.step {S T : Nat → Prop} {a b c : World} (h : Chg S a b) (k : Chg T b c) (hT : ∀ i, T i → i < a.heap.size → S i) : Chg S a c :=
  ⟨k.os.trans h.os, k.tape.trans h.tape, k.output.trans h.output, Nat.le_trans h.size k.size, fun i hi hs => (k.block i (Nat.lt_of_lt_of_le hi h.size) (fun ht => hs (hT i ht hi))).trans (h.block i hi hs)⟩
theorem Chg.mono {S T : Nat → Prop} {a b : World} (h : Chg S a b) (hS : ∀ i, S i → i < a.heap.size → T i) : Chg T a b := ⟨h.os, h.tape, h.output, h.size, fun i hi hs => h.block i hi (fun k => hs (hS i k hi))⟩
theorem Chg.of_grown {w w' : World} {row : Option Nat} (h : w.grownBy w' row) : Chg (fun k => some k = row) w w' := ⟨h.os, h.tape, h.output, h.size, fun k hk hn => h.block k hk hn⟩
theorem Chg.of_below {B : Nat} {w w' : World} (h : Below B w w') : Chg (fun k => B ≤ k) w w' := ⟨h.os, h.tape, h.output, h.size, fun k _ hn => h.block k (by omega)⟩
theorem Chg.below {S : Nat → Prop} {B : Nat} {w w' : World} (h : Chg S w w') (hB : B ≤ w.heap.size) (hS : ∀ k, S k → B ≤ k) : Below B w w' := ⟨h.os, h.tape, h.output, h.size, fun k hk => h.block k (by omega) (fun hs => by have := hS k hs; omega)⟩
theorem Chg.alloc {S : Nat → Prop} {a w : World} (h : Chg S a w) (o : Obj) : Chg S a (w.alloc o) :=
  h.trans ⟨rfl, rfl, rfl, by simp, fun k hk _ => Below.heap_alloc _ _ _ hk⟩
theorem Chg.drew {S : Nat → Prop} {a w : World} (h : Chg S a w) : Chg S a w.drew := ⟨h.os, h.tape, h.output, h.size, h.block⟩
theorem Chg.setCell {S : Nat → Prop} {a w : World} (h : Chg S a w) {p : Addr} (hp : S p.block) (u : Value) : Chg S a (w.setCell p u) :=
  h.trans ⟨rfl, rfl, rfl, by simp [World.setCell], fun k _ hn => Below.heap_setCell _ _ _ _ (fun e => hn (e ▸ hp))⟩
theorem Chg.heap {S : Nat → Prop} {w w' : World} (h : Chg S w w') {k : Nat} {o : Obj} (hk : w.heap[k]? = some o) (hn : ¬ S k) : w'.heap[k]? = some o := (h.block k (lt_of_block hk) hn).trans hk
theorem Chg.cell {S : Nat → Prop} {w w' : World} (h : Chg S w w') {p : Addr} {v : Value} (hp : w.cell? p = some v) (hn : ¬ S p.block) : w'.cell? p = some v := by
  rw [← hp]; exact World.cell?_of_block (h.block p.block (World.block_lt_of_cell? w p hp) hn)
theorem Chg.rd {S : Nat → Prop} {w w' : World} (h : Chg S w w') {k : IntKind} {a : Option Addr} {xs : List Nat} (hr : Rd k w a xs) (hn : ∀ p, a = some p → ¬ S p.block) : Rd k w' a xs := by
  intro j hj
  obtain ⟨b, off, e, hc⟩ := hr j hj
  exact ⟨b, off, e, fun i hi => h.cell (hc i hi) (hn ⟨b, off, none⟩ e)⟩
theorem Chg.owns {S : Nat → Prop} {w w' : World} (h : Chg S w w') {B E n : Nat} {v : Value} {xs : List Value} (ho : w.ownsRow B E 1 v n xs) (hn : ∀ k, v.ownBlock = some k → ¬ S k) : w'.ownsRow B E 1 v n xs := by
  refine ⟨ho.1, ?_⟩
  rcases ho.2 with h0 | ⟨g, cap, cur, rfl, hb, hg, rest⟩
  · exact .inl h0
  · exact .inr ⟨g, cap, cur, rfl, hb, h.heap hg (hn g rfl), rest⟩

/-- A smaller base. -/
theorem owns_base {w : World} {B B' E n : Nat} {v : Value} {xs : List Value} (ho : w.ownsRow B E 1 v n xs) (hB : B' ≤ B) : w.ownsRow B' E 1 v n xs := by
  refine ⟨ho.1, ?_⟩
  rcases ho.2 with h0 | ⟨g, cap, cur, rfl, hb, rest⟩
  · exact .inl h0
  · exact .inr ⟨g, cap, cur, rfl, Nat.le_trans hB hb, rest⟩

/-- One element more behind a row: the block is the row's own, or a new one. -/
theorem run_app {P : Program} {w : World} (T ty E : TypeId) (hT : P.underlying T = some (.slice E)) {z : Value} {bytes : Nat} (hI : (P.info? E).map (fun i => (i.zero, i.size, i.bytes)) = some (some z, 1, bytes)) (hzs : z.cells.size = 1) (hby : bytes ≤ 32)
    (B : Nat) (v : Value) (n : Nat) (xs : List Value) (hown : w.ownsRow B E 1 v n xs) (b : Nat) (c : Value)
    (hc : w.cell? ⟨b, 0, none⟩ = some c) (h1 : c.oneCell' = true) (hn : n + 1 ≤ 4398046511104) (hB : B ≤ w.heap.size) :
    ∃ g cap w', (Builtin.append_ #[T, T] ty #[v, .slice (some ⟨b, 0, none⟩) 1 1]).run P w = .ok (.slice (some ⟨g, 0, none⟩) (n + 1) cap) w' ∧
      w'.ownsRow B E 1 (.slice (some ⟨g, 0, none⟩) (n + 1) cap) (n + 1) (xs ++ [c]) ∧ w.grownBy w' v.ownBlock ∧ B ≤ g ∧ g < w'.heap.size ∧ (v.ownBlock = some g ∨ g = w.heap.size) := by
  obtain ⟨i, hi, hz, hsz, hb⟩ := info_parts hI
  have hnews : ∀ (j : Nat) u, [c][j]? = some u → w.cell? ((⟨b, 0, none⟩ : Addr).add j) = some u := by
    intro j u hj
    rcases j with _ | j
    · simpa [Addr.add] using (by simpa using hj : c = u) ▸ hc
    · simp at hj
  have h1' : ∀ u ∈ [c], u.oneCell' = true := by
    intro u hu
    obtain rfl : u = c := by simpa using hu
    exact h1
  have hbytes : (n + 1) * bytes ≤ 140737488355328 := Nat.le_trans (Nat.mul_le_mul hn hby) (by decide)
  obtain ⟨v', w', hr, hown', hg, _⟩ := run_append_own (P := P) w B T ty E i z 1 bytes hT hi hz hsz hb hzs (by decide) v n xs hown ⟨b, 0, none⟩ 1 1 [c] rfl hnews h1' (by simp only [maxLen]; omega) hbytes hB
  have key : ∀ g cap w1, (Builtin.append_ #[T, T] ty #[v, .slice (some ⟨b, 0, none⟩) 1 1]).run P w = .ok (.slice (some ⟨g, 0, none⟩) (n + 1) cap) w1 → (v.ownBlock = some g ∨ g = w.heap.size) →
      ∃ g cap w', (Builtin.append_ #[T, T] ty #[v, .slice (some ⟨b, 0, none⟩) 1 1]).run P w = .ok (.slice (some ⟨g, 0, none⟩) (n + 1) cap) w' ∧
      w'.ownsRow B E 1 (.slice (some ⟨g, 0, none⟩) (n + 1) cap) (n + 1) (xs ++ [c]) ∧ w.grownBy w' v.ownBlock ∧ B ≤ g ∧ g < w'.heap.size ∧ (v.ownBlock = some g ∨ g = w.heap.size) := by
    intro g cap w1 hr1 hor
    rw [hr] at hr1
    have hr2 : v' = .slice (some ⟨g, 0, none⟩) (n + 1) cap ∧ w' = w1 := by simpa using hr1
    obtain ⟨rfl, rfl⟩ := hr2
    have hl := hown'.lt g rfl
    exact ⟨g, cap, w', hr, hown', hg, hl.1, hl.2, hor⟩
  rcases hown.2 with ⟨rfl, rfl⟩ | ⟨g, cap, cur, rfl, hbg, hgg, hnc, hcm, hcs, htake⟩
  · have hr1 := run_append_nil (P := P) w T ty E i z hT hi hz ⟨b, 0, none⟩ 1 1 [c] (by simp [hsz]) hnews (by omega) (by omega) (by rw [hb]; omega)
    exact key _ _ _ hr1 (.inr rfl)
  · by_cases hroom : n + 1 ≤ cap
    · have hr1 := run_append_room (P := P) w T ty E i hT hi g n cap cur hgg ⟨b, 0, none⟩ 1 1 [c] (by simp [hsz]) hnews h1' hroom (by rw [hsz]; simp; omega)
      exact key _ _ _ hr1 (.inl rfl)
    · have hr1 := run_append_grow (P := P) w T ty E i z hT hi hz ⟨g, 0, none⟩ n cap xs (by rw [hsz]; exact hown.1) (hown.cells (g := g) rfl) ⟨b, 0, none⟩ 1 1 [c] (by simp [hsz]) hnews (by omega) (by omega) (growslice_fits (by omega) (by rw [hb]; exact hbytes))
      exact key _ _ _ hr1 (.inr rfl)

/-- One element more behind a row that the call owns, in a walk. -/
theorem wpl_app (T E : TypeId) (hT : Tryz.prog.underlying T = some (.slice E)) {z : Value} {bytes : Nat} (hI : (Tryz.prog.info? E).map (fun i => (i.zero, i.size, i.bytes)) = some (some z, 1, bytes)) (hzs : z.cells.size = 1) (hby : bytes ≤ 32)
    {w : World} {ops : Array Oper} {rest : List Oper} {o : Oper} {a : Act} {Q : Exit → Act → World → Prop} (hgd : o.guard = none) (s x : Operand)
    (ho : o.op = .call { callee := .builtin .append, args := #[s, x], argTypes := #[T, T] })
    (B : Nat) (v : Value) (n : Nat) (xs : List Value) (hs : a.eval s = v) (hown : w.ownsRow B E 1 v n xs) (b : Nat) (c : Value) (hx : a.eval x = .slice (some ⟨b, 0, none⟩) 1 1)
    (hc : w.cell? ⟨b, 0, none⟩ = some c) (h1 : c.oneCell' = true) (hn : n + 1 ≤ 4398046511104) (hB : B ≤ w.heap.size)
    (h : ∀ g cap w', w'.ownsRow B E 1 (.slice (some ⟨g, 0, none⟩) (n + 1) cap) (n + 1) (xs ++ [c]) → w.grownBy w' v.ownBlock → B ≤ g → g < w'.heap.size → Hid (v.ownBlock = some g ∨ g = w.heap.size) →
      wpList Tryz.prog ops Q rest (a.put o.dst (.slice (some ⟨g, 0, none⟩) (n + 1) cap)) w') :
    wpList Tryz.prog ops Q (o :: rest) a w := by
  refine wpList_plain hgd fun K hK => ?_
  obtain ⟨g, cap, w', hr, hown', hg, hBg, hlt, hor⟩ := run_app (P := Tryz.prog) T o.type E hT hI hzs hby B v n xs hown b c hc h1 hn hB
  unfold Oper.wp execOp
  simp only [ho, resolve, invoke, builtin, Sem.run_bind, Sem.run_pure, Result.andThen_ok, List.map_toArray, List.map_cons, List.map_nil, hs, hx, hr]
  exact hK _ _ (h g cap w' hown' hg hBg hlt hor)

/-- Rows that the call owns, each in a block of its own. -/
structure Rw where
  v : Value
  E : TypeId
  n : Nat
  xs : List Value
def Rw.apart (r s : Rw) : Prop := ∀ k, r.v.ownBlock = some k → s.v.ownBlock ≠ some k
theorem Rw.apart.symm {r s : Rw} (h : r.apart s) : s.apart r := fun k hs hr => h k hr hs
def Sep (w : World) (B : Nat) (R : List Rw) : Prop := (∀ r ∈ R, w.ownsRow B r.E 1 r.v r.n r.xs) ∧ R.Pairwise Rw.apart

theorem Sep.perm {w : World} {B : Nat} {R R' : List Rw} (h : Sep w B R) (hp : R.Perm R') : Sep w B R' :=
  ⟨fun r hr => h.1 r (hp.mem_iff.2 hr), hp.pairwise h.2 (fun h => h.symm)⟩
theorem Sep.sub {w : World} {B : Nat} {R R' : List Rw} (h : Sep w B R) (hs : R'.Sublist R) : Sep w B R' := ⟨fun r hr => h.1 r (hs.subset hr), h.2.sublist hs⟩
theorem Sep.tail {w : World} {B : Nat} {r : Rw} {R : List Rw} (h : Sep w B (r :: R)) : Sep w B R := h.sub (List.sublist_cons_self _ _)
theorem Sep.head {w : World} {B : Nat} {r : Rw} {R : List Rw} (h : Sep w B (r :: R)) : w.ownsRow B r.E 1 r.v r.n r.xs := h.1 r (List.mem_cons_self ..)
theorem Sep.nil (w : World) (B : Nat) : Sep w B [] := ⟨(fun _ h => by cases h), List.Pairwise.nil⟩

/-- What lies elsewhere turns nothing. -/
theorem Sep.chg {w w' : World} {B : Nat} {R : List Rw} {S : Nat → Prop} (h : Sep w B R) (hc : Chg S w w') (hS : ∀ r ∈ R, ∀ k, r.v.ownBlock = some k → ¬ S k) : Sep w' B R :=
  ⟨fun r hr => hc.owns (h.1 r hr) (hS r hr), h.2⟩
/-- A row more, in a new block. -/
theorem Sep.add {w w' : World} {B : Nat} {r' : Rw} {R : List Rw} (h : Sep w B R) (hc : Chg (fun _ => False) w w') (ho : w'.ownsRow B r'.E 1 r'.v r'.n r'.xs)
    (hb : ∀ k, r'.v.ownBlock = some k → w.heap.size ≤ k) : Sep w' B (r' :: R) := by
  refine ⟨fun s hs => ?_, List.pairwise_cons.2 ⟨fun s hs k hk hk' => ?_, h.2⟩⟩
  · rcases List.mem_cons.1 hs with rfl | hs
    · exact ho
    · exact hc.owns (h.1 s hs) (fun k _ e => e)
  · have := (h.1 s hs).lt k hk'
    have := hb k hk
    omega

/-- The number of limbs, the least one first. -/
def val : List Nat → Nat
  | [] => 0
  | x :: xs => x + 18446744073709551616 * val xs
def Bd (xs : List Nat) : Prop := ∀ x ∈ xs, x < 18446744073709551616
/-- The limb at a place. -/
def at0 (xs : List Nat) (i : Nat) : Nat := xs.getD i 0
/-- No 0 at the end. -/
def Cn (xs : List Nat) : Prop := 0 < xs.length → at0 xs (xs.length - 1) ≠ 0
/-- How many limbs count. -/
def fl : List Nat → Nat
  | [] => 0
  | x :: xs => if fl xs = 0 then (if x = 0 then 0 else 1) else fl xs + 1
def fm (xs : List Nat) : List Nat := xs.take (fl xs)

theorem Bd.tail {x : Nat} {xs : List Nat} (h : Bd (x :: xs)) : Bd xs := fun y hy => h y (List.mem_cons_of_mem _ hy)
theorem Bd.head {x : Nat} {xs : List Nat} (h : Bd (x :: xs)) : x < 18446744073709551616 := h x (List.mem_cons_self ..)
theorem Bd.cons {x : Nat} {xs : List Nat} (hx : x < 18446744073709551616) (h : Bd xs) : Bd (x :: xs) := fun y hy => by
  rcases List.mem_cons.1 hy with rfl | hy
  · exact hx
  · exact h y hy
theorem Bd.nil : Bd [] := fun _ h => by cases h
theorem Bd.append {xs ys : List Nat} (h : Bd xs) (k : Bd ys) : Bd (xs ++ ys) := fun y hy => by
  rcases List.mem_append.1 hy with hy | hy
  · exact h y hy
  · exact k y hy
theorem Bd.take {xs : List Nat} (h : Bd xs) (n : Nat) : Bd (xs.take n) := fun y hy => h y (List.mem_of_mem_take hy)
theorem Bd.drop {xs : List Nat} (h : Bd xs) (n : Nat) : Bd (xs.drop n) := fun y hy => h y (List.mem_of_mem_drop hy)
theorem Bd.at0 {xs : List Nat} (h : Bd xs) (i : Nat) : at0 xs i < 18446744073709551616 := by
  unfold Go.Proofs.YtaookoejdnkkoaaGreatDoor.at0 List.getD
  by_cases hi : i < xs.length
  · rw [List.getElem?_eq_getElem hi]; exact h _ (List.getElem_mem hi)
  · rw [List.getElem?_eq_none (by omega)]; decide
theorem val_cons (x : Nat) (xs : List Nat) : val (x :: xs) = x + 18446744073709551616 * val xs := rfl
theorem val_append (xs ys : List Nat) : val (xs ++ ys) = val xs + 18446744073709551616 ^ xs.length * val ys := by
  induction xs with
  | nil => simp [val]
  | cons x xs ih => simp only [List.cons_append, val_cons, ih, List.length_cons, Nat.pow_succ, Nat.mul_add]; rw [show 18446744073709551616 ^ xs.length * 18446744073709551616 * val ys = 18446744073709551616 * (18446744073709551616 ^ xs.length * val ys) from by rw [Nat.mul_comm (18446744073709551616 ^ xs.length), Nat.mul_assoc]]; omega
theorem val_lt {xs : List Nat} (h : Bd xs) : val xs < 18446744073709551616 ^ xs.length := by
  induction xs with
  | nil => simp [val]
  | cons x xs ih => have h1 := h.head; have h2 := ih h.tail; simp only [val_cons, List.length_cons, Nat.pow_succ]; omega
theorem val_replicate (n : Nat) : val (List.replicate n 0) = 0 := by
  induction n with
  | zero => rfl
  | succ n ih => simp [List.replicate_succ, val_cons, ih]
theorem at0_cons_succ (x : Nat) (xs : List Nat) (i : Nat) : at0 (x :: xs) (i + 1) = at0 xs i := by simp [at0, List.getD]
theorem at0_cons_zero (x : Nat) (xs : List Nat) : at0 (x :: xs) 0 = x := rfl
theorem at0_out {xs : List Nat} {i : Nat} (h : xs.length ≤ i) : at0 xs i = 0 := by simp [at0, List.getD, List.getElem?_eq_none h]
theorem at0_getElem {xs : List Nat} {i : Nat} (h : i < xs.length) : at0 xs i = xs[i] := by simp [at0, List.getD, h]
theorem at0_append_left {xs ys : List Nat} {i : Nat} (h : i < xs.length) : at0 (xs ++ ys) i = at0 xs i := by simp [at0, List.getD, List.getElem?_append_left h]
theorem at0_append_right {xs ys : List Nat} (i : Nat) : at0 (xs ++ ys) (xs.length + i) = at0 ys i := by simp [at0, List.getD, List.getElem?_append_right]
theorem at0_take {xs : List Nat} {i n : Nat} (h : i < n) : at0 (xs.take n) i = at0 xs i := by simp [at0, List.getD, h]
theorem at0_drop {xs : List Nat} {i n : Nat} : at0 (xs.drop n) i = at0 xs (n + i) := by simp [at0, List.getD, List.getElem?_drop]
theorem take_succ_at0 {xs : List Nat} {k : Nat} (h : k < xs.length) : xs.take (k + 1) = xs.take k ++ [at0 xs k] := by
  rw [List.take_add_one, List.getElem?_eq_getElem h, at0_getElem h]; rfl
theorem fl_spec (xs : List Nat) : fl xs ≤ xs.length ∧ (∀ i, fl xs ≤ i → at0 xs i = 0) ∧ (0 < fl xs → at0 xs (fl xs - 1) ≠ 0) := by
  induction xs with
  | nil => exact ⟨Nat.le_refl _, fun i _ => at0_out (Nat.zero_le _), fun h => by simp [fl] at h⟩
  | cons x xs ih =>
    obtain ⟨h1, h2, h3⟩ := ih
    unfold fl
    by_cases h0 : fl xs = 0
    · rw [if_pos h0]
      by_cases hx : x = 0
      · rw [if_pos hx]
        refine ⟨Nat.zero_le _, fun i _ => ?_, fun h => by omega⟩
        cases i with
        | zero => exact hx
        | succ i => rw [at0_cons_succ]; exact h2 i (by omega)
      · rw [if_neg hx]
        refine ⟨by simp, fun i hi => ?_, fun _ => hx⟩
        cases i with
        | zero => omega
        | succ i => rw [at0_cons_succ]; exact h2 i (by omega)
    · rw [if_neg h0]
      refine ⟨by simp; omega, fun i hi => ?_, fun _ => ?_⟩
      · cases i with
        | zero => omega
        | succ i => rw [at0_cons_succ]; exact h2 i (by omega)
      · rw [show fl xs + 1 - 1 = (fl xs - 1) + 1 by omega, at0_cons_succ]; exact h3 (by omega)
theorem fl_unique {xs : List Nat} {n : Nat} (_h1 : n ≤ xs.length) (h2 : ∀ i, n ≤ i → i < xs.length → at0 xs i = 0) (h3 : 0 < n → at0 xs (n - 1) ≠ 0) : n = fl xs := by
  obtain ⟨g1, g2, g3⟩ := fl_spec xs
  rcases Nat.lt_trichotomy n (fl xs) with h | h | h
  · exact absurd (h2 (fl xs - 1) (by omega) (by omega)) (g3 (by omega))
  · exact h
  · exact absurd (g2 (n - 1) (by omega)) (h3 (by omega))
theorem val_zeros {xs : List Nat} (h : ∀ i, i < xs.length → at0 xs i = 0) : val xs = 0 := by
  induction xs with
  | nil => rfl
  | cons x xs ih =>
    have h0 : x = 0 := by simpa [at0_cons_zero] using h 0 (by simp)
    have := ih (fun i hi => by simpa [at0_cons_succ] using h (i + 1) (by simpa using hi))
    rw [val_cons, h0, this]
theorem fm_val (xs : List Nat) : val (fm xs) = val xs := by
  have h : xs = fm xs ++ xs.drop (fl xs) := (List.take_append_drop _ _).symm
  have hz : val (xs.drop (fl xs)) = 0 := val_zeros (fun i _ => by rw [at0_drop]; exact (fl_spec xs).2.1 _ (by omega))
  rw (config := { occs := .pos [2] }) [h]
  rw [val_append, hz]; simp
theorem fm_length (xs : List Nat) : (fm xs).length = fl xs := by rw [fm, List.length_take]; have := (fl_spec xs).1; omega
theorem fm_bd {xs : List Nat} (h : Bd xs) : Bd (fm xs) := h.take _
theorem fm_cn (xs : List Nat) : Cn (fm xs) := by
  intro h
  rw [fm_length] at h ⊢
  rw [fm, at0_take (by omega)]
  exact (fl_spec xs).2.2 h
theorem fl_of_cn {xs : List Nat} (h : Cn xs) : fl xs = xs.length := (fl_unique (Nat.le_refl _) (fun i h1 h2 => by omega) h).symm
/-- A form's number tells the list. -/
theorem Cn.tail {x : Nat} {xs : List Nat} (h : Cn (x :: xs)) : Cn xs := by
  intro h0
  have := h (by simp)
  rw [List.length_cons, show xs.length + 1 - 1 = (xs.length - 1) + 1 by omega, at0_cons_succ] at this
  exact this
theorem cn_val_pos {xs : List Nat} (h : Cn xs) (h0 : 0 < xs.length) : 0 < val xs := by
  induction xs with
  | nil => simp at h0
  | cons x xs ih =>
    rw [val_cons]
    by_cases h1 : 0 < xs.length
    · have := ih h.tail h1; omega
    · have hx := h (by simp)
      have : xs = [] := List.eq_nil_of_length_eq_zero (by omega)
      subst this
      simp [at0_cons_zero] at hx
      omega
theorem form_unique {xs ys : List Nat} (hx : Bd xs) (hy : Bd ys) (cx : Cn xs) (cy : Cn ys) (h : val xs = val ys) : xs = ys := by
  induction xs generalizing ys with
  | nil =>
    cases ys with
    | nil => rfl
    | cons y ys => have := cn_val_pos cy (by simp); simp only [val] at h; simp only [val_cons] at this; omega
  | cons x xs ih =>
    cases ys with
    | nil => have := cn_val_pos cx (by simp); simp only [val] at h; simp only [val_cons] at this; omega
    | cons y ys =>
      have h1 := hx.head
      have h2 := hy.head
      simp only [val_cons] at h
      obtain rfl : x = y := by omega
      rw [ih hx.tail hy.tail cx.tail cy.tail (by omega)]
/-- The list zs is the form of the number n. -/
structure Num (zs : List Nat) (n : Nat) : Prop where
  bd : Bd zs
  cn : Cn zs
  vl : val zs = n
theorem Num.unique {xs ys : List Nat} {n : Nat} (h : Num xs n) (k : Num ys n) : xs = ys := form_unique h.bd k.bd h.cn k.cn (h.vl.trans k.vl.symm)
theorem num_fm {xs : List Nat} (h : Bd xs) : Num (fm xs) (val xs) := ⟨fm_bd h, fm_cn xs, fm_val xs⟩
theorem Num.nil : Num [] 0 := ⟨Bd.nil, fun h => by simp at h, rfl⟩
/-- Limbs and size. -/
theorem Num.len_le {zs : List Nat} {n k : Nat} (h : Num zs n) : zs.length ≤ k ↔ n < 18446744073709551616 ^ k := by
  constructor
  · intro hk
    rw [← h.vl]
    exact Nat.lt_of_lt_of_le (val_lt h.bd) (Nat.pow_le_pow_right (by decide) hk)
  · intro hn
    refine Nat.le_of_not_lt fun hk => ?_
    have hpos : 0 < zs.length := by omega
    have hs : zs = zs.take (zs.length - 1) ++ [at0 zs (zs.length - 1)] := by
      rw [← take_succ_at0 (by omega), show zs.length - 1 + 1 = zs.length by omega, List.take_length]
    have hv := h.vl
    rw [hs, val_append, List.length_take, Nat.min_eq_left (by omega)] at hv
    have hc := h.cn hpos
    have h2 : 18446744073709551616 ^ k ≤ 18446744073709551616 ^ (zs.length - 1) := Nat.pow_le_pow_right (by decide) (by omega)
    have h3 : 18446744073709551616 ^ (zs.length - 1) * 1 ≤ 18446744073709551616 ^ (zs.length - 1) * val [at0 zs (zs.length - 1)] := Nat.mul_le_mul_left _ (by simp only [val]; omega)
    omega
theorem Num.len_lt {zs : List Nat} {n k : Nat} (h : Num zs n) : k < zs.length ↔ 18446744073709551616 ^ k ≤ n := by
  have := h.len_le (k := k); omega

def u64s (xs : List Nat) : List Value := xs.map fun (x : Nat) => Value.int .u64 x
theorem u64s_len (xs : List Nat) : (u64s xs).length = xs.length := by simp [u64s]
theorem u64s_get (xs : List Nat) (i : Nat) (h : i < xs.length) : (u64s xs)[i]? = some (.int .u64 (at0 xs i : Nat)) := by simp [u64s, h, at0_getElem]
theorem u64s_append (xs ys : List Nat) : u64s (xs ++ ys) = u64s xs ++ u64s ys := by simp [u64s]
theorem u64s_set (xs : List Nat) (i x : Nat) : (u64s xs).set i (.int .u64 (x : Nat)) = u64s (xs.set i x) := by simp [u64s, List.map_set]
/-- A list of limbs in a block of the call's own. -/
def own64 (w : World) (B : Nat) (v : Value) (zs : List Nat) : Prop := w.ownsRow B 47 1 v zs.length (u64s zs)
theorem own64.rd {w : World} {B : Nat} {a : Option Addr} {n c : Nat} {zs : List Nat} (h : own64 w B (.slice a n c) zs) : n = zs.length ∧ Rd .u64 w a zs := by
  rcases h.2 with ⟨hv, h0⟩ | ⟨g, c', cur, hv, _⟩
  · cases hv; exact ⟨h0.symm, fun j hj => by omega⟩
  · cases hv
    refine ⟨rfl, fun j hj => ⟨g, 0, rfl, fun i hi => ?_⟩⟩
    have := World.ownsRow.cellAt h i (by omega)
    rw [u64s_get _ _ hi] at this
    simpa [at0] using this
theorem own64.form {w : World} {B : Nat} {v : Value} {zs : List Nat} (h : own64 w B v zs) : ∃ a c, v = .slice a zs.length c ∧ Rd .u64 w a zs := by
  rcases h.2 with ⟨rfl, h0⟩ | ⟨g, c', cur, rfl, r⟩
  · exact ⟨none, 0, by rw [h0], fun j hj => by omega⟩
  · exact ⟨_, c', rfl, (own64.rd h).2⟩
theorem Rd.cell {k : IntKind} {w : World} {b off : Nat} {xs : List Nat} (h : Rd k w (some ⟨b, off, none⟩) xs) {i : Nat} (hi : i < xs.length) : w.cell? ⟨b, off + i, none⟩ = some (.int k (at0 xs i : Nat)) := by
  obtain ⟨b', off', e, hc⟩ := h i hi
  cases e
  exact hc i hi
theorem Rd.isAt {k : IntKind} {w : World} {a : Option Addr} {xs : List Nat} (h : Rd k w a xs) (h0 : 0 < xs.length) : ∃ b off, a = some ⟨b, off, none⟩ := by
  obtain ⟨b, off, e, _⟩ := h 0 h0
  exact ⟨b, off, e⟩
theorem Rd.take {k : IntKind} {w : World} {a : Option Addr} {xs : List Nat} (h : Rd k w a xs) (n : Nat) : Rd k w a (xs.take n) := by
  intro j hj
  rw [List.length_take] at hj
  obtain ⟨b, off, e, hc⟩ := h j (by omega)
  refine ⟨b, off, e, fun i hi => ?_⟩
  rw [List.length_take] at hi
  have := hc i (by omega)
  have h2 := at0_take (xs := xs) (i := i) (n := n) (by omega)
  unfold at0 at h2
  rw [h2]; exact this
theorem Rd.nil (k : IntKind) (w : World) (a : Option Addr) : Rd k w a [] := fun j hj => by simp at hj

set_option maxHeartbeats 400000 in
theorem form_any (a : Option Addr) (len cap : Nat) (xs : List Nat) (w : World) (hl : xs.length = len) (hbig : len ≤ 1099511627776) (hcap : len ≤ cap) (hr : Rd .u64 w a xs) :
    Calls Tryz.prog 114 #[.slice a len cap] w fun e w' => (∃ a' c', e = .returned (.slice a' (fl xs) c') ∧ (0 < fl xs → a' = a ∧ c' = cap) ∧ (fl xs = 0 → a' = none ∧ c' = 0)) ∧ w = w' := by
  go_enter Tryz.func114, Tryz.ntmps114
  go_wp2
  go_loop [3] (fun v => ∃ n : Nat, n ≤ len ∧ v = .int .i64 n ∧ Hid (∀ i, n ≤ i → i < xs.length → at0 xs i = 0)) (fun v => (intOf v).toNat)
  case atStart => exact ⟨len, Nat.le_refl _, rfl, fun i h1 h2 => by omega⟩
  case round =>
    obtain ⟨n, hn, rfl, hz⟩ := hrel
    by_cases h0 : n = 0
    · subst h0
      have hf := Lib.hid (show 0 = fl xs from fl_unique (Nat.zero_le _) hz.out (fun h => by omega))
      go_wp2
      go_ret
      exact ⟨⟨none, 0, by rw [← hf.out]; rfl, fun h => by have := hf.out; omega, fun _ => ⟨rfl, rfl⟩⟩, rfl⟩
    · obtain ⟨b, off, rfl⟩ := hr.isAt (by omega)
      have hcell := hr.cell (i := n - 1) (by omega)
      obtain ⟨m, rfl⟩ : ∃ m, n = m + 1 := ⟨n - 1, by omega⟩
      rw [Nat.add_sub_cancel] at hcell
      generalize hx0 : at0 xs m = x at hcell
      have hx := Lib.hid hx0
      clear hx0 hr
      by_cases hx1 : x = 0
      · subst hx1
        go_wp2
        go_round
        case rel => exact ⟨m, by omega, by go_num, fun i h1 h2 => by rcases Nat.eq_or_lt_of_le h1 with rfl | h; exact hx.out; exact hz.out i h h2⟩
        case measure => simp [intOf]
      · have hf : m + 1 = fl xs := fl_unique (by omega) hz.out (fun _ => by rw [Nat.add_sub_cancel, hx.out]; exact hx1)
        have HF := Lib.hid hf
        clear hf
        go_wp2
        go_ret
        exact ⟨⟨_, cap, by rw [← HF.out]; rfl, fun h => ⟨rfl, rfl⟩, fun h => by have := HF.out; omega⟩, rfl⟩

/-- Many elements more behind a row: the block is the row's own, or a new one. -/
theorem run_appN {P : Program} {w : World} (T ty E : TypeId) (hT : P.underlying T = some (.slice E)) {z : Value} {bytes : Nat} (hI : (P.info? E).map (fun i => (i.zero, i.size, i.bytes)) = some (some z, 1, bytes)) (hzs : z.cells.size = 1) (hby : bytes ≤ 32)
    (B : Nat) (v : Value) (n : Nat) (xs : List Value) (hown : w.ownsRow B E 1 v n xs) (ad : Option Addr) (m c : Nat) (news : List Value) (hl : news.length = m)
    (hc : 0 < m → ∃ p, ad = some p ∧ ∀ (j : Nat) u, news[j]? = some u → w.cell? (p.add j) = some u) (h0 : m = 0 → ad = none → c = 0) (h1 : ∀ u ∈ news, u.oneCell' = true) (hn : n + m ≤ 4398046511104) (hB : B ≤ w.heap.size) :
    ∃ v' w', (Builtin.append_ #[T, T] ty #[v, .slice ad m c]).run P w = .ok v' w' ∧ w'.ownsRow B E 1 v' (n + m) (xs ++ news) ∧ w.grownBy w' v.ownBlock ∧ (∀ k, v'.ownBlock = some k → v.ownBlock = some k ∨ k = w.heap.size) ∧ (v.ownBlock = none → n + m = 0 → v' = .slice none 0 0) := by
  obtain ⟨i, hi, hz, hsz, hb⟩ := info_parts hI
  have hbytes : (n + m) * bytes ≤ 140737488355328 := Nat.le_trans (Nat.mul_le_mul hn hby) (by decide)
  cases ad with
  | none =>
    have hm : m = 0 := Nat.eq_zero_of_not_pos (fun h => by obtain ⟨p, hp, _⟩ := hc h; cases hp)
    subst hm
    obtain rfl := h0 rfl rfl
    obtain rfl : news = [] := List.eq_nil_of_length_eq_zero hl
    refine ⟨v, w, run_append_owned_none (P := P) w B T ty E i 1 hT hi v n xs hown, by simpa using hown, ⟨rfl, rfl, rfl, Nat.le_refl _, fun _ _ _ => rfl⟩, fun k hk => .inl hk, fun h1 h2 => ?_⟩
    rcases hown.2 with ⟨h, _⟩ | ⟨g, cap, cur, rfl, _⟩
    · exact h
    · cases h1
  | some p =>
    have hnews : ∀ (j : Nat) u, news[j]? = some u → w.cell? (p.add j) = some u := by
      intro j u hj
      have hlt : j < news.length := (List.getElem?_eq_some_iff.1 hj).1
      obtain ⟨p', hp', hc'⟩ := hc (by omega)
      cases hp'
      exact hc' j u hj
    obtain ⟨v', w', hr, hown', hg, hnil⟩ := run_append_own (P := P) w B T ty E i z 1 bytes hT hi hz hsz hb hzs (by decide) v n xs hown p m c news (by simpa using hl) hnews h1 (by simp only [maxLen]; omega) hbytes hB
    refine ⟨v', w', hr, hown', hg, ?_, fun h1 h2 => ?_⟩
    · have key : ∀ g cap w1, (Builtin.append_ #[T, T] ty #[v, .slice (some p) m c]).run P w = .ok (.slice (some ⟨g, 0, none⟩) (n + m) cap) w1 → (v.ownBlock = some g ∨ g = w.heap.size) →
          ∀ k, v'.ownBlock = some k → v.ownBlock = some k ∨ k = w.heap.size := by
        intro g cap w1 hr1 hor k hk
        rw [hr] at hr1
        have hr2 : v' = .slice (some ⟨g, 0, none⟩) (n + m) cap ∧ w' = w1 := by simpa using hr1
        rw [hr2.1] at hk
        obtain rfl : g = k := by simpa [Value.ownBlock] using hk
        exact hor
      rcases hown.2 with ⟨rfl, rfl⟩ | ⟨g, cap, cur, rfl, hbg, hgg, hnc, hcm, hcs, htake⟩
      · by_cases hm : m = 0
        · have := hnil.2 ⟨rfl, hm⟩
          subst this
          intro k hk; cases hk
        · have hr1 := run_append_nil (P := P) w T ty E i z hT hi hz p m c news (by rw [hsz]; simpa using hl) hnews (by omega) (by omega) (by rw [hb]; rw [Nat.zero_add] at hbytes; exact Nat.le_trans hbytes (by decide))
          exact key _ _ _ (by simpa using hr1) (.inr rfl)
      · by_cases hroom : n + m ≤ cap
        · have hr1 := run_append_room (P := P) w T ty E i hT hi g n cap cur hgg p m c news (by rw [hsz]; simpa using hl) hnews h1 hroom (by rw [hsz]; omega)
          exact key _ _ _ hr1 (.inl rfl)
        · have hr1 := run_append_grow (P := P) w T ty E i z hT hi hz ⟨g, 0, none⟩ n cap xs (by rw [hsz]; exact hown.1) (hown.cells (g := g) rfl) p m c news (by rw [hsz]; simpa using hl) hnews (by omega) (by omega) (growslice_fits (by omega) (by rw [hb]; exact hbytes))
          exact key _ _ _ hr1 (.inr rfl)
    · refine hnil.2 ⟨?_, by omega⟩
      rcases hown.2 with ⟨h, _⟩ | ⟨g, cap, cur, rfl, _⟩
      · exact h
      · cases h1

theorem wpl_appN (T E : TypeId) (hT : Tryz.prog.underlying T = some (.slice E)) {z : Value} {bytes : Nat} (hI : (Tryz.prog.info? E).map (fun i => (i.zero, i.size, i.bytes)) = some (some z, 1, bytes)) (hzs : z.cells.size = 1) (hby : bytes ≤ 32)
    {w : World} {ops : Array Oper} {rest : List Oper} {o : Oper} {a : Act} {Q : Exit → Act → World → Prop} (hgd : o.guard = none) (s x : Operand)
    (ho : o.op = .call { callee := .builtin .append, args := #[s, x], argTypes := #[T, T] })
    (B : Nat) (v : Value) (n : Nat) (xs : List Value) (hs : a.eval s = v) (hown : w.ownsRow B E 1 v n xs) (ad : Option Addr) (m c : Nat) (hx : a.eval x = .slice ad m c) (news : List Value) (hl : news.length = m)
    (hc : 0 < m → ∃ p, ad = some p ∧ ∀ (j : Nat) u, news[j]? = some u → w.cell? (p.add j) = some u) (h0 : m = 0 → ad = none → c = 0) (h1 : ∀ u ∈ news, u.oneCell' = true) (hn : n + m ≤ 4398046511104) (hB : B ≤ w.heap.size)
    (h : ∀ v' w', w'.ownsRow B E 1 v' (n + m) (xs ++ news) → w.grownBy w' v.ownBlock → Hid (∀ k, v'.ownBlock = some k → v.ownBlock = some k ∨ k = w.heap.size) → Hid (v.ownBlock = none → n + m = 0 → v' = .slice none 0 0) →
      wpList Tryz.prog ops Q rest (a.put o.dst v') w') :
    wpList Tryz.prog ops Q (o :: rest) a w := by
  refine wpList_plain hgd fun K hK => ?_
  obtain ⟨v', w', hr, hown', hg, hor, hnil⟩ := run_appN (P := Tryz.prog) T o.type E hT hI hzs hby B v n xs hown ad m c news hl hc h0 h1 hn hB
  unfold Oper.wp execOp
  simp only [ho, resolve, invoke, builtin, Sem.run_bind, Sem.run_pure, Result.andThen_ok, List.map_toArray, List.map_cons, List.map_nil, hs, hx, hr]
  exact hK _ _ (h v' w' hown' hg hor hnil)

/-- Reading a slice's cells for an append. -/
theorem Rd.news {k : IntKind} {w : World} {a : Option Addr} {xs : List Nat} (h : Rd k w a xs) : 0 < xs.length → ∃ p, a = some p ∧ ∀ (j : Nat) u, (xs.map fun (x : Nat) => Value.int k x)[j]? = some u → w.cell? (p.add j) = some u := by
  intro h0
  obtain ⟨b, off, rfl⟩ := h.isAt h0
  refine ⟨_, rfl, fun j u hj => ?_⟩
  have hlt : j < xs.length := by simpa using (List.getElem?_eq_some_iff.1 hj).1
  have := h.cell hlt
  rw [at0_getElem hlt] at this
  have e : u = .int k (xs[j] : Nat) := by simpa [hlt] using hj.symm
  subst e
  have e2 : (⟨b, off, none⟩ : Addr).add j = ⟨b, off + j, none⟩ := by unfold Addr.add; split <;> simp_all
  rw [e2]; exact this

/-- An array with a piece written over. -/
def putL (cur : Array Value) (off : Nat) (zs : List Nat) : Array Value := (cur.toList.take off ++ (u64s zs ++ cur.toList.drop (off + zs.length))).toArray
theorem putL_size {cur : Array Value} {off : Nat} {zs : List Nat} (h : off + zs.length ≤ cur.size) : (putL cur off zs).size = cur.size := by
  simp [putL, u64s]; omega
theorem putL_in {cur : Array Value} {off i : Nat} {zs : List Nat} (h : off + zs.length ≤ cur.size) (hi : i < zs.length) : (putL cur off zs)[off + i]? = some (.int .u64 (at0 zs i : Nat)) := by
  have h1 : (cur.toList.take off).length = off := by simp; omega
  simp only [putL, List.getElem?_toArray]
  rw [List.getElem?_append_right (by omega), h1, Nat.add_sub_cancel_left, List.getElem?_append_left (by rw [u64s_len]; exact hi), u64s_get _ _ hi]
theorem putL_out {cur : Array Value} {off j : Nat} {zs : List Nat} (h : off + zs.length ≤ cur.size) (hj : j < off ∨ off + zs.length ≤ j) : (putL cur off zs)[j]? = cur[j]? := by
  have h1 : (cur.toList.take off).length = off := by simp; omega
  simp only [putL, List.getElem?_toArray]
  rcases hj with hj | hj
  · rw [List.getElem?_append_left (by omega), List.getElem?_take, if_pos hj]; simp
  · rw [List.getElem?_append_right (by omega), h1, List.getElem?_append_right (by rw [u64s_len]; omega), u64s_len, List.getElem?_drop]
    simp only [Array.getElem?_toList]
    congr 1; omega
/-- A block of cells. -/
def Blk (w : World) (g : Nat) (cur : Array Value) : Prop := w.heap[g]? = some (.cells cur 47 (0, 0))
theorem Blk.cell {w : World} {g : Nat} {cur : Array Value} (h : Blk w g cur) (i : Nat) : w.cell? ⟨g, i, none⟩ = cur[i]? := by unfold Blk at h; simp [World.cell?, h]
theorem Blk.free {w : World} {g : Nat} {cur : Array Value} (h : Blk w g cur) (i : Nat) : w.frozen? ⟨g, i, none⟩ = false := by unfold Blk at h; simp [World.frozen?, h]
theorem Blk.lt {w : World} {g : Nat} {cur : Array Value} (h : Blk w g cur) : g < w.heap.size := lt_of_block h
theorem Blk.set {w : World} {g : Nat} {cur : Array Value} (h : Blk w g cur) (i : Nat) (u : Value) : Blk (w.setCell ⟨g, i, none⟩ u) g (cur.setIfInBounds i u) := heap_setCell_same w g i cur _ u h
theorem Blk.chg {w w' : World} {g : Nat} {cur : Array Value} {S : Nat → Prop} (h : Blk w g cur) (hc : Chg S w w') (hS : ¬ S g) : Blk w' g cur := hc.heap h hS
/-- A piece of it that is a list of limbs. -/
def Sg (cur : Array Value) (off : Nat) (xs : List Nat) : Prop := off + xs.length ≤ cur.size ∧ ∀ i, i < xs.length → cur[off + i]? = some (.int .u64 (at0 xs i : Nat))
theorem Sg.rd {w : World} {g off : Nat} {cur : Array Value} {xs : List Nat} (h : Sg cur off xs) (hb : Blk w g cur) : Rd .u64 w (some ⟨g, off, none⟩) xs :=
  fun _ _ => ⟨g, off, rfl, fun i hi => by rw [hb.cell]; have := h.2 i hi; unfold at0 at this; exact this⟩
/-- A row that the call owns: its block. -/
theorem own64.blk {w : World} {B : Nat} {a : Addr} {n c : Nat} {zs : List Nat} (h : own64 w B (.slice (some a) n c) zs) : ∃ g cur, a = ⟨g, 0, none⟩ ∧ n = zs.length ∧ B ≤ g ∧ Blk w g cur ∧ n ≤ c ∧ c ≤ maxLen ∧ cur.size = c ∧ Sg cur 0 zs := by
  rcases h.2 with ⟨hv, h0⟩ | ⟨g, c', cur, hv, hb, hg, hn, hm, hs, ht⟩
  · cases hv
  · cases hv
    refine ⟨g, cur, rfl, rfl, hb, hg, hn, hm, by simpa using hs, by simp at hs; omega, fun i hi => ?_⟩
    have h2 := u64s_get zs i hi
    rw [← ht, List.getElem?_take, if_pos (by omega)] at h2
    rw [Nat.zero_add]
    simpa using h2
theorem own64_of_blk {w : World} {B g c : Nat} {cur : Array Value} {zs : List Nat} (hb : Blk w g cur) (hB : B ≤ g) (hn : zs.length ≤ c) (hm : c ≤ maxLen) (hs : cur.size = c) (hz : Sg cur 0 zs) : own64 w B (.slice (some ⟨g, 0, none⟩) zs.length c) zs := by
  refine ⟨by simp [u64s], .inr ⟨g, c, cur, rfl, hB, hb, hn, hm, by simpa using hs, ?_⟩⟩
  apply List.ext_getElem?
  intro i
  rw [List.getElem?_take]
  by_cases hi : i < zs.length
  · rw [if_pos (by omega), u64s_get _ _ hi]
    have := hz.2 i hi
    rw [Nat.zero_add] at this
    simpa using this
  · rw [if_neg (by omega), List.getElem?_eq_none (by rw [u64s_len]; omega)]

set_option maxHeartbeats 400000 in
theorem one_any (a : Option Addr) (len cap : Nat) (xs : List Nat) (w : World) (hl : xs.length = len) (hbig : len ≤ 1099511627776) (hcap : len ≤ cap) (hr : Rd .u64 w a xs) :
    Calls Tryz.prog 193 #[.slice a len cap] w fun e w' =>
      ((fl xs ≤ 128 ∧ ∃ a' c', e = .returned (.tuple #[.slice a' (fl xs) c', .int .i64 0]) ∧ (0 < fl xs → a' = a ∧ c' = cap) ∧ (fl xs = 0 → a' = none ∧ c' = 0)) ∨
       (128 < fl xs ∧ e = .returned (.tuple #[.slice none 0 0, .int .i64 3]))) ∧ w = w' := by
  have hfl := (fl_spec xs).1
  by_cases h : 128 < fl xs
  all_goals
    go_enter Tryz.func193, Tryz.ntmps193
    go_wp2_with (go_at_call 114; refine (form_any _ _ _ xs _ hl hbig hcap hr).mono ?_)
    rintro e w' ⟨⟨a', c', rfl, h1, h2⟩, rfl⟩
    have H1 := Lib.hid h1
    have H2 := Lib.hid h2
    clear h1 h2
    go_wp2
    go_ret2
  · exact ⟨.inr ⟨h, rfl⟩, rfl⟩
  · exact ⟨.inl ⟨by omega, a', c', rfl, H1.out, H2.out⟩, rfl⟩

set_option maxHeartbeats 400000 in
theorem sign_any (b : Bool) (w : World) :
    Calls Tryz.prog 115 #[.bool b] w fun e w' => e = .returned (.int .i64 (if b then 1 else -1)) ∧ w' = w := by
  cases b
  all_goals
    go_enter Tryz.func115, Tryz.ntmps115
    go_wp2
    go_ret
    exact ⟨rfl, rfl⟩

def cmpI (a b : Nat) : Int := if a < b then -1 else if a = b then 0 else 1

theorem val_at (xs : List Nat) (k : Nat) (h : k < xs.length) : val xs = val (xs.take k) + 18446744073709551616 ^ k * (at0 xs k + 18446744073709551616 * val (xs.drop (k + 1))) := by
  have h1 : xs = xs.take k ++ (at0 xs k :: xs.drop (k + 1)) := by
    rw [at0_getElem h, ← List.drop_eq_getElem_cons h, List.take_append_drop]
  rw (config := { occs := .pos [1] }) [h1]
  rw [val_append, List.length_take, Nat.min_eq_left (by omega), val_cons]
theorem val_lt_of_top {xs ys : List Nat} {k : Nat} (bx : Bd xs) (hl : xs.length = ys.length) (hk : k < xs.length) (h : xs.drop (k + 1) = ys.drop (k + 1)) (hlt : at0 xs k < at0 ys k) : val xs < val ys := by
  rw [val_at xs k hk, val_at ys k (by omega), h]
  have h1 := val_lt (bx.take k)
  rw [List.length_take, Nat.min_eq_left (by omega)] at h1
  generalize val (ys.drop (k + 1)) = t
  have h2 : 18446744073709551616 ^ k * (at0 xs k + 18446744073709551616 * t + 1) ≤ 18446744073709551616 ^ k * (at0 ys k + 18446744073709551616 * t) := Nat.mul_le_mul_left _ (by omega)
  rw [Nat.mul_add] at h2
  omega
theorem drop_succ_eq {xs ys : List Nat} {k : Nat} (hl : xs.length = ys.length) (hk : k < xs.length) (h : xs.drop (k + 1) = ys.drop (k + 1)) (he : at0 xs k = at0 ys k) : xs.drop k = ys.drop k := by
  rw [List.drop_eq_getElem_cons hk, List.drop_eq_getElem_cons (show k < ys.length by omega), h, ← at0_getElem hk, ← at0_getElem (show k < ys.length by omega), he]
theorem val_lt_of_len {xs ys : List Nat} (bx : Bd xs) (cy : Cn ys) (h : xs.length < ys.length) : val xs < val ys := by
  have h1 := val_lt bx
  have hpos : 0 < ys.length := by omega
  rw [val_at ys (ys.length - 1) (by omega)]
  have hc := cy hpos
  have h2 : 18446744073709551616 ^ xs.length ≤ 18446744073709551616 ^ (ys.length - 1) := Nat.pow_le_pow_right (by decide) (by omega)
  have h3 : 18446744073709551616 ^ (ys.length - 1) * 1 ≤ 18446744073709551616 ^ (ys.length - 1) * (at0 ys (ys.length - 1) + 18446744073709551616 * val (ys.drop (ys.length - 1 + 1))) := Nat.mul_le_mul_left _ (by omega)
  omega
theorem cmpI_of_lt {a b : Nat} (h : a < b) : cmpI a b = -1 := by simp [cmpI, h]
theorem cmpI_of_gt {a b : Nat} (h : b < a) : cmpI a b = 1 := by simp [cmpI]; omega
theorem cmpI_self (a : Nat) : cmpI a a = 0 := by simp [cmpI]

def CmpPost (r : Int) (w : World) (e : Ending) (w' : World) : Prop := e = .returned (.int .i64 r) ∧ ∃ n, w' = w.drewN n

set_option maxHeartbeats 1000000 in
theorem cmp_any (a b : Option Addr) (la lb ca cb : Nat) (xs ys : List Nat) (w : World) (hla : xs.length = la) (hlb : ys.length = lb) (hba : la ≤ 1099511627776) (hbb : lb ≤ 1099511627776) (hca : la ≤ ca) (hcb : lb ≤ cb)
    (hra : Rd .u64 w a xs) (hrb : Rd .u64 w b ys) (bx : Bd xs) (bY : Bd ys) :
    Calls Tryz.prog 71 #[.slice a la ca, .slice b lb cb] w (CmpPost (cmpI (val xs) (val ys)) w) := by
  have hfa := (fl_spec xs).1
  have hfb := (fl_spec ys).1
  go_enter Tryz.func71, Tryz.ntmps71
  go_wp2_with fail
  refine (form_any _ _ _ xs _ hla hba hca hra).mono ?_
  rintro e w' ⟨⟨a1, c1, rfl, g1, g2⟩, rfl⟩
  have G1 := Lib.hid g1
  have G2 := Lib.hid g2
  clear g1 g2
  go_wp2_with fail
  refine (form_any _ _ _ ys _ hlb hbb hcb hrb).mono ?_
  rintro e w' ⟨⟨b1, d1, rfl, k1, k2⟩, rfl⟩
  have K1 := Lib.hid k1
  have K2 := Lib.hid k2
  clear k1 k2
  by_cases hne : fl xs = fl ys
  · have hne1 : ((fl xs : Int) != (fl ys : Int)) = false := by simp; omega
    have HN := Lib.hid hne
    clear hne
    go_wp2
    go_loopw [5] (fun v wr => ∃ i n : Nat, i ≤ fl xs ∧ v = .int .i64 ((i : Int) - 1) ∧ wr = w.drewN n ∧ Hid ((fm xs).drop i = (fm ys).drop i)) (fun v _ => (intOf v + 1).toNat)
    case atStart => exact ⟨fl xs, 0, Nat.le_refl _, rfl, rfl, by rw [List.drop_of_length_le (by rw [fm_length]; omega), List.drop_of_length_le (by rw [fm_length, HN.out]; omega)]; exact rfl⟩
    case round =>
      obtain ⟨i, n, hi, rfl, rfl, hd⟩ := hrel
      by_cases h0 : i = 0
      · subst h0
        have hv : Hid (cmpI (val xs) (val ys) = 0) := by
          have hd1 := hd.out
          rw [List.drop_zero, List.drop_zero] at hd1
          show cmpI (val xs) (val ys) = 0
          rw [← fm_val xs, ← fm_val ys, hd1]
          exact cmpI_self _
        go_wp2
        go_ret
        exact ⟨by rw [hv.out]; rfl, n, rfl⟩
      · obtain ⟨m, rfl⟩ : ∃ m, i = m + 1 := ⟨i - 1, by omega⟩
        obtain ⟨e1, e2⟩ := G1.out (by omega)
        obtain ⟨e3, e4⟩ := K1.out (by rw [← HN.out]; omega)
        have hN := HN.out
        obtain ⟨ba, oa, rfl⟩ := hra.isAt (by omega)
        obtain ⟨bb, ob, rfl⟩ := hrb.isAt (by omega)
        subst e1 e2 e3 e4
        have hc1 := hra.cell (i := m) (by omega)
        have hc2 := hrb.cell (i := m) (by omega)
        have hq1 := at0_take (xs := xs) (i := m) (n := fl xs) (by omega)
        have hq2 := at0_take (xs := ys) (i := m) (n := fl ys) (by omega)
        have hb1 := bx.at0 m
        have hb2 := bY.at0 m
        have hm2 : m < fl ys := by omega
        have hm3 : m < fl xs := by omega
        have HL : Hid (cmpI (val xs) (val ys) = cmpI (at0 xs m) (at0 ys m) ∨ at0 xs m = at0 ys m) := by
          have hl : (fm xs).length = (fm ys).length := by rw [fm_length, fm_length, hN]
          rcases Nat.lt_trichotomy (at0 xs m) (at0 ys m) with h | h | h
          · refine .inl ?_
            rw [cmpI_of_lt h, ← fm_val xs, ← fm_val ys]
            exact cmpI_of_lt (val_lt_of_top (fm_bd bx) hl (by rw [fm_length]; omega) hd.out (by unfold fm; omega))
          · exact .inr h
          · refine .inl ?_
            rw [cmpI_of_gt h, ← fm_val xs, ← fm_val ys]
            exact cmpI_of_gt (val_lt_of_top (fm_bd bY) hl.symm (by rw [fm_length]; omega) hd.out.symm (by unfold fm; omega))
        have HS : Hid (at0 xs m = at0 ys m → (fm xs).drop m = (fm ys).drop m) := fun h => drop_succ_eq (by rw [fm_length, fm_length, hN]) (by rw [fm_length]; omega) hd.out (by unfold fm; omega)
        have HN := Lib.hid hN
        clear hN hq1 hq2 hd hra hrb
        generalize at0 xs m = x at *
        generalize at0 ys m = y at *
        have hm1 : ((m + 1 : Nat) : Int) - 1 = (m : Int) := by omega
        rw [hm1]
        have h00 : (0 : Int) ≤ (m : Int) := by omega
        by_cases hxy : x = y
        · subst hxy
          go_wp2
          go_quiet (fail)
          go_wp2
          go_roundw
          case rel => exact ⟨m, n + nq, by omega, by go_num, rfl, HS.out trivial⟩
          case measure => simp [intOf]
        · have hq1 : ((x : Int) != (y : Int)) = true := by rw [bne_iff_ne]; omega
          have HX := Lib.hid hxy
          clear hxy
          have hv : Hid (cmpI (val xs) (val ys) = cmpI x y) := by
            rcases HL.out with h | h
            · exact h
            · exact absurd h HX.out
          by_cases hlt : x < y
          · have hq2 : decide (y < x) = false := by simp; omega
            have hv2 : Hid (cmpI x y = -1) := cmpI_of_lt hlt
            go_wp2
            go_quiet (fail)
            rw [World.drewN_drewN]
            generalize n + nq = n2
            go_wp2
            go_quiet ((go_at_call 115; exact (sign_any _ _).mono fun _ _ h => ⟨h.1, _, h.2⟩))
            go_wp2
            go_ret
            refine ⟨by rw [hv.out, hv2.out]; rfl, ?_⟩
            first | exact ⟨_, rfl⟩ | exact ⟨_, World.drewN_drewN _ _ _⟩
          · have hgt : y < x := by have := HX.out; omega
            have hq2 : decide (y < x) = true := by simp; omega
            have hv2 : Hid (cmpI x y = 1) := cmpI_of_gt hgt
            go_wp2
            go_quiet (fail)
            rw [World.drewN_drewN]
            generalize n + nq = n2
            go_wp2
            go_quiet ((go_at_call 115; exact (sign_any _ _).mono fun _ _ h => ⟨h.1, _, h.2⟩))
            go_wp2
            go_ret
            refine ⟨by rw [hv.out, hv2.out]; rfl, ?_⟩
            first | exact ⟨_, rfl⟩ | exact ⟨_, World.drewN_drewN _ _ _⟩
  · have hq : ((fl xs : Int) != (fl ys : Int)) = true := by rw [bne_iff_ne]; omega
    rcases Nat.lt_or_gt_of_ne hne with hlt | hlt
    · have hv : Hid (cmpI (val xs) (val ys) = -1) := cmpI_of_lt (by rw [← fm_val xs, ← fm_val ys]; exact val_lt_of_len (fm_bd bx) (fm_cn ys) (by rw [fm_length, fm_length]; exact hlt))
      have hq2 : decide (fl ys < fl xs) = false := by simp; omega
      clear hne
      go_wp2_with (go_at_call 115; refine (sign_any _ _).mono ?_; rintro e w' ⟨rfl, rfl⟩)
      go_ret
      exact ⟨by rw [hv.out]; rfl, 0, rfl⟩
    · have hv : Hid (cmpI (val xs) (val ys) = 1) := cmpI_of_gt (by rw [← fm_val xs, ← fm_val ys]; exact val_lt_of_len (fm_bd bY) (fm_cn xs) (by rw [fm_length, fm_length]; exact hlt))
      have hq2 : decide (fl ys < fl xs) = true := by simp; omega
      clear hne
      go_wp2_with (go_at_call 115; refine (sign_any _ _).mono ?_; rintro e w' ⟨rfl, rfl⟩)
      go_ret
      exact ⟨by rw [hv.out]; rfl, 0, rfl⟩

/-- The limbs, by what has been carried in so far. -/
theorem val_snoc (xs : List Nat) (z : Nat) : val (xs ++ [z]) = val xs + 18446744073709551616 ^ xs.length * z := by
  rw [val_append]; simp [val]

theorem take_val_snoc {xs : List Nat} {k : Nat} (h : k < xs.length) : val (xs.take (k + 1)) = val (xs.take k) + 18446744073709551616 ^ k * at0 xs k := by
  rw [take_succ_at0 h, val_snoc, List.length_take, Nat.min_eq_left (by omega)]
theorem val_take_drop (xs : List Nat) (k : Nat) (h : k ≤ xs.length) : val xs = val (xs.take k) + 18446744073709551616 ^ k * val (xs.drop k) := by
  rw (config := { occs := .pos [1] }) [← List.take_append_drop k xs]
  rw [val_append, List.length_take, Nat.min_eq_left h]
theorem Bd.snoc {zs : List Nat} {z : Nat} (h : Bd zs) (hz : z < 18446744073709551616) : Bd (zs ++ [z]) := h.append (Bd.nil.cons hz)
theorem Blk.lit {w : World} {p : Addr} {A B : Int} {g : Nat} {cur : Array Value} (h : Blk (w.setCell p (.int .u64 A)) g cur) (e : A = B) : Blk (w.setCell p (.int .u64 B)) g cur := e ▸ h

/-- One digit of a long division by two halves. -/
structure Dig (Y y1 y0 U u1 : Nat) : Prop where
  hY : Y = y1 * 4294967296 + y0
  h1 : 2147483648 ≤ y1
  h1b : y1 < 4294967296
  h0 : y0 < 4294967296
  hU : U < Y
  hu : u1 < 4294967296
namespace Dig
variable {Y y1 y0 U u1 q r : Nat}
theorem qlt (h : Dig Y y1 y0 U u1) : (U * 4294967296 + u1) / Y < 4294967296 := by
  have hY : 0 < Y := Nat.lt_of_le_of_lt (Nat.zero_le _) h.hU
  rw [Nat.div_lt_iff_lt_mul hY]
  have h1 := h.hU
  have h2 := h.hu
  have : (U + 1) * 4294967296 ≤ Y * 4294967296 := Nat.mul_le_mul_right _ h1
  omega
theorem start (h : Dig Y y1 y0 U u1) : (U * 4294967296 + u1) / Y ≤ U / y1 ∧ U / y1 ≤ 4294967297 := by
  have hy1 := h.h1
  have hu := h.hu
  have hU := h.hU
  have hY := h.hY
  have h0 := h.h0
  constructor
  · rw [Nat.le_div_iff_mul_le (by omega)]
    have hd := Nat.div_mul_le_self (U * 4294967296 + u1) Y
    generalize (U * 4294967296 + u1) / Y = q at *
    have e : q * Y = q * y1 * 4294967296 + q * y0 := by rw [hY, Nat.mul_add, Nat.mul_assoc]
    omega
  · refine Nat.le_of_lt_succ ?_
    rw [Nat.div_lt_iff_lt_mul (by omega)]
    have : (4294967297 + 1) * y1 = y1 * 4294967296 + 2 * y1 := by omega
    omega
theorem more (h : Dig Y y1 y0 U u1) (hr : U = q * y1 + r) (ht : 4294967296 ≤ q ∨ 4294967296 * r + u1 < q * y0) : (U * 4294967296 + u1) / Y < q := by
  rcases ht with ht | ht
  · exact Nat.lt_of_lt_of_le h.qlt ht
  · have hY : 0 < Y := Nat.lt_of_le_of_lt (Nat.zero_le _) h.hU
    rw [Nat.div_lt_iff_lt_mul hY]
    have e : q * Y = q * y1 * 4294967296 + q * y0 := by rw [h.hY, Nat.mul_add, Nat.mul_assoc]
    rw [e, hr]
    generalize q * y1 = t
    omega
theorem done (h : Dig Y y1 y0 U u1) (hr : U = q * y1 + r) (hq : (U * 4294967296 + u1) / Y ≤ q) (hf : q * y0 ≤ 4294967296 * r + u1) : q = (U * 4294967296 + u1) / Y := by
  have hY : 0 < Y := Nat.lt_of_le_of_lt (Nat.zero_le _) h.hU
  refine Nat.le_antisymm ?_ hq
  rw [Nat.le_div_iff_mul_le hY]
  have e : q * Y = q * y1 * 4294967296 + q * y0 := by rw [h.hY, Nat.mul_add, Nat.mul_assoc]
  rw [e, hr]
  generalize q * y1 = t
  omega
/-- What is left is below the divisor, and wraps to itself. -/
theorem rest (h : Dig Y y1 y0 U u1) (hY : Y < 18446744073709551616) (hq : q = (U * 4294967296 + u1) / Y) :
    ((((U : Int) * 4294967296 + u1) % 18446744073709551616 - ((q : Int) * Y) % 18446744073709551616) % 18446744073709551616) = (((U * 4294967296 + u1) % Y : Nat) : Int) := by
  subst hq
  have hY0 : 0 < Y := Nat.lt_of_le_of_lt (Nat.zero_le _) h.hU
  have hm := Nat.mod_lt (U * 4294967296 + u1) hY0
  have hd := Nat.div_add_mod (U * 4294967296 + u1) Y
  have e : ((((U * 4294967296 + u1) / Y : Nat) : Int) * (Y : Int)) = (((U * 4294967296 + u1) / Y * Y : Nat) : Int) := by rw [Int.natCast_mul]
  rw [e]
  rw [Nat.mul_comm Y] at hd
  generalize (U * 4294967296 + u1) / Y * Y = t at *
  generalize (U * 4294967296 + u1) % Y = m at *
  omega
end Dig

theorem and_low (a : Nat) (h : a < 18446744073709551616) : bits BinOp.and IntKind.u64 (a : Int) 4294967295 = ((a % 4294967296 : Nat) : Int) := by
  have h1 : (BitVec.ofInt 64 (a : Int)).toNat = a := by
    rw [BitVec.ofInt_natCast, BitVec.toNat_ofNat]; exact Nat.mod_eq_of_lt (by omega)
  show IntKind.u64.wrap ((BitVec.ofInt 64 (a : Int) &&& BitVec.ofInt 64 4294967295).toNat : Int) = _
  rw [BitVec.toNat_and, h1, show (BitVec.ofInt 64 4294967295).toNat = 2 ^ 32 - 1 by decide, Nat.and_two_pow_sub_one_eq_mod, IntKind.wrap_u64]
  omega
end Go.Proofs.YtaookoejdnkkoaaGreatDoor
