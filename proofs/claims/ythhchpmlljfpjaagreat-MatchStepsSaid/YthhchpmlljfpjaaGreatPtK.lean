import Derived.Test.YthhchpmlljfpjaaGreatRows
import Derived.Test.YthhchpmlljfpjaaGreatShelf
import Derived.BigQuiet
import Derived.BigRegion
import Derived.Deep.CutBlock
import Derived.Deep.DeepCutAuto
import Derived.Deep.MidRow
import Derived.Deep.QuietTactic
import Derived.Deep.RegionHeld3
import Derived.Deep.RegionLaw
import Derived.Deep.RegionWith
import Derived.Deep.WholeRow
import Derived.Defers
import Derived.Handy
import Derived.Laws.BitsAllLaws
import Derived.Laws.CopyOwn
import Derived.Laws.Entries
import Derived.Laws.EntriesVeiled
import Derived.Laws.Externs
import Derived.Laws.NewBlocks
import Derived.Laws.Pointers
import Derived.Laws.ResultCell
import Derived.Laws.StructEq
import Derived.Lib.AppendStr
import Derived.Lib.Bytealg
import Derived.Lib.ConvBytes
import Derived.Lib.Hide
import Derived.Lib.ItoaNum
import Derived.Lib.OthersKept
import Derived.Lib.TrimByte
import Derived.Orders
import Derived.OrdersHeld
import Derived.Outline
import Derived.Recover
import Derived.ScopeJumps
import Derived.Shelf.RegionOpenPlain
import Derived.Shelf.Spec.BitsCarry
import Derived.StillTail
import Derived.StillTailTactics
import Derived.WalkKit
import Derived.WalkMore
import Derived.WalkSmall
namespace Go.Proofs.YthhchpmlljfpjaaGreat
open Go.RowKit


/-- The list that a slice's cells hold. -/
def Rd (k : IntKind) (w : World) (a : Option Addr) (xs : List Nat) : Prop :=
  ∀ j, j < xs.length → ∃ b off, a = some ⟨b, off, none⟩ ∧ ∀ i, i < xs.length → w.cell? ⟨b, off + i, none⟩ = some (.int k (xs.getD i 0 : Nat))

theorem Rd.get {k : IntKind} {w : World} {a : Option Addr} {xs : List Nat} (h : Rd k w a xs) (h0 : 0 < xs.length) : ∃ b off, a = some ⟨b, off, none⟩ ∧ ∀ i, i < xs.length → w.cell? ⟨b, off + i, none⟩ = some (.int k (xs.getD i 0 : Nat)) := h 0 h0

theorem Rd.mono {k : IntKind} {w w' : World} {a : Option Addr} {xs : List Nat} (h : Rd k w a xs) (hb : ∀ p v, w.cell? p = some v → w'.cell? p = some v) : Rd k w' a xs := by
  intro j hj
  obtain ⟨b, off, e, hc⟩ := h j hj
  exact ⟨b, off, e, fun i hi => hb _ _ (hc i hi)⟩

theorem below_cell {w w' : World} (hb : Below w.heap.size w w') : ∀ p v, w.cell? p = some v → w'.cell? p = some v := by
  intro p v h
  rw [hb.cell (World.block_lt_of_cell? w p h)]
  exact h

theorem Rd.below {k : IntKind} {w w' : World} {a : Option Addr} {xs : List Nat} (h : Rd k w a xs) (hb : Below w.heap.size w w') : Rd k w' a xs := h.mono (below_cell hb)

theorem bcell {W w1 : World} (hb : Below W.heap.size W w1) : (∀ b o, b < W.heap.size → w1.cell? ⟨b, o, none⟩ = W.cell? ⟨b, o, none⟩) ∧ (∀ b o, b < W.heap.size → w1.frozen? ⟨b, o, none⟩ = W.frozen? ⟨b, o, none⟩) :=
  ⟨fun b o h => hb.cell (p := ⟨b, o, none⟩) h, fun b o h => hb.frozen (p := ⟨b, o, none⟩) h⟩

theorem ret_int {k : IntKind} {a b : Int} (h : a = b) : Ending.returned (.int k a) = .returned (.int k b) := by rw [h]

theorem info8 : (Tryz.prog.info? 5).map (fun i => (i.zero, i.size, i.bytes)) = some (some (.int .u8 0), 1, 1) := by kernel_rfl
/-- What has turned lies in blocks of S, or is new. -/
structure Chg (S : Nat → Prop) (w w' : World) : Prop where
  os : w'.os = w.os
  tape : w'.tape = w.tape
  output : w'.output = w.output
  size : w.heap.size ≤ w'.heap.size
  block : ∀ k, k < w.heap.size → ¬ S k → w'.heap[k]? = w.heap[k]?

theorem Chg.refl (S : Nat → Prop) (w : World) : Chg S w w := ⟨rfl, rfl, rfl, Nat.le_refl _, fun _ _ _ => rfl⟩
theorem Chg.trans {S : Nat → Prop} {a b c : World} (h : Chg S a b) (k : Chg S b c) : Chg S a c :=
  ⟨k.os.trans h.os, k.tape.trans h.tape, k.output.trans h.output, Nat.le_trans h.size k.size, fun i hi hs => (k.block i (Nat.lt_of_lt_of_le hi h.size) hs).trans (h.block i hi hs)⟩
/-- Two steps, the second's blocks being S's or new. -/
theorem Chg.step {S T : Nat → Prop} {a b c : World} (h : Chg S a b) (k : Chg T b c) (hT : ∀ i, T i → i < a.heap.size → S i) : Chg S a c :=
  ⟨k.os.trans h.os, k.tape.trans h.tape, k.output.trans h.output, Nat.le_trans h.size k.size, fun i hi hs => (k.block i (Nat.lt_of_lt_of_le hi h.size) (fun ht => hs (hT i ht hi))).trans (h.block i hi hs)⟩
theorem Chg.mono {S T : Nat → Prop} {a b : World} (h : Chg S a b) (hS : ∀ i, S i → i < a.heap.size → T i) : Chg T a b := ⟨h.os, h.tape, h.output, h.size, fun i hi hs => h.block i hi (fun k => hs (hS i k hi))⟩
theorem Chg.of_grown {w w' : World} {row : Option Nat} (h : w.grownBy w' row) : Chg (fun k => some k = row) w w' := ⟨h.os, h.tape, h.output, h.size, fun k hk hn => h.block k hk hn⟩
theorem Chg.of_below {B : Nat} {w w' : World} (h : Below B w w') : Chg (fun k => B ≤ k) w w' := ⟨h.os, h.tape, h.output, h.size, fun k _ hn => h.block k (by omega)⟩
theorem Chg.below {S : Nat → Prop} {B : Nat} {w w' : World} (h : Chg S w w') (hB : B ≤ w.heap.size) (hS : ∀ k, S k → B ≤ k) : Below B w w' := ⟨h.os, h.tape, h.output, h.size, fun k hk => h.block k (by omega) (fun hs => by have := hS k hs; omega)⟩
theorem Chg.alloc {S : Nat → Prop} {a w : World} (h : Chg S a w) (o : Obj) : Chg S a (w.alloc o) :=
  h.trans ⟨rfl, rfl, rfl, by simp, fun k hk _ => Below.heap_alloc _ _ _ hk⟩
theorem Chg.drew {S : Nat → Prop} {a w : World} (h : Chg S a w) : Chg S a w.drew := ⟨h.os, h.tape, h.output, h.size, h.block⟩
theorem Chg.setCell {S : Nat → Prop} {a w : World} (h : Chg S a w) {p : Addr} (hp : S p.block) (u : Value) : Chg S a (w.setCell p u) :=
  h.trans ⟨rfl, rfl, rfl, by simp [World.setCell], fun k _ hn => Below.heap_setCell _ _ _ _ (fun e => hn (e ▸ hp))⟩
theorem Chg.heap {S : Nat → Prop} {w w' : World} (h : Chg S w w') {k : Nat} {o : Obj} (hk : w.heap[k]? = some o) (hn : ¬ S k) : w'.heap[k]? = some o := (h.block k (lt_of_block hk) hn).trans hk
theorem Chg.cell {S : Nat → Prop} {w w' : World} (h : Chg S w w') {p : Addr} {v : Value} (hp : w.cell? p = some v) (hn : ¬ S p.block) : w'.cell? p = some v := by
  rw [← hp]; exact World.cell?_of_block (h.block p.block (World.block_lt_of_cell? w p hp) hn)
theorem Chg.rd {S : Nat → Prop} {w w' : World} (h : Chg S w w') {k : IntKind} {a : Option Addr} {xs : List Nat} (hr : Rd k w a xs) (hn : ∀ p, a = some p → ¬ S p.block) : Rd k w' a xs := by
  intro j hj
  obtain ⟨b, off, e, hc⟩ := hr j hj
  exact ⟨b, off, e, fun i hi => h.cell (hc i hi) (hn ⟨b, off, none⟩ e)⟩
theorem Chg.owns {S : Nat → Prop} {w w' : World} (h : Chg S w w') {B E n : Nat} {v : Value} {xs : List Value} (ho : w.ownsRow B E 1 v n xs) (hn : ∀ k, v.ownBlock = some k → ¬ S k) : w'.ownsRow B E 1 v n xs := by
  refine ⟨ho.1, ?_⟩
  rcases ho.2 with h0 | ⟨g, cap, cur, rfl, hb, hg, rest⟩
  · exact .inl h0
  · exact .inr ⟨g, cap, cur, rfl, hb, h.heap hg (hn g rfl), rest⟩

/-- A smaller base. -/
theorem owns_base {w : World} {B B' E n : Nat} {v : Value} {xs : List Value} (ho : w.ownsRow B E 1 v n xs) (hB : B' ≤ B) : w.ownsRow B' E 1 v n xs := by
  refine ⟨ho.1, ?_⟩
  rcases ho.2 with h0 | ⟨g, cap, cur, rfl, hb, rest⟩
  · exact .inl h0
  · exact .inr ⟨g, cap, cur, rfl, Nat.le_trans hB hb, rest⟩

/-- One element more behind a row: the block is the row's own, or a new one. -/
theorem run_app {P : Program} {w : World} (T ty E : TypeId) (hT : P.underlying T = some (.slice E)) {z : Value} {bytes : Nat} (hI : (P.info? E).map (fun i => (i.zero, i.size, i.bytes)) = some (some z, 1, bytes)) (hzs : z.cells.size = 1) (hby : bytes ≤ 32)
    (B : Nat) (v : Value) (n : Nat) (xs : List Value) (hown : w.ownsRow B E 1 v n xs) (b : Nat) (c : Value)
    (hc : w.cell? ⟨b, 0, none⟩ = some c) (h1 : c.oneCell' = true) (hn : n + 1 ≤ 4398046511104) (hB : B ≤ w.heap.size) :
    ∃ g cap w', (Builtin.append_ #[T, T] ty #[v, .slice (some ⟨b, 0, none⟩) 1 1]).run P w = .ok (.slice (some ⟨g, 0, none⟩) (n + 1) cap) w' ∧
      w'.ownsRow B E 1 (.slice (some ⟨g, 0, none⟩) (n + 1) cap) (n + 1) (xs ++ [c]) ∧ w.grownBy w' v.ownBlock ∧ B ≤ g ∧ g < w'.heap.size ∧ (v.ownBlock = some g ∨ g = w.heap.size) := by
  obtain ⟨i, hi, hz, hsz, hb⟩ := info_parts hI
  have hnews : ∀ (j : Nat) u, [c][j]? = some u → w.cell? ((⟨b, 0, none⟩ : Addr).add j) = some u := by
    intro j u hj
    rcases j with _ | j
    · simpa [Addr.add] using (by simpa using hj : c = u) ▸ hc
    · simp at hj
  have h1' : ∀ u ∈ [c], u.oneCell' = true := by
    intro u hu
    obtain rfl : u = c := by simpa using hu
    exact h1
  have hbytes : (n + 1) * bytes ≤ 140737488355328 := Nat.le_trans (Nat.mul_le_mul hn hby) (by decide)
  obtain ⟨v', w', hr, hown', hg, _⟩ := run_append_own (P := P) w B T ty E i z 1 bytes hT hi hz hsz hb hzs (by decide) v n xs hown ⟨b, 0, none⟩ 1 1 [c] rfl hnews h1' (by simp only [maxLen]; omega) hbytes hB
  have key : ∀ g cap w1, (Builtin.append_ #[T, T] ty #[v, .slice (some ⟨b, 0, none⟩) 1 1]).run P w = .ok (.slice (some ⟨g, 0, none⟩) (n + 1) cap) w1 → (v.ownBlock = some g ∨ g = w.heap.size) →
      ∃ g cap w', (Builtin.append_ #[T, T] ty #[v, .slice (some ⟨b, 0, none⟩) 1 1]).run P w = .ok (.slice (some ⟨g, 0, none⟩) (n + 1) cap) w' ∧
      w'.ownsRow B E 1 (.slice (some ⟨g, 0, none⟩) (n + 1) cap) (n + 1) (xs ++ [c]) ∧ w.grownBy w' v.ownBlock ∧ B ≤ g ∧ g < w'.heap.size ∧ (v.ownBlock = some g ∨ g = w.heap.size) := by
    intro g cap w1 hr1 hor
    rw [hr] at hr1
    have hr2 : v' = .slice (some ⟨g, 0, none⟩) (n + 1) cap ∧ w' = w1 := by simpa using hr1
    obtain ⟨rfl, rfl⟩ := hr2
    have hl := hown'.lt g rfl
    exact ⟨g, cap, w', hr, hown', hg, hl.1, hl.2, hor⟩
  rcases hown.2 with ⟨rfl, rfl⟩ | ⟨g, cap, cur, rfl, hbg, hgg, hnc, hcm, hcs, htake⟩
  · have hr1 := run_append_nil (P := P) w T ty E i z hT hi hz ⟨b, 0, none⟩ 1 1 [c] (by simp [hsz]) hnews (by omega) (by omega) (by rw [hb]; omega)
    exact key _ _ _ hr1 (.inr rfl)
  · by_cases hroom : n + 1 ≤ cap
    · have hr1 := run_append_room (P := P) w T ty E i hT hi g n cap cur hgg ⟨b, 0, none⟩ 1 1 [c] (by simp [hsz]) hnews h1' hroom (by rw [hsz]; simp; omega)
      exact key _ _ _ hr1 (.inl rfl)
    · have hr1 := run_append_grow (P := P) w T ty E i z hT hi hz ⟨g, 0, none⟩ n cap xs (by rw [hsz]; exact hown.1) (hown.cells (g := g) rfl) ⟨b, 0, none⟩ 1 1 [c] (by simp [hsz]) hnews (by omega) (by omega) (growslice_fits (by omega) (by rw [hb]; exact hbytes))
      exact key _ _ _ hr1 (.inr rfl)

/-- One element more behind a row that the call owns, in a walk. -/
theorem wpl_app (T E : TypeId) (hT : Tryz.prog.underlying T = some (.slice E)) {z : Value} {bytes : Nat} (hI : (Tryz.prog.info? E).map (fun i => (i.zero, i.size, i.bytes)) = some (some z, 1, bytes)) (hzs : z.cells.size = 1) (hby : bytes ≤ 32)
    {w : World} {ops : Array Oper} {rest : List Oper} {o : Oper} {a : Act} {Q : Exit → Act → World → Prop} (hgd : o.guard = none) (s x : Operand)
    (ho : o.op = .call { callee := .builtin .append, args := #[s, x], argTypes := #[T, T] })
    (B : Nat) (v : Value) (n : Nat) (xs : List Value) (hs : a.eval s = v) (hown : w.ownsRow B E 1 v n xs) (b : Nat) (c : Value) (hx : a.eval x = .slice (some ⟨b, 0, none⟩) 1 1)
    (hc : w.cell? ⟨b, 0, none⟩ = some c) (h1 : c.oneCell' = true) (hn : n + 1 ≤ 4398046511104) (hB : B ≤ w.heap.size)
    (h : ∀ g cap w', w'.ownsRow B E 1 (.slice (some ⟨g, 0, none⟩) (n + 1) cap) (n + 1) (xs ++ [c]) → w.grownBy w' v.ownBlock → B ≤ g → g < w'.heap.size → Hid (v.ownBlock = some g ∨ g = w.heap.size) →
      wpList Tryz.prog ops Q rest (a.put o.dst (.slice (some ⟨g, 0, none⟩) (n + 1) cap)) w') :
    wpList Tryz.prog ops Q (o :: rest) a w := by
  refine wpList_plain hgd fun K hK => ?_
  obtain ⟨g, cap, w', hr, hown', hg, hBg, hlt, hor⟩ := run_app (P := Tryz.prog) T o.type E hT hI hzs hby B v n xs hown b c hc h1 hn hB
  unfold Oper.wp execOp
  simp only [ho, resolve, invoke, builtin, Sem.run_bind, Sem.run_pure, Result.andThen_ok, List.map_toArray, List.map_cons, List.map_nil, hs, hx, hr]
  exact hK _ _ (h g cap w' hown' hg hBg hlt hor)

/-- Rows that the call owns, each in a block of its own. -/
structure Rw where
  v : Value
  E : TypeId
  n : Nat
  xs : List Value
def Rw.apart (r s : Rw) : Prop := ∀ k, r.v.ownBlock = some k → s.v.ownBlock ≠ some k
theorem Rw.apart.symm {r s : Rw} (h : r.apart s) : s.apart r := fun k hs hr => h k hr hs
/-- The limb at a place. -/
def at0 (xs : List Nat) (i : Nat) : Nat := xs.getD i 0
theorem at0_cons_succ (x : Nat) (xs : List Nat) (i : Nat) : at0 (x :: xs) (i + 1) = at0 xs i := by simp [at0, List.getD]
theorem at0_cons_zero (x : Nat) (xs : List Nat) : at0 (x :: xs) 0 = x := rfl
theorem at0_out {xs : List Nat} {i : Nat} (h : xs.length ≤ i) : at0 xs i = 0 := by simp [at0, List.getD, List.getElem?_eq_none h]
theorem at0_getElem {xs : List Nat} {i : Nat} (h : i < xs.length) : at0 xs i = xs[i] := by simp [at0, List.getD, h]
theorem at0_append_left {xs ys : List Nat} {i : Nat} (h : i < xs.length) : at0 (xs ++ ys) i = at0 xs i := by simp [at0, List.getD, List.getElem?_append_left h]
theorem at0_append_right {xs ys : List Nat} (i : Nat) : at0 (xs ++ ys) (xs.length + i) = at0 ys i := by simp [at0, List.getD, List.getElem?_append_right]
theorem at0_take {xs : List Nat} {i n : Nat} (h : i < n) : at0 (xs.take n) i = at0 xs i := by simp [at0, List.getD, h]
theorem at0_drop {xs : List Nat} {i n : Nat} : at0 (xs.drop n) i = at0 xs (n + i) := by simp [at0, List.getD, List.getElem?_drop]
theorem take_succ_at0 {xs : List Nat} {k : Nat} (h : k < xs.length) : xs.take (k + 1) = xs.take k ++ [at0 xs k] := by
  rw [List.take_add_one, List.getElem?_eq_getElem h, at0_getElem h]; rfl
theorem Rd.cell {k : IntKind} {w : World} {b off : Nat} {xs : List Nat} (h : Rd k w (some ⟨b, off, none⟩) xs) {i : Nat} (hi : i < xs.length) : w.cell? ⟨b, off + i, none⟩ = some (.int k (at0 xs i : Nat)) := by
  obtain ⟨b', off', e, hc⟩ := h i hi
  cases e
  exact hc i hi
theorem Rd.take {k : IntKind} {w : World} {a : Option Addr} {xs : List Nat} (h : Rd k w a xs) (n : Nat) : Rd k w a (xs.take n) := by
  intro j hj
  rw [List.length_take] at hj
  obtain ⟨b, off, e, hc⟩ := h j (by omega)
  refine ⟨b, off, e, fun i hi => ?_⟩
  rw [List.length_take] at hi
  have := hc i (by omega)
  have h2 := at0_take (xs := xs) (i := i) (n := n) (by omega)
  unfold at0 at h2
  rw [h2]; exact this
def u8s (xs : List Nat) : List Value := xs.map fun (x : Nat) => Value.int .u8 x
def B8 (l : List Nat) : Prop := ∀ x ∈ l, x < 256
theorem B8.drop {l : List Nat} (h : B8 l) (n : Nat) : B8 (l.drop n) := fun y hy => h y (List.mem_of_mem_drop hy)
theorem B8.take {l : List Nat} (h : B8 l) (n : Nat) : B8 (l.take n) := fun y hy => h y (List.mem_of_mem_take hy)
theorem B8.at0 {l : List Nat} (h : B8 l) (i : Nat) : at0 l i < 256 := by
  unfold Go.Proofs.YthhchpmlljfpjaaGreat.at0 List.getD
  by_cases hi : i < l.length
  · rw [List.getElem?_eq_getElem hi]; exact h _ (List.getElem_mem hi)
  · rw [List.getElem?_eq_none (by omega)]; decide
theorem or_nat (a b : Nat) (ha : a < 18446744073709551616) (hb : b < 18446744073709551616) : bits BinOp.or IntKind.u64 (a : Int) (b : Int) = ((a ||| b : Nat) : Int) := by
  have h1 : (BitVec.ofInt 64 (a : Int)).toNat = a := by
    rw [BitVec.ofInt_natCast, BitVec.toNat_ofNat]; exact Nat.mod_eq_of_lt (by omega)
  have h2 : (BitVec.ofInt 64 (b : Int)).toNat = b := by
    rw [BitVec.ofInt_natCast, BitVec.toNat_ofNat]; exact Nat.mod_eq_of_lt (by omega)
  have hx : a ||| b < 2 ^ 64 := Nat.or_lt_two_pow (by omega) (by omega)
  show IntKind.u64.wrap ((BitVec.ofInt 64 (a : Int) ||| BitVec.ofInt 64 (b : Int)).toNat : Int) = _
  rw [BitVec.toNat_or, h1, h2, IntKind.wrap_u64]
  omega

theorem u8s_at (xs : List Nat) (i : Nat) (h : i < xs.length) : (u8s xs)[i]? = some (.int .u8 (at0 xs i : Nat)) := by simp [u8s, h, at0_getElem]
theorem Rd.alloc {k : IntKind} {w : World} {a : Option Addr} {xs : List Nat} (h : Rd k w a xs) (o : Obj) : Rd k (w.alloc o) a xs := h.below ((Below.refl _ _).alloc (Nat.le_refl _) _)


/-- A block known whole. -/
def CB (w : World) (t : TypeId) (g : Nat) (cs : List Value) : Prop := w.heap[g]? = some (.cells cs.toArray t (0, 0))
theorem CB.lt {w : World} {t : TypeId} {g : Nat} {cs : List Value} (h : CB w t g cs) : g < w.heap.size := lt_of_block h
theorem CB.cell {w : World} {t : TypeId} {g : Nat} {cs : List Value} (h : CB w t g cs) (i : Nat) : w.cell? ⟨g, i, none⟩ = cs[i]? := by unfold CB at h; simp [World.cell?, h]
theorem CB.free {w : World} {t : TypeId} {g : Nat} {cs : List Value} (h : CB w t g cs) (i : Nat) : w.frozen? ⟨g, i, none⟩ = false := by unfold CB at h; simp [World.frozen?, h]
theorem CB.set {w : World} {t : TypeId} {g : Nat} {cs : List Value} (h : CB w t g cs) (i : Nat) (u : Value) : CB (w.setCell ⟨g, i, none⟩ u) t g (cs.set i u) := by
  have h2 := heap_setCell_same w g i cs.toArray _ u h
  simpa [CB] using h2
theorem CB.chg {w w' : World} {t : TypeId} {g : Nat} {cs : List Value} {S : Nat → Prop} (h : CB w t g cs) (hc : Chg S w w') (hS : ¬ S g) : CB w' t g cs := hc.heap h hS
theorem CB.below {w w' : World} {t : TypeId} {g : Nat} {cs : List Value} (h : CB w t g cs) (hb : Below w.heap.size w w') : CB w' t g cs := by
  show _ = _; rw [hb.block _ h.lt]; exact h
theorem CB.belowB {w w' : World} {B : Nat} {t : TypeId} {g : Nat} {cs : List Value} (h : CB w t g cs) (hb : Below B w w') (hg : g < B) : CB w' t g cs := by
  show _ = _; rw [hb.block _ hg]; exact h
theorem CB.new (w : World) (t : TypeId) (cs : List Value) : CB (w.alloc (.cells cs.toArray t)) t w.heap.size cs := heap_alloc_last w _
theorem cb2 (w : World) (o : Obj) (t : TypeId) (cs : List Value) : CB ((w.alloc o).alloc (.cells cs.toArray t)) t (w.heap.size + 1) cs := by simpa using CB.new (w.alloc o) t cs
theorem cb3 (w : World) (o o2 : Obj) (t : TypeId) (cs : List Value) : CB (((w.alloc o).alloc o2).alloc (.cells cs.toArray t)) t (w.heap.size + 1 + 1) cs := by simpa using CB.new ((w.alloc o).alloc o2) t cs
theorem CB.alloc {w : World} {t : TypeId} {g : Nat} {cs : List Value} (h : CB w t g cs) (o : Obj) : CB (w.alloc o) t g cs := h.below ((Below.refl _ _).alloc (Nat.le_refl _) o)
theorem CB.other {w : World} {t : TypeId} {g : Nat} {cs : List Value} (h : CB w t g cs) (p : Addr) (hp : p.block ≠ g) (u : Value) : CB (w.setCell p u) t g cs := by
  show _ = _; rw [heap_setCell_other _ _ _ _ (fun e => hp e.symm)]; exact h
theorem CB.range {w : World} {t : TypeId} {g : Nat} {cs : List Value} (h : CB w t g cs) (o n : Nat) : w.rangeAt g o ((cs.drop o).take n) := fun j v hv => by
  rw [h.cell, ← hv, List.getElem?_take]
  split
  · rw [List.getElem?_drop]
  · rename_i hj
    rw [List.getElem?_take, if_neg hj] at hv
    cases hv
theorem CB.there {w : World} {t : TypeId} {g : Nat} {cs : List Value} (h : CB w t g cs) (o n : Nat) (hn : o + n ≤ cs.length) : w.there g o n := fun j hj =>
  ⟨by rw [h.cell, List.getElem?_eq_getElem (by omega)]; rfl, h.free _⟩
theorem CB.setCells {t : TypeId} {g : Nat} : ∀ (vs : List Value) {w : World} {cs : List Value} (_h : CB w t g cs) (o : Nat) (_hn : o + vs.length ≤ cs.length), CB (w.setCells g o vs) t g (splice cs o vs)
  | [], w, cs, h, o, _ => by simpa [World.setCells, splice] using h
  | v :: r, w, cs, h, o, hn => by
    simp at hn
    have ih := CB.setCells r (h.set o v) (o + 1) (by simp; omega)
    have e : splice (cs.set o v) (o + 1) r = splice cs o (v :: r) := by
      unfold splice
      rw [List.take_add_one, List.take_set_of_le (Nat.le_refl _), List.getElem?_set_self (by omega), List.drop_set_of_lt (by omega)]
      simp [show o + 1 + r.length = o + (r.length + 1) by omega]
    rw [← e]; exact ih
theorem Chg.setCells {S : Nat → Prop} {g : Nat} (hS : S g) : ∀ (vs : List Value) {a w : World} (_h : Chg S a w) (o : Nat), Chg S a (w.setCells g o vs)
  | [], _, _, h, _ => h
  | v :: r, _, _, h, o => Chg.setCells hS r (h.setCell (p := ⟨g, o, none⟩) hS v) (o + 1)

theorem setCells_size (g : Nat) : ∀ (vs : List Value) (w : World) (o : Nat), (w.setCells g o vs).heap.size = w.heap.size
  | [], _, _ => rfl
  | v :: r, w, o => by rw [World.setCells, setCells_size g r]; simp [World.setCell]

section laws
variable {P : Program}
theorem res_cell_one {fn : Func} {p : Tmp} {ty : TypeId} (h : fn.results = #[.cell p ty]) (tmps : Array Value) (w : World) :
    (results fn tmps).run P w = ((asAddr (tmps.getD p undef)).run P w).andThen fun a w₁ => (loadVar ty a).run P w₁ := by
  simp only [results, h]
  simp [Sem.run_bind, Result.andThen]
/-- A whole row out of a block. -/
theorem wp_loadc {op : Oper} {a : Act} {w : World} {K : Act → World → Prop} {Q : Exit → Act → World → Prop} (ty : TypeId) (x : Operand) (ho : op.op = .load ty x)
    (g o n : Nat) (hx : a.eval x = .pointer (some ⟨g, o, none⟩)) {t : TypeId} {cur : List Value} (hc : CB w t g cur) (d : TypeDesc) (hu : P.underlying ty = some d) (hd : d.isRow = true)
    (hi : (P.info? ty).map (·.size) = some n) (hfit : o + n ≤ cur.length) (xs : List Value) (hxs : (cur.drop o).take n = xs)
    (h : K (a.put op.dst (.agg xs.toArray)) w) : op.wp P a w K Q := by
  subst hxs
  exact wp_load_mid ty x ho g o hx _ d (hc.range o n) hu hd (by rw [hi]; simp; omega) h
/-- A whole row into a block. -/
theorem wp_storec {op : Oper} {a : Act} {w : World} {K : Act → World → Prop} {Q : Exit → Act → World → Prop} (ty : TypeId) (x y : Operand) (ho : op.op = .store ty x y)
    (g o n : Nat) (hx : a.eval x = .pointer (some ⟨g, o, none⟩)) (xs : List Value) (hy : a.eval y = .agg xs.toArray) (hn : xs.length = n) {t : TypeId} {cur : List Value} (hc : CB w t g cur)
    (hi : (P.info? ty).map (·.size) = some n) (hfit : o + n ≤ cur.length) (h1 : ∀ v ∈ xs, v.oneCell' = true)
    (h : ∀ w', CB w' t g (splice cur o xs) → Chg (fun k => k = g) w w' → w'.heap.size = w.heap.size → K (a.put op.dst undef) w') : op.wp P a w K Q := by
  subst hn
  refine wp_store_mid ty x y ho g o xs.toArray hx hy (by simpa using hc.there o xs.length hfit) (by simpa using hi) (all_oneCell_toArray h1) ?_
  exact h _ (hc.setCells xs o hfit) (Chg.setCells (S := fun k => k = g) rfl xs (Chg.refl _ w) o) (setCells_size g xs w o)
/-- A result that lies in a block. -/
theorem ret_row {fn : Func} {p : Tmp} {ty : TypeId} (h : fn.results = #[.cell p ty]) {tmps : Array Value} {w : World} {g : Nat} {t : TypeId} {cs : List Value}
    (hp : tmps.getD p undef = .pointer (some ⟨g, 0, none⟩)) (hc : CB w t g cs) (d : TypeDesc) (hu : P.underlying ty = some d) (hd : d.isRow = true) (hi : (P.info? ty).map (·.size) = some cs.length) :
    (results fn tmps).run P w = .ok (.agg cs.toArray) w := by
  have hr : w.rangeAt g 0 cs := by have := hc.range 0 cs.length; simpa using this
  rw [res_cell_one h, hp]
  simp [asAddr, Result.andThen, run_loadVar_mid w g 0 ty cs d hr hu hd hi]
end laws

/-! A region that draws its order, by what holds of every world until its last operation. -/


theorem wrap_i64_nat (n : Nat) (h : n < 9223372036854775808) : IntKind.i64.wrap (n : Int) = (n : Int) := by
  simp [IntKind.wrap, IntKind.bits, IntKind.signed]; omega

theorem own_rd8 {w : World} {B g n c : Nat} {zs : List Nat} (h : w.ownsRow B 5 1 (.slice (some ⟨g, 0, none⟩) n c) n (u8s zs)) (o k : Nat) (hk : o + k ≤ n) : Rd .u8 w (some ⟨g, o, none⟩) ((zs.drop o).take k) := by
  have hl : zs.length = n := by have := h.1; simpa [u8s] using this
  intro j hj
  refine ⟨g, o, rfl, fun i hi => ?_⟩
  have hk2 : i < k := by simp at hi; omega
  rw [World.ownsRow.cellAt h (o + i) (by omega), u8s, List.getElem?_map, List.getElem?_eq_getElem (by omega)]
  simp [List.getD, List.getElem?_drop, hk2, show o + i < zs.length by omega]
theorem own_rdw {w : World} {B g n c : Nat} {zs : List Nat} (h : w.ownsRow B 5 1 (.slice (some ⟨g, 0, none⟩) n c) n (u8s zs)) : Rd .u8 w (some ⟨g, 0, none⟩) zs := by
  have hl : zs.length = n := by have := h.1; simpa [u8s] using this
  have := own_rd8 h 0 n (by omega)
  rwa [List.drop_zero, List.take_of_length_le (by omega)] at this

/-! What the packages from coding on share. -/
theorem nat_joinB (k a b : Nat) (hb : b < 2 ^ k) : (a * 2 ^ k) ||| b = a * 2 ^ k + b := by
  rw [Nat.mul_comm, Nat.two_pow_add_eq_or_of_lt hb]
theorem u8s_one8 (l : List Nat) : ∀ v ∈ u8s l, v.oneCell' = true := by
  intro v hv
  obtain ⟨x, _, rfl⟩ := List.mem_map.1 hv
  rfl
theorem wrap_u8_in (d : Nat) (h : d < 256) : IntKind.u8.wrap (d : Int) = (d : Int) := by
  rw [show IntKind.u8.wrap (d : Int) = (d : Int) % 256 from by simp [IntKind.wrap, IntKind.signed, IntKind.bits]]
  omega
theorem own8_open {w : World} {B : Nat} {v : Value} {zs : List Nat} (h : w.ownsRow B 5 1 v zs.length (u8s zs)) : ∃ a c, v = .slice a zs.length c ∧ zs.length ≤ c ∧ Rd .u8 w a zs ∧ (a = none → c = 0) ∧ c ≤ 9223372036854775807 := by
  rcases h.2 with ⟨hv, h0⟩ | ⟨g, c, cur, hv, _, _, hn, hm, _, _⟩
  · subst hv
    refine ⟨none, 0, by rw [h0], by omega, fun j hj => by omega, fun _ => rfl, by decide⟩
  · subst hv
    exact ⟨_, c, rfl, hn, own_rdw h, (fun h => by cases h), hm⟩
theorem cell_alloc {w : World} {g : Nat} {cs : Array Value} {T : TypeId} {i : Nat} (h : w.heap[g]? = some (.cells cs T (0, 0))) : w.cell? ⟨g, i, none⟩ = cs[i]? := by simp [World.cell?, h]
theorem frozen_alloc {w : World} {g : Nat} {cs : Array Value} {T : TypeId} {i : Nat} (h : w.heap[g]? = some (.cells cs T (0, 0))) : w.frozen? ⟨g, i, none⟩ = false := by simp [World.frozen?, h]
theorem wpAnyH_op {P : Program} {ops : Array Oper} {Q : Exit → Act → World → Prop} {md : Region.Mode} {S : World → Prop} {i : Nat} {o : Oper} {fuel : Nat} {listed : Array Bool} {a : Act} {w : World} (hr : Region.ready md ops listed = [i]) (hi : ops[i]? = some o) (hw : Region.wanted o (yielded ops a.tmps) = true)
    (h : ∀ K : Act → World → Prop, (∀ a' w', S w' → wpAnyH P md ops Q S fuel (listed.setIfInBounds i true) a' w' → K a' w') → o.wp P a w K Q) : wpAnyH P md ops Q S (fuel + 1) listed a w := by
  refine ⟨fun h0 => (by rw [hr] at h0; cases h0), fun j hj => ?_⟩
  rw [hr] at hj
  obtain rfl := List.mem_singleton.1 hj
  unfold wpOp
  simp only [hi, hw, if_true]
  exact .inl (h _ fun a' w' h1 h2 => ⟨h1, h2⟩)

theorem B8.append {xs ys : List Nat} (h : B8 xs) (k : B8 ys) : B8 (xs ++ ys) := fun y hy => by
  rcases List.mem_append.1 hy with h1 | h1
  · exact h y h1
  · exact k y h1

/-- A text of bytes that are numbers. -/
def strN (l : List Nat) : ByteArray := ⟨(l.map UInt8.ofNat).toArray⟩
theorem strN_size (l : List Nat) : (strN l).size = l.length := by
  show ((l.map UInt8.ofNat).toArray).size = _
  simp
/-- The numbers of a text. -/
def bsN (s : ByteArray) : List Nat := s.data.toList.map UInt8.toNat
theorem bsN_len (s : ByteArray) : (bsN s).length = s.size := by
  show _ = s.data.size
  simp [bsN]
theorem bsN_8 (s : ByteArray) : B8 (bsN s) := fun x hx => by
  obtain ⟨c, _, rfl⟩ := List.mem_map.1 hx
  exact c.toNat_lt
theorem bsN_strN {l : List Nat} (h : B8 l) : bsN (strN l) = l := by
  unfold bsN strN
  rw [List.map_map]
  refine (List.map_congr_left fun x hx => ?_).trans (List.map_id l)
  have := h x hx
  show (UInt8.ofNat x).toNat = x
  rw [UInt8.toNat_ofNat', Nat.mod_eq_of_lt this]
theorem strN_bsN (s : ByteArray) : strN (bsN s) = s := by
  obtain ⟨⟨l⟩⟩ := s
  unfold strN bsN
  rw [List.map_map]
  have e : l.map (UInt8.ofNat ∘ UInt8.toNat) = l := (List.map_congr_left fun c _ => (by show UInt8.ofNat c.toNat = c; exact UInt8.ofNat_toNat)).trans (List.map_id l)
  rw [e]
theorem bsN_at (s : ByteArray) (i : Nat) (h : i < s.size) : at0 (bsN s) i = (s[i]'h).toNat := by
  rw [at0_getElem (by rw [bsN_len]; exact h)]
  simp only [bsN, List.getElem_map]
  rfl

theorem idx_str {P : Program} (T : TypeId) (hT : P.underlying T = some .string) (s : ByteArray) (k c : Nat) (h : k < s.size) (hc : at0 (bsN s) k = c) (W : World) : (Instr.index T (.string s) (.int .i64 (k : Int))).run P W = .ok (.int .u8 (c : Nat)) W := by
  rw [run_index_string _ _ _ _ _ hT, dif_pos ⟨by omega, by omega⟩, ← hc, bsN_at s k h]
  rfl

theorem CB.range0 {w : World} {t : TypeId} {g : Nat} {cs : List Value} (h : CB w t g cs) : w.rangeAt g 0 cs := by have := h.range 0 cs.length; simpa using this

/-! Names: where a text's signs stand, by the library's words. -/
theorem bsN_extract (s : ByteArray) (a b : Nat) : bsN (s.extract a b) = ((bsN s).drop a).take (b - a) := by
  unfold bsN
  rw [ByteArray.data_extract, Array.toList_extract]
  simp [List.map_take, List.map_drop, List.extract]
theorem bsN_app2 (s t : ByteArray) : bsN (s ++ t) = bsN s ++ bsN t := by
  unfold bsN
  rw [ByteArray.data_append]
  simp

/-! Small letters, in the program and in the reference. -/
/-- A text's bytes in a block of their own. -/
def BW (w : World) (g : Nat) (l : List Nat) : Prop := ∃ cur m, w.heap[g]? = some (.cells cur 5 (m, m + 1)) ∧ l.length ≤ m ∧ ∀ i, i < l.length → cur[i]? = some (.int .u8 (at0 l i : Nat))
theorem BW.cell {w : World} {g : Nat} {l : List Nat} (h : BW w g l) (i : Nat) (hi : i < l.length) : w.cell? ⟨g, i, none⟩ = some (.int .u8 (at0 l i : Nat)) := by
  obtain ⟨cur, m, hg, _, hc⟩ := h
  simp [World.cell?, hg, hc i hi]
theorem BW.free {w : World} {g : Nat} {l : List Nat} (h : BW w g l) (i : Nat) (hi : i < l.length) : w.frozen? ⟨g, i, none⟩ = false := by
  obtain ⟨cur, m, hg, hm, hc⟩ := h
  simp [World.frozen?, hg]
  omega
theorem BW.lt {w : World} {g : Nat} {l : List Nat} (h : BW w g l) : g < w.heap.size := by
  obtain ⟨cur, m, hg, _⟩ := h
  exact lt_of_block hg
theorem BW.set {w : World} {g : Nat} {l : List Nat} (h : BW w g l) (i x : Nat) (hi : i < l.length) : BW (w.setCell ⟨g, i, none⟩ (.int .u8 (x : Nat))) g (l.set i x) := by
  obtain ⟨cur, m, hg, hm, hc⟩ := h
  have hci := hc i hi
  obtain ⟨hisz, -⟩ := Array.getElem?_eq_some_iff.1 hci
  have hgs := (Array.getElem?_eq_some_iff.1 hg).1
  refine ⟨cur.set i (.int .u8 (x : Nat)), m, ?_, by simpa using hm, fun j hj => ?_⟩
  · simp only [World.setCell]
    rw [Array.getElem?_modify, if_pos rfl, hg]
    simp [Array.setIfInBounds, hisz]
  · rw [List.length_set] at hj
    by_cases he : i = j
    · subst he
      simp [at0, List.getD, hi]
    · rw [Array.getElem?_set_ne _ he, hc j hj]
      simp [at0, List.getD, he]
theorem BW.below {w w' : World} {g : Nat} {l : List Nat} (h : BW w g l) (hb : Below w.heap.size w w') : BW w' g l := by
  have hl := h.lt
  obtain ⟨cur, m, hg, hr⟩ := h
  exact ⟨cur, m, by rw [hb.block _ hl]; exact hg, hr⟩
theorem below_drw {w w' : World} (h : Below w.drew.heap.size w.drew w') : Below w.heap.size w w' := ((Below.refl _ _).drew).trans h
theorem ext_str (s : ByteArray) (a b : Nat) : s.extract a b = strN (((bsN s).drop a).take (b - a)) := by
  rw [← bsN_extract, strN_bsN]

/-! The reference's words: plain, ends. -/
theorem beq_str (s t : ByteArray) : (s.toList == t.toList) = decide (bsN s = bsN t) := by
  by_cases he : bsN s = bsN t
  · have : s = t := by rw [← strN_bsN s, he, strN_bsN]
    subst this
    simp
  · rw [decide_eq_false he, beq_eq_false_iff_ne]
    intro h
    refine he ?_
    have h1 : s.data.toList = t.data.toList := by
      rw [← ByteArray.toList_eq, ← ByteArray.toList_eq]; exact h
    unfold bsN
    rw [h1]
theorem beq_lit (s : ByteArray) (L : List UInt8) : (s.toList == L) = decide (bsN s = L.map UInt8.toNat) := by
  have h := beq_str s ⟨L.toArray⟩
  rw [ByteArray.toList_eq (bs := ⟨L.toArray⟩), show bsN ⟨L.toArray⟩ = L.map UInt8.toNat by simp [bsN]] at h
  rw [← h]

/-! The program's words: is it an algorithm, which encoding is it? -/
/-- A result that stands in a block known whole, and one beside it. -/
theorem results_cbT {fn : Func} {p q : Tmp} {T : TypeId} {fs : Array Field} (h : fn.results = #[.cell p T, .tmp q]) {tmps : Array Value} {w : World} {g : Nat} {t : TypeId} {cs : List Value} {k : Value}
    (hp : tmps.getD p undef = .pointer (some ⟨g, 0, none⟩)) (hq : tmps.getD q undef = k) (hg : CB w t g cs) (hu : Tryz.prog.underlying T = some (.struct fs)) (hi : (Tryz.prog.info? T).map (·.size) = some cs.length) :
    (results fn tmps).run Tryz.prog w = .ok (.tuple #[.agg cs.toArray, k]) w := by
  rw [results_cell_tmp h, hp, hq]
  simp [asAddr, Result.andThen, run_loadVar_row (P := Tryz.prog) w g t T cs.toArray (0, 0) (.struct fs) hg hu rfl (by rw [hi]; simp)]

/-! The program's words: a text taken apart. -/
theorem CB.five {w : World} {t : TypeId} {g : Nat} {a b c d e : Value} (h : CB w t g [a, b, c, d, e]) :
    (w.cell? ⟨g, 0, none⟩ = some a ∧ w.cell? ⟨g, 1, none⟩ = some b ∧ w.cell? ⟨g, 2, none⟩ = some c ∧ w.cell? ⟨g, 3, none⟩ = some d ∧ w.cell? ⟨g, 4, none⟩ = some e) ∧
    (w.frozen? ⟨g, 0, none⟩ = false ∧ w.frozen? ⟨g, 1, none⟩ = false ∧ w.frozen? ⟨g, 2, none⟩ = false ∧ w.frozen? ⟨g, 3, none⟩ = false ∧ w.frozen? ⟨g, 4, none⟩ = false) :=
  ⟨⟨h.cell 0, h.cell 1, h.cell 2, h.cell 3, h.cell 4⟩, h.free 0, h.free 1, h.free 2, h.free 3, h.free 4⟩
theorem CB.two {w : World} {t : TypeId} {g : Nat} {a b : Value} (h : CB w t g [a, b]) : (w.cell? ⟨g, 0, none⟩ = some a ∧ w.cell? ⟨g, 1, none⟩ = some b) ∧ w.frozen? ⟨g, 0, none⟩ = false ∧ w.frozen? ⟨g, 1, none⟩ = false :=
  ⟨⟨h.cell 0, h.cell 1⟩, h.free 0, h.free 1⟩
theorem CB.set5 {w : World} {t : TypeId} {g : Nat} {v0 v1 v2 v3 v4 : Value} (h : CB w t g [v0, v1, v2, v3, v4]) (a b c d e : Value) :
    CB (((((w.setCell ⟨g, 0, none⟩ a).setCell ⟨g, 1, none⟩ b).setCell ⟨g, 2, none⟩ c).setCell ⟨g, 3, none⟩ d).setCell ⟨g, 4, none⟩ e) t g [a, b, c, d, e] := ((((h.set 0 a).set 1 b).set 2 c).set 3 d).set 4 e

/-! The program's words: Signature. -/
theorem strN_app (a b : List Nat) : strN a ++ strN b = strN (a ++ b) := by
  apply ByteArray.ext
  rw [ByteArray.data_append]
  simp [strN]

/-! The program's words: whose key it is. -/
theorem CB.set2 {w : World} {t : TypeId} {g : Nat} {v0 v1 : Value} (h : CB w t g [v0, v1]) (a b : Value) : CB ((w.setCell ⟨g, 0, none⟩ a).setCell ⟨g, 1, none⟩ b) t g [a, b] := (h.set 0 a).set 1 b
theorem CB.set4 {w : World} {t : TypeId} {g : Nat} {v0 v1 v2 v3 : Value} (h : CB w t g [v0, v1, v2, v3]) (a b c d : Value) :
    CB ((((w.setCell ⟨g, 0, none⟩ a).setCell ⟨g, 1, none⟩ b).setCell ⟨g, 2, none⟩ c).setCell ⟨g, 3, none⟩ d) t g [a, b, c, d] := (((h.set 0 a).set 1 b).set 2 c).set 3 d
theorem CB.four {w : World} {t : TypeId} {g : Nat} {a b c d : Value} (h : CB w t g [a, b, c, d]) :
    (w.cell? ⟨g, 0, none⟩ = some a ∧ w.cell? ⟨g, 1, none⟩ = some b ∧ w.cell? ⟨g, 2, none⟩ = some c ∧ w.cell? ⟨g, 3, none⟩ = some d) ∧
    (w.frozen? ⟨g, 0, none⟩ = false ∧ w.frozen? ⟨g, 1, none⟩ = false ∧ w.frozen? ⟨g, 2, none⟩ = false ∧ w.frozen? ⟨g, 3, none⟩ = false) :=
  ⟨⟨h.cell 0, h.cell 1, h.cell 2, h.cell 3⟩, h.free 0, h.free 1, h.free 2, h.free 3⟩
end Go.Proofs.YthhchpmlljfpjaaGreat
