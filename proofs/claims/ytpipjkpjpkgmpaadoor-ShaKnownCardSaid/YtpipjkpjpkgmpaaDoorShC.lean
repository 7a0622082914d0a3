import Derived.Test.YtpipjkpjpkgmpaaDoorShB
import Derived.Deep.WholeRow
import Derived.Deep.MidRow
import Derived.Laws.CopyOwn
import Derived.Laws.ResultCell
namespace Go.Proofs.YtpipjkpjpkgmpaaDoor
open Go.RowKit

/-- A block known whole. -/
def CB (w : World) (t : TypeId) (g : Nat) (cs : List Value) : Prop := w.heap[g]? = some (.cells cs.toArray t (0, 0))
theorem CB.lt {w : World} {t : TypeId} {g : Nat} {cs : List Value} (h : CB w t g cs) : g < w.heap.size := lt_of_block h
theorem CB.cell {w : World} {t : TypeId} {g : Nat} {cs : List Value} (h : CB w t g cs) (i : Nat) : w.cell? ⟨g, i, none⟩ = cs[i]? := by unfold CB at h; simp [World.cell?, h]
theorem CB.free {w : World} {t : TypeId} {g : Nat} {cs : List Value} (h : CB w t g cs) (i : Nat) : w.frozen? ⟨g, i, none⟩ = false := by unfold CB at h; simp [World.frozen?, h]
theorem CB.set {w : World} {t : TypeId} {g : Nat} {cs : List Value} (h : CB w t g cs) (i : Nat) (u : Value) : CB (w.setCell ⟨g, i, none⟩ u) t g (cs.set i u) := by
  have h2 := heap_setCell_same w g i cs.toArray _ u h
  simpa [CB] using h2
theorem CB.chg {w w' : World} {t : TypeId} {g : Nat} {cs : List Value} {S : Nat → Prop} (h : CB w t g cs) (hc : Chg S w w') (hS : ¬ S g) : CB w' t g cs := hc.heap h hS
theorem CB.below {w w' : World} {t : TypeId} {g : Nat} {cs : List Value} (h : CB w t g cs) (hb : Below w.heap.size w w') : CB w' t g cs := by
  show _ = _; rw [hb.block _ h.lt]; exact h
theorem CB.belowB {w w' : World} {B : Nat} {t : TypeId} {g : Nat} {cs : List Value} (h : CB w t g cs) (hb : Below B w w') (hg : g < B) : CB w' t g cs := by
  show _ = _; rw [hb.block _ hg]; exact h
theorem CB.new (w : World) (t : TypeId) (cs : List Value) : CB (w.alloc (.cells cs.toArray t)) t w.heap.size cs := heap_alloc_last w _
theorem cb2 (w : World) (o : Obj) (t : TypeId) (cs : List Value) : CB ((w.alloc o).alloc (.cells cs.toArray t)) t (w.heap.size + 1) cs := by simpa using CB.new (w.alloc o) t cs
theorem cb3 (w : World) (o o2 : Obj) (t : TypeId) (cs : List Value) : CB (((w.alloc o).alloc o2).alloc (.cells cs.toArray t)) t (w.heap.size + 1 + 1) cs := by simpa using CB.new ((w.alloc o).alloc o2) t cs
theorem bl2 (w : World) (o o2 : Obj) : Below w.heap.size w ((w.alloc o).alloc o2) := ((Below.refl _ _).alloc (Nat.le_refl _) _).alloc (by simp) _
theorem bl3 (w : World) (o o2 o3 : Obj) : Below w.heap.size w (((w.alloc o).alloc o2).alloc o3) := (((Below.refl _ _).alloc (Nat.le_refl _) _).alloc (by simp) _).alloc (by simp; omega) _
theorem CB.alloc {w : World} {t : TypeId} {g : Nat} {cs : List Value} (h : CB w t g cs) (o : Obj) : CB (w.alloc o) t g cs := h.below ((Below.refl _ _).alloc (Nat.le_refl _) o)
theorem CB.other {w : World} {t : TypeId} {g : Nat} {cs : List Value} (h : CB w t g cs) (p : Addr) (hp : p.block ≠ g) (u : Value) : CB (w.setCell p u) t g cs := by
  show _ = _; rw [heap_setCell_other _ _ _ _ (fun e => hp e.symm)]; exact h
theorem CB.range {w : World} {t : TypeId} {g : Nat} {cs : List Value} (h : CB w t g cs) (o n : Nat) : w.rangeAt g o ((cs.drop o).take n) := fun j v hv => by
  rw [h.cell, ← hv, List.getElem?_take]
  split
  · rw [List.getElem?_drop]
  · rename_i hj
    rw [List.getElem?_take, if_neg hj] at hv
    cases hv
theorem CB.there {w : World} {t : TypeId} {g : Nat} {cs : List Value} (h : CB w t g cs) (o n : Nat) (hn : o + n ≤ cs.length) : w.there g o n := fun j hj =>
  ⟨by rw [h.cell, List.getElem?_eq_getElem (by omega)]; rfl, h.free _⟩
theorem CB.setCells {t : TypeId} {g : Nat} : ∀ (vs : List Value) {w : World} {cs : List Value} (_h : CB w t g cs) (o : Nat) (_hn : o + vs.length ≤ cs.length), CB (w.setCells g o vs) t g (splice cs o vs)
  | [], w, cs, h, o, _ => by simpa [World.setCells, splice] using h
  | v :: r, w, cs, h, o, hn => by
    simp at hn
    have ih := CB.setCells r (h.set o v) (o + 1) (by simp; omega)
    have e : splice (cs.set o v) (o + 1) r = splice cs o (v :: r) := by
      unfold splice
      rw [List.take_add_one, List.take_set_of_le (Nat.le_refl _), List.getElem?_set_self (by omega), List.drop_set_of_lt (by omega)]
      simp [show o + 1 + r.length = o + (r.length + 1) by omega]
    rw [← e]; exact ih
theorem Chg.setCells {S : Nat → Prop} {g : Nat} (hS : S g) : ∀ (vs : List Value) {a w : World} (_h : Chg S a w) (o : Nat), Chg S a (w.setCells g o vs)
  | [], _, _, h, _ => h
  | v :: r, _, _, h, o => Chg.setCells hS r (h.setCell (p := ⟨g, o, none⟩) hS v) (o + 1)

theorem setCells_size (g : Nat) : ∀ (vs : List Value) (w : World) (o : Nat), (w.setCells g o vs).heap.size = w.heap.size
  | [], _, _ => rfl
  | v :: r, w, o => by rw [World.setCells, setCells_size g r]; simp [World.setCell]

section laws
variable {P : Program}
theorem res_cell_one {fn : Func} {p : Tmp} {ty : TypeId} (h : fn.results = #[.cell p ty]) (tmps : Array Value) (w : World) :
    (results fn tmps).run P w = ((asAddr (tmps.getD p undef)).run P w).andThen fun a w₁ => (loadVar ty a).run P w₁ := by
  simp only [results, h]
  simp [Sem.run_bind, Result.andThen]
/-- A whole row out of a block. -/
theorem wp_loadc {op : Oper} {a : Act} {w : World} {K : Act → World → Prop} {Q : Exit → Act → World → Prop} (ty : TypeId) (x : Operand) (ho : op.op = .load ty x)
    (g o n : Nat) (hx : a.eval x = .pointer (some ⟨g, o, none⟩)) {t : TypeId} {cur : List Value} (hc : CB w t g cur) (d : TypeDesc) (hu : P.underlying ty = some d) (hd : d.isRow = true)
    (hi : (P.info? ty).map (·.size) = some n) (hfit : o + n ≤ cur.length) (xs : List Value) (hxs : (cur.drop o).take n = xs)
    (h : K (a.put op.dst (.agg xs.toArray)) w) : op.wp P a w K Q := by
  subst hxs
  exact wp_load_mid ty x ho g o hx _ d (hc.range o n) hu hd (by rw [hi]; simp; omega) h
/-- A whole row into a block. -/
theorem wp_storec {op : Oper} {a : Act} {w : World} {K : Act → World → Prop} {Q : Exit → Act → World → Prop} (ty : TypeId) (x y : Operand) (ho : op.op = .store ty x y)
    (g o n : Nat) (hx : a.eval x = .pointer (some ⟨g, o, none⟩)) (xs : List Value) (hy : a.eval y = .agg xs.toArray) (hn : xs.length = n) {t : TypeId} {cur : List Value} (hc : CB w t g cur)
    (hi : (P.info? ty).map (·.size) = some n) (hfit : o + n ≤ cur.length) (h1 : ∀ v ∈ xs, v.oneCell' = true)
    (h : ∀ w', CB w' t g (splice cur o xs) → Chg (fun k => k = g) w w' → w'.heap.size = w.heap.size → K (a.put op.dst undef) w') : op.wp P a w K Q := by
  subst hn
  refine wp_store_mid ty x y ho g o xs.toArray hx hy (by simpa using hc.there o xs.length hfit) (by simpa using hi) (all_oneCell_toArray h1) ?_
  exact h _ (hc.setCells xs o hfit) (Chg.setCells (S := fun k => k = g) rfl xs (Chg.refl _ w) o) (setCells_size g xs w o)
/-- A result that lies in a block. -/
theorem ret_row {fn : Func} {p : Tmp} {ty : TypeId} (h : fn.results = #[.cell p ty]) {tmps : Array Value} {w : World} {g : Nat} {t : TypeId} {cs : List Value}
    (hp : tmps.getD p undef = .pointer (some ⟨g, 0, none⟩)) (hc : CB w t g cs) (d : TypeDesc) (hu : P.underlying ty = some d) (hd : d.isRow = true) (hi : (P.info? ty).map (·.size) = some cs.length) :
    (results fn tmps).run P w = .ok (.agg cs.toArray) w := by
  have hr : w.rangeAt g 0 cs := by have := hc.range 0 cs.length; simpa using this
  rw [res_cell_one h, hp]
  simp [asAddr, Result.andThen, run_loadVar_mid w g 0 ty cs d hr hu hd hi]
end laws

theorem splice_all {cur xs : List Value} (h : xs.length = cur.length) : splice cur 0 xs = xs := by
  unfold splice; simp [h]

def i32s (l : List Int) : List Value := l.map (.int .u32)
theorem i32s_len (l : List Int) : (i32s l).length = l.length := by simp [i32s]
theorem i32s_at (l : List Int) (i : Nat) (h : i < l.length) : (i32s l)[i]? = some (.int .u32 (l.getD i 0)) := by simp [i32s, h, List.getD]
def z32 (n : Nat) : List Int := List.replicate n 0
def z8 (n : Nat) : List Nat := List.replicate n 0
theorem z32_len (n : Nat) : (z32 n).length = n := by simp [z32]
theorem z8_len (n : Nat) : (z8 n).length = n := by simp [z8]
/-- A list of numbers that is filled from its head. -/
def filled (l : List Int) (t n : Nat) : List Int := grow80 l t ++ z32 (n - t)
theorem filled_len (l : List Int) (t n : Nat) (h : t ≤ n) : (filled l t n).length = n := by simp [filled, grow80_len, z32_len]; omega
theorem filled_at (l : List Int) (t n i : Nat) (h : i < t) : (filled l t n).getD i 0 = (grow80 l t).getD i 0 := by
  unfold filled
  simp only [List.getD_eq_getElem?_getD]
  rw [List.getElem?_append_left (by rw [grow80_len]; omega)]
theorem filled_next (l : List Int) (t n : Nat) (h : t < n) (x : Int) (hx : x = if t < 16 then l.getD t 0 else laterI (grow80 l t) t) : (filled l t n).set t x = filled l (t + 1) n := by
  subst hx
  unfold filled
  rw [List.set_append_right _ _ (by rw [grow80_len]; exact Nat.le_refl _), grow80_len, Nat.sub_self, grow80, List.append_assoc]
  congr 1
  rw [z32, show n - t = (n - (t + 1)) + 1 by omega, List.replicate_succ]
  rfl
theorem filled_zero (l : List Int) (n : Nat) : filled l 0 n = z32 n := rfl
theorem filled_all (l : List Int) (n : Nat) : filled l n n = grow80 l n := by simp [filled, z32]
theorem i32s_one (l : List Int) : ∀ v ∈ i32s l, v.oneCell' = true := by
  intro v hv; obtain ⟨x, _, rfl⟩ := List.mem_map.1 hv; rfl
theorem i32s_set (l : List Int) (i : Nat) (x : Int) : (i32s l).set i (.int .u32 x) = i32s (l.set i x) := by simp [i32s, List.map_set]
theorem u8s_one (l : List Nat) : ∀ v ∈ u8s l, v.oneCell' = true := by
  intro v hv; obtain ⟨x, _, rfl⟩ := List.mem_map.1 hv; rfl
theorem cells_one (s : S5) : ∀ v ∈ s.cells, v.oneCell' = true := by
  intro v hv; simp [S5.cells] at hv; rcases hv with rfl | rfl | rfl | rfl | rfl <;> rfl

theorem cells_at (s : S5) (i : Nat) (h : i < 5) : s.cells[i]? = some (.int .u32 (s.at i)) := by
  rcases i with _ | _ | _ | _ | _ | i <;> first | rfl | omega
theorem five_set {w : World} {t : TypeId} {g : Nat} {cs : List Value} (h : CB w t g cs) (hl : cs.length = 5) (v0 v1 v2 v3 v4 : Value) :
    CB (((((w.setCell ⟨g, 0, none⟩ v0).setCell ⟨g, 1, none⟩ v1).setCell ⟨g, 2, none⟩ v2).setCell ⟨g, 3, none⟩ v3).setCell ⟨g, 4, none⟩ v4) t g [v0, v1, v2, v3, v4] := by
  have h5 := ((((h.set 0 v0).set 1 v1).set 2 v2).set 3 v3).set 4 v4
  match cs, hl with
  | [a, b, c, d, e], _ => exact h5
/-- The sums of two fives, as far as they are made. -/
def part5 (s x : S5) (i : Nat) : List Value := (plus5 s x).cells.take i ++ x.cells.drop i
theorem part5_len (s x : S5) (i : Nat) (h : i ≤ 5) : (part5 s x i).length = 5 := by simp [part5, S5.cells]; omega
theorem part5_at (s x : S5) (i : Nat) (h : i < 5) : (part5 s x i)[i]? = some (.int .u32 (x.at i)) := by
  rcases i with _ | _ | _ | _ | _ | i <;> first | rfl | omega
theorem part5_next (s x : S5) (i : Nat) (h : i < 5) : (part5 s x i).set i (.int .u32 ((x.at i + s.at i) % 4294967296)) = part5 s x (i + 1) := by
  rcases i with _ | _ | _ | _ | _ | i <;> first | omega | simp [part5, plus5, S5.cells, S5.at, IntKind.wrap_u32', Int.add_comm]
theorem info80 : (Tryd.prog.info? 72).map (fun i => (i.zero, i.size)) = some (some (.agg (i32s (z32 80)).toArray), 80) := by kernel_rfl
theorem info16 : (Tryd.prog.info? 81).map (fun i => (i.zero, i.size)) = some (some (.agg (i32s (z32 16)).toArray), 16) := by kernel_rfl
theorem info5 : (Tryd.prog.info? 55).map (fun i => (i.zero, i.size)) = some (some (.agg (i32s (z32 5)).toArray), 5) := by kernel_rfl
theorem infoF5 : (Tryd.prog.info? 56).map (fun i => (i.zero, i.size)) = some (some (.agg (i32s (z32 5)).toArray), 5) := by kernel_rfl
theorem info20 : (Tryd.prog.info? 28).map (fun i => (i.zero, i.size)) = some (some (.agg (u8s (z8 20)).toArray), 20) := by kernel_rfl
theorem infoB64 : (Tryd.prog.info? 57).map (fun i => (i.zero, i.size)) = some (some (.agg (u8s (z8 64)).toArray), 64) := by kernel_rfl
end Go.Proofs.YtpipjkpjpkgmpaaDoor
