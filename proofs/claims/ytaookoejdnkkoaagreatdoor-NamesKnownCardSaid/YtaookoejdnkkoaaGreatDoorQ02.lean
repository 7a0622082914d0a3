import Derived.Test.YtaookoejdnkkoaaGreatDoorQGB
import Derived.BigRegion
import Derived.Deep.MidRow
import Derived.Deep.WholeRow
import Derived.Laws.BitsAllLaws
import Derived.Laws.CopyOwn
import Derived.Laws.ResultCell
import Derived.OrdersHeld
import Derived.StillTail
import Derived.Deep.RegionHeld3
import Derived.Test.YtaookoejdnkkoaaGreatDoorQBo
import Derived.Deep.RegionLaw
import Derived.Lib.OthersKept
namespace Go.Proofs.YtaookoejdnkkoaaGreatDoor
open Go.RowKit

/-! SHA-1 as both sides spell it: numbers are the model's own. -/

/-- A block known whole. -/
def CB (w : World) (t : TypeId) (g : Nat) (cs : List Value) : Prop := w.heap[g]? = some (.cells cs.toArray t (0, 0))
theorem CB.lt {w : World} {t : TypeId} {g : Nat} {cs : List Value} (h : CB w t g cs) : g < w.heap.size := lt_of_block h
theorem CB.cell {w : World} {t : TypeId} {g : Nat} {cs : List Value} (h : CB w t g cs) (i : Nat) : w.cell? ⟨g, i, none⟩ = cs[i]? := by unfold CB at h; simp [World.cell?, h]
theorem CB.free {w : World} {t : TypeId} {g : Nat} {cs : List Value} (h : CB w t g cs) (i : Nat) : w.frozen? ⟨g, i, none⟩ = false := by unfold CB at h; simp [World.frozen?, h]
theorem CB.set {w : World} {t : TypeId} {g : Nat} {cs : List Value} (h : CB w t g cs) (i : Nat) (u : Value) : CB (w.setCell ⟨g, i, none⟩ u) t g (cs.set i u) := by
  have h2 := heap_setCell_same w g i cs.toArray _ u h
  simpa [CB] using h2
theorem CB.chg {w w' : World} {t : TypeId} {g : Nat} {cs : List Value} {S : Nat → Prop} (h : CB w t g cs) (hc : Chg S w w') (hS : ¬ S g) : CB w' t g cs := hc.heap h hS
theorem CB.below {w w' : World} {t : TypeId} {g : Nat} {cs : List Value} (h : CB w t g cs) (hb : Below w.heap.size w w') : CB w' t g cs := by
  show _ = _; rw [hb.block _ h.lt]; exact h
theorem CB.new (w : World) (t : TypeId) (cs : List Value) : CB (w.alloc (.cells cs.toArray t)) t w.heap.size cs := heap_alloc_last w _
theorem cb2 (w : World) (o : Obj) (t : TypeId) (cs : List Value) : CB ((w.alloc o).alloc (.cells cs.toArray t)) t (w.heap.size + 1) cs := by simpa using CB.new (w.alloc o) t cs
theorem bl2 (w : World) (o o2 : Obj) : Below w.heap.size w ((w.alloc o).alloc o2) := ((Below.refl _ _).alloc (Nat.le_refl _) _).alloc (by simp) _
theorem CB.alloc {w : World} {t : TypeId} {g : Nat} {cs : List Value} (h : CB w t g cs) (o : Obj) : CB (w.alloc o) t g cs := h.below ((Below.refl _ _).alloc (Nat.le_refl _) o)
theorem CB.other {w : World} {t : TypeId} {g : Nat} {cs : List Value} (h : CB w t g cs) (p : Addr) (hp : p.block ≠ g) (u : Value) : CB (w.setCell p u) t g cs := by
  show _ = _; rw [heap_setCell_other _ _ _ _ (fun e => hp e.symm)]; exact h
theorem CB.range {w : World} {t : TypeId} {g : Nat} {cs : List Value} (h : CB w t g cs) (o n : Nat) : w.rangeAt g o ((cs.drop o).take n) := fun j v hv => by
  rw [h.cell, ← hv, List.getElem?_take]
  split
  · rw [List.getElem?_drop]
  · rename_i hj
    rw [List.getElem?_take, if_neg hj] at hv
    cases hv
theorem CB.there {w : World} {t : TypeId} {g : Nat} {cs : List Value} (h : CB w t g cs) (o n : Nat) (hn : o + n ≤ cs.length) : w.there g o n := fun j hj =>
  ⟨by rw [h.cell, List.getElem?_eq_getElem (by omega)]; rfl, h.free _⟩
theorem CB.setCells {t : TypeId} {g : Nat} : ∀ (vs : List Value) {w : World} {cs : List Value} (_h : CB w t g cs) (o : Nat) (_hn : o + vs.length ≤ cs.length), CB (w.setCells g o vs) t g (splice cs o vs)
  | [], w, cs, h, o, _ => by simpa [World.setCells, splice] using h
  | v :: r, w, cs, h, o, hn => by
    simp at hn
    have ih := CB.setCells r (h.set o v) (o + 1) (by simp; omega)
    have e : splice (cs.set o v) (o + 1) r = splice cs o (v :: r) := by
      unfold splice
      rw [List.take_add_one, List.take_set_of_le (Nat.le_refl _), List.getElem?_set_self (by omega), List.drop_set_of_lt (by omega)]
      simp [show o + 1 + r.length = o + (r.length + 1) by omega]
    rw [← e]; exact ih
theorem Chg.setCells {S : Nat → Prop} {g : Nat} (hS : S g) : ∀ (vs : List Value) {a w : World} (_h : Chg S a w) (o : Nat), Chg S a (w.setCells g o vs)
  | [], _, _, h, _ => h
  | v :: r, _, _, h, o => Chg.setCells hS r (h.setCell (p := ⟨g, o, none⟩) hS v) (o + 1)

theorem setCells_size (g : Nat) : ∀ (vs : List Value) (w : World) (o : Nat), (w.setCells g o vs).heap.size = w.heap.size
  | [], _, _ => rfl
  | v :: r, w, o => by rw [World.setCells, setCells_size g r]; simp [World.setCell]

section laws
variable {P : Program}
theorem res_cell_one {fn : Func} {p : Tmp} {ty : TypeId} (h : fn.results = #[.cell p ty]) (tmps : Array Value) (w : World) :
    (results fn tmps).run P w = ((asAddr (tmps.getD p undef)).run P w).andThen fun a w₁ => (loadVar ty a).run P w₁ := by
  simp only [results, h]
  simp [Sem.run_bind, Result.andThen]
/-- A whole row out of a block. -/
theorem wp_loadc {op : Oper} {a : Act} {w : World} {K : Act → World → Prop} {Q : Exit → Act → World → Prop} (ty : TypeId) (x : Operand) (ho : op.op = .load ty x)
    (g o n : Nat) (hx : a.eval x = .pointer (some ⟨g, o, none⟩)) {t : TypeId} {cur : List Value} (hc : CB w t g cur) (d : TypeDesc) (hu : P.underlying ty = some d) (hd : d.isRow = true)
    (hi : (P.info? ty).map (·.size) = some n) (hfit : o + n ≤ cur.length) (xs : List Value) (hxs : (cur.drop o).take n = xs)
    (h : K (a.put op.dst (.agg xs.toArray)) w) : op.wp P a w K Q := by
  subst hxs
  exact wp_load_mid ty x ho g o hx _ d (hc.range o n) hu hd (by rw [hi]; simp; omega) h
/-- A whole row into a block. -/
theorem wp_storec {op : Oper} {a : Act} {w : World} {K : Act → World → Prop} {Q : Exit → Act → World → Prop} (ty : TypeId) (x y : Operand) (ho : op.op = .store ty x y)
    (g o n : Nat) (hx : a.eval x = .pointer (some ⟨g, o, none⟩)) (xs : List Value) (hy : a.eval y = .agg xs.toArray) (hn : xs.length = n) {t : TypeId} {cur : List Value} (hc : CB w t g cur)
    (hi : (P.info? ty).map (·.size) = some n) (hfit : o + n ≤ cur.length) (h1 : ∀ v ∈ xs, v.oneCell' = true)
    (h : ∀ w', CB w' t g (splice cur o xs) → Chg (fun k => k = g) w w' → w'.heap.size = w.heap.size → K (a.put op.dst undef) w') : op.wp P a w K Q := by
  subst hn
  refine wp_store_mid ty x y ho g o xs.toArray hx hy (by simpa using hc.there o xs.length hfit) (by simpa using hi) (all_oneCell_toArray h1) ?_
  exact h _ (hc.setCells xs o hfit) (Chg.setCells (S := fun k => k = g) rfl xs (Chg.refl _ w) o) (setCells_size g xs w o)
/-- A result that lies in a block. -/
theorem ret_row {fn : Func} {p : Tmp} {ty : TypeId} (h : fn.results = #[.cell p ty]) {tmps : Array Value} {w : World} {g : Nat} {t : TypeId} {cs : List Value}
    (hp : tmps.getD p undef = .pointer (some ⟨g, 0, none⟩)) (hc : CB w t g cs) (d : TypeDesc) (hu : P.underlying ty = some d) (hd : d.isRow = true) (hi : (P.info? ty).map (·.size) = some cs.length) :
    (results fn tmps).run P w = .ok (.agg cs.toArray) w := by
  have hr : w.rangeAt g 0 cs := by have := hc.range 0 cs.length; simpa using this
  rw [res_cell_one h, hp]
  simp [asAddr, Result.andThen, run_loadVar_mid w g 0 ty cs d hr hu hd hi]
end laws

theorem splice_all {cur xs : List Value} (h : xs.length = cur.length) : splice cur 0 xs = xs := by
  unfold splice; simp [h]

def z8 (n : Nat) : List Nat := List.replicate n 0
/-! A region that draws its order, by what holds of every world until its last operation. -/

section laws
variable {P : Program}
/-- 'copy' into a block that is known whole. -/
theorem wp_copy {op : Oper} {a : Act} {w : World} {K : Act → World → Prop} {Q : Exit → Act → World → Prop} (d s : Operand) (dT sT : TypeId)
    (ho : op.op = .call { callee := .builtin .copy, args := #[d, s], argTypes := #[dT, sT] }) (elem : TypeId) (hu : P.underlying dT = some (.slice elem)) (hsz : (P.info? elem).map (·.size) = some 1)
    (g off dLen dCap : Nat) (ad : Addr) (sLen sCap : Nat) (hd : a.eval d = .slice (some ⟨g, off, none⟩) dLen dCap) (hs : a.eval s = .slice (some ad) sLen sCap)
    {t : TypeId} {cur : List Value} (hg : CB w t g cur) (cs : List Value) (hn : cs.length = Nat.min sLen dLen)
    (hsrc : ∀ j v, cs[j]? = some v → w.cell? (ad.add j) = some v) (hfit : off + cs.length ≤ cur.length) (h1 : ∀ v ∈ cs, v.oneCell' = true)
    (h : ∀ w', CB w' t g (splice cur off cs) → Chg (fun k => k = g) w w' → w'.heap.size = w.heap.size → K (a.put op.dst (goInt cs.length)) w') : op.wp P a w K Q := by
  have hrun := run_copy_row (P := P) w dT sT op.type elem g off dLen dCap ad sLen sCap cur.toArray t cs hu hsz hg hn hsrc (by simpa using hfit) h1
  have hk := h (w.setRow g (splice cur off cs).toArray) (setRow_heap w g _ _ t (0, 0) hg) ⟨rfl, rfl, rfl, by simp, fun k _ hk => setRow_other w g k _ hk⟩ (by simp)
  unfold Oper.wp
  simp [execOp, ho, resolve, invoke, builtin, hd, hs, hrun, Result.andThen]
  exact hk
end laws

theorem wrap_i64_nat (n : Nat) (h : n < 9223372036854775808) : IntKind.i64.wrap (n : Int) = (n : Int) := by
  simp [IntKind.wrap, IntKind.bits, IntKind.signed]; omega

abbrev ow8 (w : World) (B : Nat) (v : Value) (zs : List Nat) : Prop := w.ownsRow B 5 1 v zs.length (u8s zs)
theorem u8s_ats (xs : List Nat) (i : Nat) (h : i < xs.length) : (u8s xs)[i]? = some (.int .u8 (at0 xs i : Nat)) := by simp [u8s, h, at0_getElem]
theorem u8s_sets (xs : List Nat) (i x : Nat) : (u8s xs).set i (.int .u8 (x : Nat)) = u8s (xs.set i x) := by simp [u8s, List.map_set]
theorem ow8.set {w : World} {B g n c : Nat} {zs : List Nat} (h : w.ownsRow B 5 1 (.slice (some ⟨g, 0, none⟩) n c) n (u8s zs)) (j x : Nat) : (w.setCell ⟨g, j, none⟩ (.int .u8 (x : Nat))).ownsRow B 5 1 (.slice (some ⟨g, 0, none⟩) n c) n (u8s (zs.set j x)) := by
  rw [← u8s_sets]
  exact (World.ownsRow.stored h j _).1
theorem wpl_make8s {w : World} {ops : Array Oper} {rest : List Oper} {o : Oper} {a : Act} {Q : Exit → Act → World → Prop} (hg : o.guard = none) (l c : Operand) (hop : o.op = Op.makeSlice 40 l c)
    (B : Nat) (kl kc : IntKind) (L C : Int) (n : Nat) (hl : a.eval l = .int kl L) (hc : a.eval c = .int kc C) (hL : L = (n : Int)) (hC : C = (n : Int)) (hn : n ≤ 4398046511104) (hB : B ≤ w.heap.size)
    (hK : ∀ w', w'.ownsRow B 5 1 (.slice (some ⟨w.heap.size, 0, none⟩) n n) n (u8s (List.replicate n 0)) → Below B w w' → w.heap.size < w'.heap.size → wpList Tryz.prog ops Q rest (a.put o.dst (.slice (some ⟨w.heap.size, 0, none⟩) n n)) w') :
    wpList Tryz.prog ops Q (o :: rest) a w := by
  obtain ⟨i, hi, hz, hsz, hb⟩ := info_parts info8
  refine wpList_make_full w hg l c 40 hop B 5 i (.int .u8 0) 1 Tryz.underlying40 hi hz hsz kl kc L C n hl hc hL hC (by rw [hb]; omega) (by simp only [maxLen]; omega) hB ?_
  intro w' hown hgr
  refine hK w' ?_ ((Below.refl _ _).grown hgr hB (fun k hk => by cases hk)) ((World.ownsRow.lt hown _ rfl).2)
  have e : (madeCells (Value.int .u8 0).cells (n * 1)).toList = u8s (List.replicate n 0) := by
    rw [Nat.mul_one, show (Value.int .u8 0).cells = #[.int .u8 0] from rfl, toList_madeCells_one, u8s, List.map_replicate]
    rfl
  rw [e] at hown
  exact hown

theorem own_rd8 {w : World} {B g n c : Nat} {zs : List Nat} (h : w.ownsRow B 5 1 (.slice (some ⟨g, 0, none⟩) n c) n (u8s zs)) (o k : Nat) (hk : o + k ≤ n) : Rd .u8 w (some ⟨g, o, none⟩) ((zs.drop o).take k) := by
  have hl : zs.length = n := by have := h.1; simpa [u8s] using this
  intro j hj
  refine ⟨g, o, rfl, fun i hi => ?_⟩
  have hk2 : i < k := by simp at hi; omega
  rw [World.ownsRow.cellAt h (o + i) (by omega), u8s, List.getElem?_map, List.getElem?_eq_getElem (by omega)]
  simp [List.getD, List.getElem?_drop, hk2, show o + i < zs.length by omega]
theorem own_rdw {w : World} {B g n c : Nat} {zs : List Nat} (h : w.ownsRow B 5 1 (.slice (some ⟨g, 0, none⟩) n c) n (u8s zs)) : Rd .u8 w (some ⟨g, 0, none⟩) zs := by
  have hl : zs.length = n := by have := h.1; simpa [u8s] using this
  have := own_rd8 h 0 n (by omega)
  rwa [List.drop_zero, List.take_of_length_le (by omega)] at this

/-! What the packages from coding on share. -/
theorem nat_joinB (k a b : Nat) (hb : b < 2 ^ k) : (a * 2 ^ k) ||| b = a * 2 ^ k + b := by
  rw [Nat.mul_comm, Nat.two_pow_add_eq_or_of_lt hb]
theorem u8s_one8 (l : List Nat) : ∀ v ∈ u8s l, v.oneCell' = true := by
  intro v hv
  obtain ⟨x, _, rfl⟩ := List.mem_map.1 hv
  rfl
theorem wrap_u8_in (d : Nat) (h : d < 256) : IntKind.u8.wrap (d : Int) = (d : Int) := by
  rw [show IntKind.u8.wrap (d : Int) = (d : Int) % 256 from by simp [IntKind.wrap, IntKind.signed, IntKind.bits]]
  omega
theorem or_low8 (x y k : Nat) (hk : k ≤ 32) (hy : y < 2 ^ k) (hx : x * 2 ^ k < 18446744073709551616) : bits BinOp.or IntKind.u64 ((x * 2 ^ k : Nat) : Int) (y : Int) = ((x * 2 ^ k + y : Nat) : Int) := by
  have h2 : (2 : Nat) ^ k ≤ 2 ^ 32 := Nat.pow_le_pow_right (by decide) hk
  rw [or_nat _ _ hx (by omega), nat_joinB k _ _ hy]
theorem i64_or_natural (a b : Nat) (ha : a < 9223372036854775808) (hb : b < 9223372036854775808) : bits BinOp.or IntKind.i64 (a : Int) (b : Int) = ((a ||| b : Nat) : Int) := by
  have h1 : (BitVec.ofInt 64 (a : Int)).toNat = a := by
    rw [BitVec.ofInt_natCast, BitVec.toNat_ofNat]; exact Nat.mod_eq_of_lt (by omega)
  have h2 : (BitVec.ofInt 64 (b : Int)).toNat = b := by
    rw [BitVec.ofInt_natCast, BitVec.toNat_ofNat]; exact Nat.mod_eq_of_lt (by omega)
  show IntKind.i64.wrap ((BitVec.ofInt 64 (a : Int) ||| BitVec.ofInt 64 (b : Int)).toNat : Int) = _
  rw [BitVec.toNat_or, h1, h2]
  have h3 : a ||| b < 2 ^ 63 := Nat.or_lt_two_pow (by omega) (by omega)
  exact wrap_i64_nat _ (by omega)
/-- A piece of a row, whichever its address. -/
theorem rd_cut {w : World} {p : Addr} {b : List Nat} {len cap : Nat} (h : Rd .u8 w (some p) b) (hl : b.length = len) (hcap : len ≤ cap) (lo n : Nat) (hlo : lo + n ≤ len) : Rd .u8 w (if cap = lo then some p else some (p.add lo)) ((b.drop lo).take n) := by
  intro j hj
  have hn : j < n ∧ j < b.length - lo := by simp at hj; omega
  obtain ⟨bb, off, e, hc⟩ := h.get (by omega)
  obtain rfl := Option.some.inj e
  rw [if_neg (by omega)]
  have ea : (⟨bb, off, none⟩ : Addr).add lo = ⟨bb, off + lo, none⟩ := by unfold Addr.add; split <;> simp_all
  rw [ea]
  refine ⟨bb, off + lo, rfl, fun i hi => ?_⟩
  have hn2 : i < n ∧ i < b.length - lo := by simp at hi; omega
  rw [show off + lo + i = off + (lo + i) by omega, hc (lo + i) (by omega)]
  simp [List.getD, List.getElem?_take, List.getElem?_drop, hn2.1]
theorem rd_pre {w : World} {a : Option Addr} {b : List Nat} (h : Rd .u8 w a b) (n : Nat) : Rd .u8 w a (b.take n) := by
  intro j hj
  have hn : j < n ∧ j < b.length := by simp at hj; omega
  obtain ⟨bb, off, e, hc⟩ := h.get (by omega)
  refine ⟨bb, off, e, fun i hi => ?_⟩
  have hn2 : i < n ∧ i < b.length := by simp at hi; omega
  rw [hc i hn2.2]
  simp [List.getD, List.getElem?_take, hn2.1]
theorem own8_open {w : World} {B : Nat} {v : Value} {zs : List Nat} (h : w.ownsRow B 5 1 v zs.length (u8s zs)) : ∃ a c, v = .slice a zs.length c ∧ zs.length ≤ c ∧ Rd .u8 w a zs ∧ (a = none → c = 0) ∧ c ≤ 9223372036854775807 := by
  rcases h.2 with ⟨hv, h0⟩ | ⟨g, c, cur, hv, _, _, hn, hm, _, _⟩
  · subst hv
    refine ⟨none, 0, by rw [h0], by omega, fun j hj => by omega, fun _ => rfl, by decide⟩
  · subst hv
    exact ⟨_, c, rfl, hn, own_rdw h, (fun h => by cases h), hm⟩
theorem cell_alloc {w : World} {g : Nat} {cs : Array Value} {T : TypeId} {i : Nat} (h : w.heap[g]? = some (.cells cs T (0, 0))) : w.cell? ⟨g, i, none⟩ = cs[i]? := by simp [World.cell?, h]
theorem frozen_alloc {w : World} {g : Nat} {cs : Array Value} {T : TypeId} {i : Nat} (h : w.heap[g]? = some (.cells cs T (0, 0))) : w.frozen? ⟨g, i, none⟩ = false := by simp [World.frozen?, h]
theorem infoKy : (Tryz.prog.info? 25).map (·.size) = some 2 := by kernel_rfl
theorem other_set {w : World} {a b : Nat} {i : Nat} {o : Obj} (h : w.heap[a]? = some o) (hn : b ≠ a) (v : Value) : (w.setCell ⟨b, i, none⟩ v).heap[a]? = some o := by
  rw [Below.heap_setCell _ _ _ _ (fun e => hn e.symm)]; exact h
theorem results_Ky {fn : Func} {p : Tmp} (h : fn.results = #[.cell p 25]) {tmps : Array Value} {w : World} {g : Nat} {x y : Value} {T : TypeId}
    (hp : tmps.getD p undef = .pointer (some ⟨g, 0, none⟩)) (hg : w.heap[g]? = some (.cells #[x, y] T (0, 0))) :
    (results fn tmps).run Tryz.prog w = .ok (.agg #[x, y]) w :=
  results_cell_row h tmps _ g _ #[x, y] (0, 0) _ hp hg Tryz.underlying25 rfl infoKy
theorem Sep.belowS {w w' : World} {B : Nat} {R : List Rw} (h : Sep w B R) (hb : Below w.heap.size w w') : Sep w' B R :=
  h.chg (Chg.of_below hb) (fun r hr k hk => by have := World.ownsRow.lt (h.1 r hr) k hk; omega)
abbrev KO (x y : Value) : Obj := .cells #[x, y] 25
theorem KO.cells {w : World} {g : Nat} {x y : Value} (h : w.heap[g]? = some (KO x y)) : w.cell? ⟨g, 0, none⟩ = some x ∧ w.cell? ⟨g, 1, none⟩ = some y := ⟨cell_alloc (i := 0) h, cell_alloc (i := 1) h⟩
theorem KO.below {w w' : World} {g : Nat} {x y : Value} (h : w.heap[g]? = some (KO x y)) (hb : Below w.heap.size w w') : w'.heap[g]? = some (KO x y) := by rw [hb.block _ (lt_of_block h)]; exact h
def rwb (v : Value) (b : List Nat) : Rw := ⟨v, 5, b.length, u8s b⟩
theorem Sep.new {w w' : World} {B : Nat} {R : List Rw} (h : Sep w B R) (hB : B ≤ w.heap.size) (hb : Below w.heap.size w w') {v : Value} {b : List Nat} (ho : own8 w' w.heap.size v b) : Sep w' B (rwb v b :: R) := by
  have h2 := h.belowS hb
  refine ⟨fun r hr => ?_, List.pairwise_cons.2 ⟨fun r hr k hk hk2 => ?_, h2.2⟩⟩
  · rcases List.mem_cons.1 hr with rfl | hr
    · exact owns_base ho hB
    · exact h2.1 r hr
  · have h3 := World.ownsRow.lt ho k hk
    have h4 := World.ownsRow.lt (h.1 r hr) k hk2
    omega
theorem Sep.own {w : World} {B : Nat} {v : Value} {zs : List Nat} {R : List Rw} (h : Sep w B R) (hm : rw64 v zs ∈ R) : own64 w B v zs := h.1 _ hm
theorem rd_add {w : World} {p : Addr} {b : List Nat} {len : Nat} (h : Rd .u8 w (some p) b) (hl : b.length = len) (lo n : Nat) (hlo : lo + n ≤ len) : Rd .u8 w (some (p.add lo)) ((b.drop lo).take n) := by
  have := rd_cut h hl (Nat.le_succ len) lo n hlo
  rwa [if_neg (by omega)] at this
theorem Sep.rdb {w : World} {B : Nat} {R : List Rw} (h : Sep w B R) {a : Option Addr} {n c : Nat} {b : List Nat} (hm : rwb (.slice a n c) b ∈ R) : Rd .u8 w a b := by
  obtain ⟨a', c', hv, _, hr, _, _⟩ := own8_open (h.1 _ hm)
  have : Value.slice a n c = .slice a' b.length c' := hv
  cases this
  exact hr
end Go.Proofs.YtaookoejdnkkoaaGreatDoor
