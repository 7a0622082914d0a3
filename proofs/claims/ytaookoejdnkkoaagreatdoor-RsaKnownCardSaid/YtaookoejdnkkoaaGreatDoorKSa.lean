import Derived.Test.YtaookoejdnkkoaaGreatDoorKGB
import Derived.BigRegion
import Derived.Deep.MidRow
import Derived.Deep.WholeRow
import Derived.Laws.BitsAllLaws
import Derived.Laws.CopyOwn
import Derived.Laws.ResultCell
import Derived.OrdersHeld
import Derived.StillTail
namespace Go.Proofs.YtaookoejdnkkoaaGreatDoor
open Go.RowKit

/-! SHA-1 as both sides spell it: numbers are the model's own. -/

def turnI (x : Int) (n : Nat) : Int := bits .or .u32 (IntKind.u32.wrap (x * 2 ^ n)) (x / 2 ^ (32 - n))
def notI (x : Int) : Int := bits BinOp.xor IntKind.u32 IntKind.u32.max x
def fI (t : Nat) (b c d : Int) : Int :=
  if t < 20 then bits .or .u32 (bits .and .u32 b c) (bits .and .u32 (notI b) d)
  else if t < 40 then bits .xor .u32 (bits .xor .u32 b c) d
  else if t < 60 then bits .or .u32 (bits .or .u32 (bits .and .u32 b c) (bits .and .u32 b d)) (bits .and .u32 c d)
  else bits .xor .u32 (bits .xor .u32 b c) d
def kI (t : Nat) : Int := if t < 20 then 1518500249 else if t < 40 then 1859775393 else if t < 60 then 2400959708 else 3395469782

structure S5 where
  a : Int
  b : Int
  c : Int
  d : Int
  e : Int

def S5.cells (s : S5) : List Value := [.int .u32 s.a, .int .u32 s.b, .int .u32 s.c, .int .u32 s.d, .int .u32 s.e]
def start5 : S5 := ⟨1732584193, 4023233417, 2562383102, 271733878, 3285377520⟩
def nextI (t : Nat) (w : Int) (s : S5) : Int := IntKind.u32.wrap (IntKind.u32.wrap (IntKind.u32.wrap (IntKind.u32.wrap (turnI s.a 5 + fI t s.b s.c s.d) + s.e) + kI t) + w)
def step5 (t : Nat) (w : Int) (s : S5) : S5 := ⟨nextI t w s, s.a, turnI s.b 30, s.c, s.d⟩
def rounds5 (ws : List Int) : Nat → S5 → S5
  | 0, s => s
  | t + 1, s => step5 t (ws.getD t 0) (rounds5 ws t s)
def plus5 (s r : S5) : S5 := ⟨IntKind.u32.wrap (s.a + r.a), IntKind.u32.wrap (s.b + r.b), IntKind.u32.wrap (s.c + r.c), IntKind.u32.wrap (s.d + r.d), IntKind.u32.wrap (s.e + r.e)⟩

def laterI (l : List Int) (t : Nat) : Int := turnI (bits .xor .u32 (bits .xor .u32 (bits .xor .u32 (l.getD (t - 3) 0) (l.getD (t - 8) 0)) (l.getD (t - 14) 0)) (l.getD (t - 16) 0)) 1
/-- The first t of a block's eighty numbers. -/
def grow80 (l : List Int) : Nat → List Int
  | 0 => []
  | t + 1 => grow80 l t ++ [if t < 16 then l.getD t 0 else laterI (grow80 l t) t]
theorem grow80_len (l : List Int) : ∀ t, (grow80 l t).length = t
  | 0 => rfl
  | t + 1 => by simp [grow80, grow80_len l t]
def wordI (b : List Nat) (i : Nat) : Int := ((((b.getD (4 * i) 0 * 256 + b.getD (4 * i + 1) 0) * 256 + b.getD (4 * i + 2) 0) * 256 + b.getD (4 * i + 3) 0 : Nat) : Int)
def words16 (b : List Nat) : List Int := (List.range 16).map (wordI b)
theorem words16_len (b : List Nat) : (words16 b).length = 16 := by simp [words16]
def block5 (s : S5) (b : List Nat) : S5 := plus5 s (rounds5 (grow80 (words16 b) 80) 80 s)
def blocks5 (s : S5) (b : List Nat) : Nat → S5
  | 0 => s
  | n + 1 => block5 (blocks5 s b n) ((b.drop (64 * n)).take 64)

theorem take_drop_append (a b : List Nat) (k n : Nat) (h : k + n ≤ a.length) : ((a ++ b).drop k).take n = (a.drop k).take n := by
  rw [List.drop_append_of_le_length (by omega), List.take_append_of_le_length (by simp; omega)]
theorem blocks5_append (s : S5) (a b : List Nat) : ∀ n, 64 * n ≤ a.length → blocks5 s (a ++ b) n = blocks5 s a n
  | 0, _ => rfl
  | n + 1, h => by
    rw [blocks5, blocks5, blocks5_append s a b n (by omega), take_drop_append a b _ _ (by omega)]

/-- The number's byte at a place of the twenty. -/
def S5.at (s : S5) : Nat → Int
  | 0 => s.a
  | 1 => s.b
  | 2 => s.c
  | 3 => s.d
  | _ => s.e
def byteI (s : S5) (i : Nat) : Int := s.at (i / 4) / 2 ^ (24 - 8 * (i % 4)) % 256
def bytes20 (s : S5) : List Int := (List.range 20).map (byteI s)

/-- What stands behind a message. -/
def padN (n : Nat) : Nat := (119 - n % 64) % 64
def padI (n : Nat) : List Nat := 128 :: (List.replicate (padN n) 0 ++ (List.range 8).map fun i => n * 8 % 18446744073709551616 / 2 ^ (56 - 8 * i) % 256)
theorem padI_len (n : Nat) : (padI n).length = padN n + 9 := by simp [padI]
theorem padI_whole (n : Nat) : (n + (padI n).length) % 64 = 0 := by rw [padI_len]; unfold padN; omega

/-- SHA-1. -/
def sha5 (m : List Nat) : S5 := blocks5 start5 (m ++ padI m.length) ((m ++ padI m.length).length / 64)
/-- A call that only reads (it may draw). -/
def QP (v : Value) (w : World) (e : Ending) (w' : World) : Prop := e = .returned v ∧ ∃ m, w' = w.drewN m

set_option maxHeartbeats 800000 in
theorem turn1_any (x : Int) (w : World) : Calls Tryz.prog 169 #[.int .u32 x, .int .i64 1] w (QP (.int .u32 (turnI x 1)) w) := by
  go_enter Tryz.func169, Tryz.ntmps169
  go_wp2
  go_quiet (fail)
  go_wp2
  go_ret
  exact ⟨rfl, _, rfl⟩
set_option maxHeartbeats 800000 in
theorem rot1_any (x : Int) (w : World) : Calls Tryz.prog 200 #[.int .u32 x, .int .i64 1] w fun e w' => e = .returned (.int .u32 (turnI x 1)) ∧ w' = w := by
  have h : bits BinOp.and IntKind.u64 1 31 = 1 := by decide
  go_enter Tryz.func200, Tryz.ntmps200
  go_wp2
  go_ret
  exact ⟨rfl, rfl⟩

set_option maxHeartbeats 800000 in
theorem turn5_any (x : Int) (w : World) : Calls Tryz.prog 169 #[.int .u32 x, .int .i64 5] w (QP (.int .u32 (turnI x 5)) w) := by
  go_enter Tryz.func169, Tryz.ntmps169
  go_wp2
  go_quiet (fail)
  go_wp2
  go_ret
  exact ⟨rfl, _, rfl⟩
set_option maxHeartbeats 800000 in
theorem rot5_any (x : Int) (w : World) : Calls Tryz.prog 200 #[.int .u32 x, .int .i64 5] w fun e w' => e = .returned (.int .u32 (turnI x 5)) ∧ w' = w := by
  have h : bits BinOp.and IntKind.u64 5 31 = 5 := by decide
  go_enter Tryz.func200, Tryz.ntmps200
  go_wp2
  go_ret
  exact ⟨rfl, rfl⟩

set_option maxHeartbeats 800000 in
theorem turn30_any (x : Int) (w : World) : Calls Tryz.prog 169 #[.int .u32 x, .int .i64 30] w (QP (.int .u32 (turnI x 30)) w) := by
  go_enter Tryz.func169, Tryz.ntmps169
  go_wp2
  go_quiet (fail)
  go_wp2
  go_ret
  exact ⟨rfl, _, rfl⟩
set_option maxHeartbeats 800000 in
theorem rot30_any (x : Int) (w : World) : Calls Tryz.prog 200 #[.int .u32 x, .int .i64 30] w fun e w' => e = .returned (.int .u32 (turnI x 30)) ∧ w' = w := by
  have h : bits BinOp.and IntKind.u64 30 31 = 30 := by decide
  go_enter Tryz.func200, Tryz.ntmps200
  go_wp2
  go_ret
  exact ⟨rfl, rfl⟩

set_option maxHeartbeats 800000 in
theorem mix_any (t : Nat) (b c d : Int) (w : World) : Calls Tryz.prog 199 #[.int .i64 t, .int .u32 b, .int .u32 c, .int .u32 d] w fun e w' => e = .returned (.tuple #[.int .u32 (fI t b c d), .int .u32 (kI t)]) ∧ w' = w := by
  rw [fI, kI]
  by_cases h1 : t < 20
  · simp only [h1, if_true]
    go_enter Tryz.func199, Tryz.ntmps199
    go_wp2
    go_ret2
    exact ⟨rfl, rfl⟩
  simp only [h1, if_false]
  by_cases h2 : t < 40
  · simp only [h2, if_true]
    go_enter Tryz.func199, Tryz.ntmps199
    go_wp2
    go_ret2
    exact ⟨rfl, rfl⟩
  simp only [h2, if_false]
  by_cases h3 : t < 60
  · simp only [h3, if_true]
    go_enter Tryz.func199, Tryz.ntmps199
    go_wp2
    go_ret2
    exact ⟨rfl, rfl⟩
  simp only [h3, if_false]
  go_enter Tryz.func199, Tryz.ntmps199
  go_wp2
  go_ret2
  exact ⟨rfl, rfl⟩

set_option maxHeartbeats 800000 in
theorem mixed_any (t : Nat) (b c d : Int) (w : World) : Calls Tryz.prog 170 #[.int .i64 t, .int .u32 b, .int .u32 c, .int .u32 d] w fun e w' => e = .returned (.tuple #[.int .u32 (fI t b c d), .int .u32 (kI t)]) ∧ w' = w := by
  rw [fI, kI]
  by_cases h1 : t < 20
  · simp only [h1, if_true]
    go_enter Tryz.func170, Tryz.ntmps170
    go_wp2
    go_ret2
    exact ⟨rfl, rfl⟩
  simp only [h1, if_false]
  by_cases h2 : t < 40
  · simp only [h2, if_true]
    go_enter Tryz.func170, Tryz.ntmps170
    go_wp2
    go_ret2
    exact ⟨rfl, rfl⟩
  simp only [h2, if_false]
  by_cases h3 : t < 60
  · simp only [h3, if_true]
    go_enter Tryz.func170, Tryz.ntmps170
    go_wp2
    go_ret2
    exact ⟨rfl, rfl⟩
  simp only [h3, if_false]
  go_enter Tryz.func170, Tryz.ntmps170
  go_wp2
  go_ret2
  exact ⟨rfl, rfl⟩

/-- A block known whole. -/
def CB (w : World) (t : TypeId) (g : Nat) (cs : List Value) : Prop := w.heap[g]? = some (.cells cs.toArray t (0, 0))
theorem CB.lt {w : World} {t : TypeId} {g : Nat} {cs : List Value} (h : CB w t g cs) : g < w.heap.size := lt_of_block h
theorem CB.cell {w : World} {t : TypeId} {g : Nat} {cs : List Value} (h : CB w t g cs) (i : Nat) : w.cell? ⟨g, i, none⟩ = cs[i]? := by unfold CB at h; simp [World.cell?, h]
theorem CB.free {w : World} {t : TypeId} {g : Nat} {cs : List Value} (h : CB w t g cs) (i : Nat) : w.frozen? ⟨g, i, none⟩ = false := by unfold CB at h; simp [World.frozen?, h]
theorem CB.set {w : World} {t : TypeId} {g : Nat} {cs : List Value} (h : CB w t g cs) (i : Nat) (u : Value) : CB (w.setCell ⟨g, i, none⟩ u) t g (cs.set i u) := by
  have h2 := heap_setCell_same w g i cs.toArray _ u h
  simpa [CB] using h2
theorem CB.chg {w w' : World} {t : TypeId} {g : Nat} {cs : List Value} {S : Nat → Prop} (h : CB w t g cs) (hc : Chg S w w') (hS : ¬ S g) : CB w' t g cs := hc.heap h hS
theorem CB.below {w w' : World} {t : TypeId} {g : Nat} {cs : List Value} (h : CB w t g cs) (hb : Below w.heap.size w w') : CB w' t g cs := by
  show _ = _; rw [hb.block _ h.lt]; exact h
theorem CB.belowB {w w' : World} {B : Nat} {t : TypeId} {g : Nat} {cs : List Value} (h : CB w t g cs) (hb : Below B w w') (hg : g < B) : CB w' t g cs := by
  show _ = _; rw [hb.block _ hg]; exact h
theorem CB.new (w : World) (t : TypeId) (cs : List Value) : CB (w.alloc (.cells cs.toArray t)) t w.heap.size cs := heap_alloc_last w _
theorem cb2 (w : World) (o : Obj) (t : TypeId) (cs : List Value) : CB ((w.alloc o).alloc (.cells cs.toArray t)) t (w.heap.size + 1) cs := by simpa using CB.new (w.alloc o) t cs
theorem cb3 (w : World) (o o2 : Obj) (t : TypeId) (cs : List Value) : CB (((w.alloc o).alloc o2).alloc (.cells cs.toArray t)) t (w.heap.size + 1 + 1) cs := by simpa using CB.new ((w.alloc o).alloc o2) t cs
theorem bl2 (w : World) (o o2 : Obj) : Below w.heap.size w ((w.alloc o).alloc o2) := ((Below.refl _ _).alloc (Nat.le_refl _) _).alloc (by simp) _
theorem bl3 (w : World) (o o2 o3 : Obj) : Below w.heap.size w (((w.alloc o).alloc o2).alloc o3) := (((Below.refl _ _).alloc (Nat.le_refl _) _).alloc (by simp) _).alloc (by simp; omega) _
theorem CB.alloc {w : World} {t : TypeId} {g : Nat} {cs : List Value} (h : CB w t g cs) (o : Obj) : CB (w.alloc o) t g cs := h.below ((Below.refl _ _).alloc (Nat.le_refl _) o)
theorem CB.other {w : World} {t : TypeId} {g : Nat} {cs : List Value} (h : CB w t g cs) (p : Addr) (hp : p.block ≠ g) (u : Value) : CB (w.setCell p u) t g cs := by
  show _ = _; rw [heap_setCell_other _ _ _ _ (fun e => hp e.symm)]; exact h
theorem CB.range {w : World} {t : TypeId} {g : Nat} {cs : List Value} (h : CB w t g cs) (o n : Nat) : w.rangeAt g o ((cs.drop o).take n) := fun j v hv => by
  rw [h.cell, ← hv, List.getElem?_take]
  split
  · rw [List.getElem?_drop]
  · rename_i hj
    rw [List.getElem?_take, if_neg hj] at hv
    cases hv
theorem CB.there {w : World} {t : TypeId} {g : Nat} {cs : List Value} (h : CB w t g cs) (o n : Nat) (hn : o + n ≤ cs.length) : w.there g o n := fun j hj =>
  ⟨by rw [h.cell, List.getElem?_eq_getElem (by omega)]; rfl, h.free _⟩
theorem CB.setCells {t : TypeId} {g : Nat} : ∀ (vs : List Value) {w : World} {cs : List Value} (_h : CB w t g cs) (o : Nat) (_hn : o + vs.length ≤ cs.length), CB (w.setCells g o vs) t g (splice cs o vs)
  | [], w, cs, h, o, _ => by simpa [World.setCells, splice] using h
  | v :: r, w, cs, h, o, hn => by
    simp at hn
    have ih := CB.setCells r (h.set o v) (o + 1) (by simp; omega)
    have e : splice (cs.set o v) (o + 1) r = splice cs o (v :: r) := by
      unfold splice
      rw [List.take_add_one, List.take_set_of_le (Nat.le_refl _), List.getElem?_set_self (by omega), List.drop_set_of_lt (by omega)]
      simp [show o + 1 + r.length = o + (r.length + 1) by omega]
    rw [← e]; exact ih
theorem Chg.setCells {S : Nat → Prop} {g : Nat} (hS : S g) : ∀ (vs : List Value) {a w : World} (_h : Chg S a w) (o : Nat), Chg S a (w.setCells g o vs)
  | [], _, _, h, _ => h
  | v :: r, _, _, h, o => Chg.setCells hS r (h.setCell (p := ⟨g, o, none⟩) hS v) (o + 1)

theorem setCells_size (g : Nat) : ∀ (vs : List Value) (w : World) (o : Nat), (w.setCells g o vs).heap.size = w.heap.size
  | [], _, _ => rfl
  | v :: r, w, o => by rw [World.setCells, setCells_size g r]; simp [World.setCell]

section laws
variable {P : Program}
theorem res_cell_one {fn : Func} {p : Tmp} {ty : TypeId} (h : fn.results = #[.cell p ty]) (tmps : Array Value) (w : World) :
    (results fn tmps).run P w = ((asAddr (tmps.getD p undef)).run P w).andThen fun a w₁ => (loadVar ty a).run P w₁ := by
  simp only [results, h]
  simp [Sem.run_bind, Result.andThen]
/-- A whole row out of a block. -/
theorem wp_loadc {op : Oper} {a : Act} {w : World} {K : Act → World → Prop} {Q : Exit → Act → World → Prop} (ty : TypeId) (x : Operand) (ho : op.op = .load ty x)
    (g o n : Nat) (hx : a.eval x = .pointer (some ⟨g, o, none⟩)) {t : TypeId} {cur : List Value} (hc : CB w t g cur) (d : TypeDesc) (hu : P.underlying ty = some d) (hd : d.isRow = true)
    (hi : (P.info? ty).map (·.size) = some n) (hfit : o + n ≤ cur.length) (xs : List Value) (hxs : (cur.drop o).take n = xs)
    (h : K (a.put op.dst (.agg xs.toArray)) w) : op.wp P a w K Q := by
  subst hxs
  exact wp_load_mid ty x ho g o hx _ d (hc.range o n) hu hd (by rw [hi]; simp; omega) h
/-- A whole row into a block. -/
theorem wp_storec {op : Oper} {a : Act} {w : World} {K : Act → World → Prop} {Q : Exit → Act → World → Prop} (ty : TypeId) (x y : Operand) (ho : op.op = .store ty x y)
    (g o n : Nat) (hx : a.eval x = .pointer (some ⟨g, o, none⟩)) (xs : List Value) (hy : a.eval y = .agg xs.toArray) (hn : xs.length = n) {t : TypeId} {cur : List Value} (hc : CB w t g cur)
    (hi : (P.info? ty).map (·.size) = some n) (hfit : o + n ≤ cur.length) (h1 : ∀ v ∈ xs, v.oneCell' = true)
    (h : ∀ w', CB w' t g (splice cur o xs) → Chg (fun k => k = g) w w' → w'.heap.size = w.heap.size → K (a.put op.dst undef) w') : op.wp P a w K Q := by
  subst hn
  refine wp_store_mid ty x y ho g o xs.toArray hx hy (by simpa using hc.there o xs.length hfit) (by simpa using hi) (all_oneCell_toArray h1) ?_
  exact h _ (hc.setCells xs o hfit) (Chg.setCells (S := fun k => k = g) rfl xs (Chg.refl _ w) o) (setCells_size g xs w o)
/-- A result that lies in a block. -/
theorem ret_row {fn : Func} {p : Tmp} {ty : TypeId} (h : fn.results = #[.cell p ty]) {tmps : Array Value} {w : World} {g : Nat} {t : TypeId} {cs : List Value}
    (hp : tmps.getD p undef = .pointer (some ⟨g, 0, none⟩)) (hc : CB w t g cs) (d : TypeDesc) (hu : P.underlying ty = some d) (hd : d.isRow = true) (hi : (P.info? ty).map (·.size) = some cs.length) :
    (results fn tmps).run P w = .ok (.agg cs.toArray) w := by
  have hr : w.rangeAt g 0 cs := by have := hc.range 0 cs.length; simpa using this
  rw [res_cell_one h, hp]
  simp [asAddr, Result.andThen, run_loadVar_mid w g 0 ty cs d hr hu hd hi]
end laws

theorem splice_all {cur xs : List Value} (h : xs.length = cur.length) : splice cur 0 xs = xs := by
  unfold splice; simp [h]

def i32s (l : List Int) : List Value := l.map (.int .u32)
theorem i32s_len (l : List Int) : (i32s l).length = l.length := by simp [i32s]
theorem i32s_at (l : List Int) (i : Nat) (h : i < l.length) : (i32s l)[i]? = some (.int .u32 (l.getD i 0)) := by simp [i32s, h, List.getD]
def z32 (n : Nat) : List Int := List.replicate n 0
def z8 (n : Nat) : List Nat := List.replicate n 0
theorem z32_len (n : Nat) : (z32 n).length = n := by simp [z32]
theorem z8_len (n : Nat) : (z8 n).length = n := by simp [z8]
/-- A list of numbers that is filled from its head. -/
def filled (l : List Int) (t n : Nat) : List Int := grow80 l t ++ z32 (n - t)
theorem filled_len (l : List Int) (t n : Nat) (h : t ≤ n) : (filled l t n).length = n := by simp [filled, grow80_len, z32_len]; omega
theorem filled_at (l : List Int) (t n i : Nat) (h : i < t) : (filled l t n).getD i 0 = (grow80 l t).getD i 0 := by
  unfold filled
  simp only [List.getD_eq_getElem?_getD]
  rw [List.getElem?_append_left (by rw [grow80_len]; omega)]
theorem filled_next (l : List Int) (t n : Nat) (h : t < n) (x : Int) (hx : x = if t < 16 then l.getD t 0 else laterI (grow80 l t) t) : (filled l t n).set t x = filled l (t + 1) n := by
  subst hx
  unfold filled
  rw [List.set_append_right _ _ (by rw [grow80_len]; exact Nat.le_refl _), grow80_len, Nat.sub_self, grow80, List.append_assoc]
  congr 1
  rw [z32, show n - t = (n - (t + 1)) + 1 by omega, List.replicate_succ]
  rfl
theorem filled_all (l : List Int) (n : Nat) : filled l n n = grow80 l n := by simp [filled, z32]
theorem i32s_one (l : List Int) : ∀ v ∈ i32s l, v.oneCell' = true := by
  intro v hv; obtain ⟨x, _, rfl⟩ := List.mem_map.1 hv; rfl
theorem i32s_set (l : List Int) (i : Nat) (x : Int) : (i32s l).set i (.int .u32 x) = i32s (l.set i x) := by simp [i32s, List.map_set]
theorem u8s_one (l : List Nat) : ∀ v ∈ u8s l, v.oneCell' = true := by
  intro v hv; obtain ⟨x, _, rfl⟩ := List.mem_map.1 hv; rfl
theorem cells_one (s : S5) : ∀ v ∈ s.cells, v.oneCell' = true := by
  intro v hv; simp [S5.cells] at hv; rcases hv with rfl | rfl | rfl | rfl | rfl <;> rfl

theorem cells_at (s : S5) (i : Nat) (h : i < 5) : s.cells[i]? = some (.int .u32 (s.at i)) := by
  rcases i with _ | _ | _ | _ | _ | i <;> first | rfl | omega
theorem five_set {w : World} {t : TypeId} {g : Nat} {cs : List Value} (h : CB w t g cs) (hl : cs.length = 5) (v0 v1 v2 v3 v4 : Value) :
    CB (((((w.setCell ⟨g, 0, none⟩ v0).setCell ⟨g, 1, none⟩ v1).setCell ⟨g, 2, none⟩ v2).setCell ⟨g, 3, none⟩ v3).setCell ⟨g, 4, none⟩ v4) t g [v0, v1, v2, v3, v4] := by
  have h5 := ((((h.set 0 v0).set 1 v1).set 2 v2).set 3 v3).set 4 v4
  match cs, hl with
  | [a, b, c, d, e], _ => exact h5
/-- The sums of two fives, as far as they are made. -/
def part5 (s x : S5) (i : Nat) : List Value := (plus5 s x).cells.take i ++ x.cells.drop i
theorem part5_at (s x : S5) (i : Nat) (h : i < 5) : (part5 s x i)[i]? = some (.int .u32 (x.at i)) := by
  rcases i with _ | _ | _ | _ | _ | i <;> first | rfl | omega
theorem part5_next (s x : S5) (i : Nat) (h : i < 5) : (part5 s x i).set i (.int .u32 ((x.at i + s.at i) % 4294967296)) = part5 s x (i + 1) := by
  rcases i with _ | _ | _ | _ | _ | i <;> first | omega | simp [part5, plus5, S5.cells, S5.at, IntKind.wrap_u32', Int.add_comm]
theorem info80 : (Tryz.prog.info? 179).map (fun i => (i.zero, i.size)) = some (some (.agg (i32s (z32 80)).toArray), 80) := by kernel_rfl
theorem info16 : (Tryz.prog.info? 217).map (fun i => (i.zero, i.size)) = some (some (.agg (i32s (z32 16)).toArray), 16) := by kernel_rfl
theorem info5 : (Tryz.prog.info? 137).map (fun i => (i.zero, i.size)) = some (some (.agg (i32s (z32 5)).toArray), 5) := by kernel_rfl
theorem infoF5 : (Tryz.prog.info? 174).map (fun i => (i.zero, i.size)) = some (some (.agg (i32s (z32 5)).toArray), 5) := by kernel_rfl
theorem info20 : (Tryz.prog.info? 50).map (fun i => (i.zero, i.size)) = some (some (.agg (u8s (z8 20)).toArray), 20) := by kernel_rfl
theorem infoB64 : (Tryz.prog.info? 175).map (fun i => (i.zero, i.size)) = some (some (.agg (u8s (z8 64)).toArray), 64) := by kernel_rfl

/-! A region that draws its order, by what holds of every world until its last operation. -/
section
variable {P : Program} {ops : Array Oper} {Q : Exit → Act → World → Prop} {md : Region.Mode} {S : World → Prop} {n : Nat}
def wpAnyT (P : Program) (md : Region.Mode) (ops : Array Oper) (Q : Exit → Act → World → Prop) (S : World → Prop) (n : Nat) : Nat → Array Bool → Act → World → Prop
  | 0, listed, a, w => Region.ready md ops listed = [] ∧ Q .normal a w
  | fuel + 1, listed, a, w =>
    (Region.ready md ops listed = [] → Q .normal a w) ∧
    ∀ i ∈ Region.ready md ops listed, wpOp P ops Q i (fun a' w' => ((listed.setIfInBounds i true).getD n true = false → S w') ∧ wpAnyT P md ops Q S n fuel (listed.setIfInBounds i true) a' w') a w

theorem wpAny_of_tail : ∀ (fuel : Nat) (listed : Array Bool) (a : Act) (w : World), wpAnyT P md ops Q S n fuel listed a w → wpAny P md ops Q fuel listed a w
  | 0, _, _, _, h => h
  | fuel + 1, _, _, _, h => ⟨h.1, fun i hi => wpOp_mono (fun a' w' h' => wpAny_of_tail fuel _ a' w' h'.2) (h.2 i hi)⟩

theorem wpAnyT_first {i : Nat} {oi : Oper} {v : Value} (hi : ops[i]? = some oi) (hsel : ∀ (j : Nat) (o : Oper) cs b, ops[j]? = some o → o.op ≠ .select cs b)
    (hQ : ∀ c a w, Q (.panic c) (a.put oi.dst v) w → Q (.panic c) a w) :
    ∀ (fuel : Nat) (listed : Array Bool) (a : Act) (w : World),
      (∀ j oj, ops[j]? = some oj → j ≠ i → listed.getD j true = false → (∀ e ∈ oj.after, Region.binds md e = true → e.on ≠ i) → oi.apart ops oj = true) →
      i ∈ Region.ready md ops listed → Region.waitsFor md ops n i = true → i ≠ n → listed.getD n true = false → YieldsIf P ops S oi v a → S w →
      wpAnyT P md ops Q S n fuel (listed.setIfInBounds i true) (a.put oi.dst v) w → wpAnyT P md ops Q S n (fuel + 1) listed a w := by
  intro fuel
  induction fuel with
  | zero =>
    intro listed a w _ hr hwt hin hnl hy hS H
    refine ⟨fun h => (by rw [h] at hr; cases hr), fun j hj => ?_⟩
    by_cases hji : j = i
    · subst hji; exact hy.wpOp hi hS ⟨fun _ => hS, H⟩
    · have := ready_mono hj hji
      rw [H.1] at this
      cases this
  | succ fuel ih =>
    intro listed a w hfree hr hwt hin hnl hy hS H
    refine ⟨fun h => (by rw [h] at hr; cases hr), fun j hj => ?_⟩
    by_cases hji : j = i
    · subst hji; exact hy.wpOp hi hS ⟨fun _ => hS, H⟩
    · have h1 := H.2 j (ready_mono hj hji)
      obtain ⟨hjun, oj, hoj, hall⟩ := mem_ready.1 hj
      have hnot : ∀ e ∈ oj.after, Region.binds md e = true → e.on ≠ i := fun e he hb heq => by
        have h1 := hall e he hb
        have h0 := (mem_ready.1 hr).1
        rw [heq] at h1
        rcases Nat.lt_or_ge i listed.size with h' | h'
        · simp [h'] at h0 h1; rw [h0] at h1; cases h1
        · simp [Array.getElem?_eq_none h'] at h1
      have h2 := wpOp_putIf hoj (hfree j oj hoj hji hjun hnot) (fun cs b => hsel i oi cs b hi) (fun cs b => hsel j oj cs b hoj) hQ hy h1
      have hfree' : ∀ k ok, ops[k]? = some ok → k ≠ i → (listed.setIfInBounds j true).getD k true = false →
          (∀ e ∈ ok.after, Region.binds md e = true → e.on ≠ i) → oi.apart ops ok = true := fun k ok hk hki hun hno => by
        refine hfree k ok hk hki ?_ hno
        by_cases hjk : j = k
        · subst hjk; exact hjun
        · rw [getD_set_ne true hjk] at hun; exact hun
      have hrj : i ∈ Region.ready md ops (listed.setIfInBounds j true) := ready_mono hr (Ne.symm hji)
      have hjn : j ≠ n := fun e => by
        subst e
        obtain ⟨oj', hoj', e, he, hb, heq⟩ := Region.waitsFor_spec hwt
        rw [hoj] at hoj'
        obtain rfl := Option.some.inj hoj'
        exact hnot e he hb heq
      have e1 : ((listed.setIfInBounds i true).setIfInBounds j true).getD n true = false := by
        rw [getD_set_ne true hjn, getD_set_ne true hin]; exact hnl
      have e2 : (listed.setIfInBounds j true).getD n true = false := by rw [getD_set_ne true hjn]; exact hnl
      refine wpOp_mono (fun a' w' h3 => ?_) h2
      obtain ⟨hya, hS', hH⟩ := h3
      refine ⟨fun _ => hS' e1, ih (listed.setIfInBounds j true) a' w' hfree' hrj hwt hin e2 hya (hS' e1) ?_⟩
      rw [Array.setIfInBounds_comm _ _ hji]
      exact hH

theorem wpAnyT_take {i : Nat} {oi : Oper} {v : Value} {fuel : Nat} {listed : Array Bool} {a : Act} {w : World} (hi : ops[i]? = some oi)
    (hs : Region.noSelect ops = true) (hf : Region.free md ops listed i = true) (hr : (Region.ready md ops listed).contains i = true)
    (hwt : Region.waitsFor md ops n i = true) (hin : (i == n) = false) (hnl : listed.getD n true = false)
    (hQ : ∀ c a w, Q (.panic c) (a.put oi.dst v) w → Q (.panic c) a w) (hy : YieldsIf P ops S oi v a) (hS : S w)
    (h : wpAnyT P md ops Q S n fuel (listed.setIfInBounds i true) (a.put oi.dst v) w) : wpAnyT P md ops Q S n (fuel + 1) listed a w :=
  wpAnyT_first hi (Region.noSelect_spec hs) hQ fuel listed a w (Region.free_spec hi hf) (by simpa using hr) hwt (by simpa using hin) hnl hy hS h
/-- The one that comes up. -/
theorem wpAnyT_op {i : Nat} {o : Oper} {fuel : Nat} {listed : Array Bool} {a : Act} {w : World} (hr : Region.ready md ops listed = [i]) (hi : ops[i]? = some o) (hw : Region.wanted o (yielded ops a.tmps) = true)
    (h : ∀ K : Act → World → Prop, (∀ a' w', ((listed.setIfInBounds i true).getD n true = false → S w') → wpAnyT P md ops Q S n fuel (listed.setIfInBounds i true) a' w' → K a' w') → o.wp P a w K Q) : wpAnyT P md ops Q S n (fuel + 1) listed a w := by
  refine ⟨fun h0 => (by rw [hr] at h0; cases h0), fun j hj => ?_⟩
  rw [hr] at hj
  obtain rfl := List.mem_singleton.1 hj
  unfold wpOp
  simp only [hi, hw, if_true]
  exact .inl (h _ fun a' w' h1 h2 => ⟨h1, h2⟩)
theorem wpAnyT_last {i : Nat} {o : Oper} {fuel : Nat} {listed : Array Bool} {a : Act} {w : World} (hr : Region.ready md ops listed = [i]) (hi : ops[i]? = some o) (hw : Region.wanted o (yielded ops a.tmps) = true)
    (he : (listed.setIfInBounds i true).getD n true = true) (hd : Region.ready md ops (listed.setIfInBounds i true) = [])
    (h : ∀ K : Act → World → Prop, (∀ a' w', Q .normal a' w' → K a' w') → o.wp P a w K Q) : wpAnyT P md ops Q S n (fuel + 1) listed a w :=
  wpAnyT_op hr hi hw fun K hK => h K fun a' w' hq => hK a' w' (fun h0 => absurd (he.symm.trans h0) (by decide)) (by
    cases fuel with
    | zero => exact ⟨hd, hq⟩
    | succ f => exact ⟨fun _ => hq, by rw [hd]; simp⟩)
theorem wp_region_tail {id : Nat} {a : Act} {w : World} (S : World → Prop) (n : Nat) (hm : P.follows .mixedOrders = true)
    (h : wpAnyT P .any ops Q S n ops.size (Array.replicate ops.size false) a w.drew) : (Code.region id ops true).wp P Q a w :=
  wp_region_any hm (wpAny_of_tail _ _ _ _ h)
end

section laws
variable {P : Program}
/-- 'copy' into a block that is known whole. -/
theorem wp_copy {op : Oper} {a : Act} {w : World} {K : Act → World → Prop} {Q : Exit → Act → World → Prop} (d s : Operand) (dT sT : TypeId)
    (ho : op.op = .call { callee := .builtin .copy, args := #[d, s], argTypes := #[dT, sT] }) (elem : TypeId) (hu : P.underlying dT = some (.slice elem)) (hsz : (P.info? elem).map (·.size) = some 1)
    (g off dLen dCap : Nat) (ad : Addr) (sLen sCap : Nat) (hd : a.eval d = .slice (some ⟨g, off, none⟩) dLen dCap) (hs : a.eval s = .slice (some ad) sLen sCap)
    {t : TypeId} {cur : List Value} (hg : CB w t g cur) (cs : List Value) (hn : cs.length = Nat.min sLen dLen)
    (hsrc : ∀ j v, cs[j]? = some v → w.cell? (ad.add j) = some v) (hfit : off + cs.length ≤ cur.length) (h1 : ∀ v ∈ cs, v.oneCell' = true)
    (h : ∀ w', CB w' t g (splice cur off cs) → Chg (fun k => k = g) w w' → w'.heap.size = w.heap.size → K (a.put op.dst (goInt cs.length)) w') : op.wp P a w K Q := by
  have hrun := run_copy_row (P := P) w dT sT op.type elem g off dLen dCap ad sLen sCap cur.toArray t cs hu hsz hg hn hsrc (by simpa using hfit) h1
  have hk := h (w.setRow g (splice cur off cs).toArray) (setRow_heap w g _ _ t (0, 0) hg) ⟨rfl, rfl, rfl, by simp, fun k _ hk => setRow_other w g k _ hk⟩ (by simp)
  unfold Oper.wp
  simp [execOp, ho, resolve, invoke, builtin, hd, hs, hrun, Result.andThen]
  exact hk
end laws

theorem or_join (a b k : Nat) (hk : k ≤ 32) (ha : a * 2 ^ k < 4294967296) (hb : b < 2 ^ k) : bits .or .u32 ((a * 2 ^ k : Nat) : Int) (b : Nat) = ((a * 2 ^ k + b : Nat) : Int) := by
  have h2 : (2 : Nat) ^ k ≤ 2 ^ 32 := Nat.pow_le_pow_right (by decide) hk
  rw [u32_or_nat _ _ ha (by omega), nat_join k _ _ (Nat.mul_mod_left _ _) hb]
theorem wrap_i64_nat (n : Nat) (h : n < 9223372036854775808) : IntKind.i64.wrap (n : Int) = (n : Int) := by
  simp [IntKind.wrap, IntKind.bits, IntKind.signed]; omega
theorem Chg.drawN {S : Nat → Prop} (w : World) (n : Nat) : Chg S w (w.drewN n) := ⟨rfl, rfl, rfl, Nat.le_refl _, fun _ _ _ => rfl⟩
def pw (b : List Nat) (i : Nat) : Nat → Nat
  | 0 => 0
  | m + 1 => pw b i m * 256 + b.getD (4 * i + m) 0
theorem pw_four (b : List Nat) (i : Nat) : wordI b i = (pw b i 4 : Nat) := by simp [wordI, pw]
theorem pw_lt (b : List Nat) (i : Nat) (hb : ∀ i, b.getD i 0 < 256) : ∀ m, pw b i m < 256 ^ m
  | 0 => by simp [pw]
  | m + 1 => by
    have h := pw_lt b i hb m
    have h2 := hb (4 * i + m)
    rw [pw, Nat.pow_succ]
    omega
def st16 (b : List Nat) (k : Nat) : List Int := (List.range 16).map fun i => ((pw b i (min 4 (k - 4 * i)) : Nat) : Int)
theorem st16_len (b : List Nat) (k : Nat) : (st16 b k).length = 16 := by simp [st16]
theorem st16_zero (b : List Nat) : st16 b 0 = z32 16 := by simp [st16, pw, z32, List.map_const']
theorem st16_all (b : List Nat) : st16 b 64 = words16 b := by
  unfold st16 words16
  apply List.map_congr_left
  intro i hi
  have := List.mem_range.1 hi
  rw [pw_four, show min 4 (64 - 4 * i) = 4 by omega]
theorem st16_at (b : List Nat) (k i : Nat) (h : i < 16) : (st16 b k).getD i 0 = ((pw b i (min 4 (k - 4 * i)) : Nat) : Int) := by
  simp [st16, List.getD, h]
theorem st16_next (b : List Nat) (k : Nat) (_h : k < 64) : (st16 b k).set (k / 4) ((pw b (k / 4) (k % 4) * 256 + b.getD k 0 : Nat) : Int) = st16 b (k + 1) := by
  apply List.ext_getElem (by simp [st16])
  intro i h1 h2
  simp only [st16, List.length_map, List.length_range] at h2
  rw [List.getElem_set]
  simp only [st16, List.getElem_map, List.getElem_range]
  by_cases e : k / 4 = i
  · rw [if_pos e, ← e, show min 4 (k + 1 - 4 * (k / 4)) = k % 4 + 1 by omega, pw, show 4 * (k / 4) + k % 4 = k by omega]
  · rw [if_neg e]
    congr 2
    omega
theorem getD_lt {b : List Nat} (hb : ∀ x ∈ b, x < 256) (i : Nat) : b.getD i 0 < 256 := by
  by_cases hi : i < b.length
  · rw [List.getD_eq_getElem?_getD, List.getElem?_eq_getElem hi]; exact hb _ (List.getElem_mem hi)
  · rw [List.getD_eq_getElem?_getD, List.getElem?_eq_none (by omega)]; decide

def bcells (s : S5) : List Value := (bytes20 s).map (.int .u8)
theorem bcells_len (s : S5) : (bcells s).length = 20 := by simp [bcells, bytes20]
def b20 (s : S5) (i : Nat) : List Value := (bcells s).take i ++ (u8s (z8 20)).drop i
theorem b20_all (s : S5) : b20 s 20 = bcells s := by
  unfold b20
  rw [List.take_of_length_le (by rw [bcells_len]; exact Nat.le_refl _), List.drop_of_length_le (by simp [u8s, z8]), List.append_nil]
theorem b20_at (s : S5) (i : Nat) (h : i < 20) : ∃ old, (b20 s i)[i]? = some (.int .u8 old) := by
  refine ⟨0, ?_⟩
  unfold b20
  rw [List.getElem?_append_right (by simp [bcells_len]; omega), List.length_take, bcells_len, Nat.min_eq_left (by omega), Nat.sub_self, List.getElem?_drop, Nat.add_zero, u8s, List.getElem?_map, z8, List.getElem?_replicate, if_pos h]
  rfl
theorem b20_next (s : S5) (i : Nat) (h : i < 20) : (b20 s i).set i (.int .u8 (byteI s i)) = b20 s (i + 1) := by
  unfold b20
  have hl : ((bcells s).take i).length = i := by rw [List.length_take, bcells_len]; omega
  rw [List.set_append_right _ _ (by rw [hl]; exact Nat.le_refl _), hl, Nat.sub_self]
  have e : (bcells s).take (i + 1) = (bcells s).take i ++ [.int .u8 (byteI s i)] := by
    rw [List.take_add_one, List.getElem?_eq_getElem (by rw [bcells_len]; exact h)]
    simp [bcells, bytes20]
  rw [e, List.append_assoc]
  congr 1
  rw [List.drop_eq_getElem_cons (by simp [u8s, z8]; exact h)]
  rfl

set_option maxHeartbeats 2000000 in
set_option maxRecDepth 100000 in
theorem fbytes_any (s : S5) (w : World) : Calls Tryz.prog 168 #[.agg s.cells.toArray] w fun e w' => e = .returned (.agg (bcells s).toArray) ∧ Below w.heap.size w w' := by
  have hz := (zero_of_info info20).1
  go_enter Tryz.func168, Tryz.ntmps168
  go_wp2
  have HS := Lib.hid (((CB.new w 174 s.cells).alloc (.cells (u8s (z8 20)).toArray 50)).alloc (.cells (u8s (z8 20)).toArray 50))
  have HR := Lib.hid ((cb2 w (.cells s.cells.toArray 174) 50 (u8s (z8 20))).alloc (.cells (u8s (z8 20)).toArray 50))
  have HO := Lib.hid (cb3 w (.cells s.cells.toArray 174) (.cells (u8s (z8 20)).toArray 50) 50 (u8s (z8 20)))
  have HB := Lib.hid (bl3 w (.cells s.cells.toArray 174) (.cells (u8s (z8 20)).toArray 50) (.cells (u8s (z8 20)).toArray 50))
  go_loopw [5] (fun iv wr => ∃ i : Nat, iv = .int .i64 (i : Nat) ∧ i ≤ 20 ∧ Hid (CB wr 50 (w.heap.size + 1 + 1) (b20 s i)) ∧ Hid (CB wr 50 (w.heap.size + 1) (u8s (z8 20))) ∧ Hid (CB wr 174 w.heap.size s.cells) ∧ Hid (Below w.heap.size w wr)) (fun iv _ => 20 - (intOf iv).toNat)
  case atStart => exact ⟨0, rfl, by decide, HO.out, HR.out, HS.out, HB.out⟩
  case round =>
    clear HO HR HS HB
    obtain ⟨i, rfl, hi, HO, HR, HS, HB⟩ := hrel
    by_cases h20 : i < 20
    · obtain ⟨q, hq⟩ : ∃ q, q = i / 4 := ⟨_, rfl⟩
      obtain ⟨r, hr⟩ : ∃ r, r = i % 4 := ⟨_, rfl⟩
      obtain ⟨m, hm⟩ : ∃ m, m = 24 - 8 * r := ⟨_, rfl⟩
      have e1 : (i : Int).tdiv 4 = (q : Int) := by rw [Int.tdiv_eq_ediv_of_nonneg (by omega)]; omega
      have e2 : (i : Int).tmod 4 = (r : Int) := by rw [Int.tmod_eq_emod_of_nonneg (by omega)]; omega
      have e3 : (24 : Int) - (r : Int) * 8 = (m : Int) := by omega
      have e4 : (24 : Int) - 8 * (r : Int) = (m : Int) := by omega
      have hq5 : q < 5 := by omega
      have hm32 : m < 32 := by omega
      have hr4 : r < 4 := by omega
      have c1 : wr.cell? ⟨w.heap.size, q, none⟩ = some (.int .u32 (s.at q)) := by rw [HS.out.cell, cells_at _ _ hq5]
      have HX : Hid (byteI s i = s.at q / 2 ^ m % 256) := by show _ = _; rw [byteI, hq, hm, hr]
      have f0 := HO.out.free i
      obtain ⟨old, c0⟩ : ∃ old, wr.cell? ⟨(w.heap.size + 1 + 1), i, none⟩ = some (.int .u8 old) := by rw [HO.out.cell]; exact b20_at _ _ h20
      have HN := Lib.hid (b20_next s i h20)
      generalize s.at q = xq at *
      have hgs : w.heap.size ≠ (w.heap.size + 1 + 1) := by omega
      have hgr : (w.heap.size + 1) ≠ (w.heap.size + 1 + 1) := by omega
      clear hq hr hm
      go_wp2
      go_roundw
      case rel =>
        refine ⟨i + 1, by go_num, by omega, ?_, HR.out.other ⟨(w.heap.size + 1 + 1), i, none⟩ (fun e => hgr e.symm) _, HS.out.other ⟨(w.heap.size + 1 + 1), i, none⟩ (fun e => hgs e.symm) _, HB.out.setCell (p := ⟨(w.heap.size + 1 + 1), i, none⟩) (by show _ ≤ (w.heap.size + 1 + 1); omega) _⟩
        rw [← HN.out, HX.out]
        exact HO.out.set i _
      case measure => simp [intOf]; omega
    · have hi20 : i = 20 := by omega
      have hq : decide ((i : Int) < 20) = false := by rw [decide_eq_false_iff_not]; omega
      rw [hi20, b20_all] at HO
      clear hi20
      have hL : (bcells s).length = 20 := by simp [bcells, bytes20]
      have h1c : ∀ v ∈ bcells s, v.oneCell' = true := by
        intro v hv; obtain ⟨x, _, rfl⟩ := List.mem_map.1 hv; rfl
      obtain ⟨G, hG⟩ : ∃ G, G = bcells s := ⟨_, rfl⟩
      rw [← hG] at HO hL h1c
      have HG := Lib.hid hG
      clear hG
      go_upto_region 7 with fail
      refine wp_region_lit ?_
      refine wpList_plain rfl fun K1 hK1 => wp_loadc 50 (.tmp 3) rfl ((w.heap.size + 1 + 1)) 0 20 rfl HO.out _ Tryz.underlying50 rfl (zero_of_info info20).2 (by omega) G (by rw [List.drop_zero]; exact List.take_of_length_le (by omega)) (hK1 _ _ ?_)
      clear hK1 K1
      refine wpList_plain rfl fun K1 hK1 => wp_storec 50 (.tmp 2) (.tmp 21) rfl ((w.heap.size + 1)) 0 20 rfl G rfl hL HR.out (zero_of_info info20).2 (by simp [u8s, z8]) h1c fun w' hc hch hsz => hK1 _ _ ?_
      clear hK1 K1
      rw [splice_all (by rw [hL]; simp [u8s, z8])] at hc
      go_wp2
      refine bodyPost_ret (ret_row rfl rfl hc _ Tryz.underlying50 rfl (by rw [(zero_of_info info20).2, hL])) rfl ⟨by rw [HG.out], ?_⟩
      exact HB.out.trans (hch.below HB.out.size (fun k hk => by omega))
end Go.Proofs.YtaookoejdnkkoaaGreatDoor
