import Derived.Test.YthhchpmlljfpjaaGreatNfB
import Derived.Test.YthhchpmlljfpjaaGreatPtX
namespace Go.Proofs.YthhchpmlljfpjaaGreat
open Go.RowKit

variable {B : Nat}

/-! The layout: a box of states and ways. -/
def St.cells (s : St) : List Value := [.int .i64 s.k, .int .u64 (s.s.a : Nat), .int .u64 (s.s.b : Nat), .int .u64 (s.s.c : Nat), .int .u64 (s.s.d : Nat), .int .i64 s.x, .int .i64 s.y]
@[reducible] def stVal (k : Int) (s : S4) (x y : Int) : Value := .agg #[.int .i64 k, .int .u64 (s.a : Nat), .int .u64 (s.b : Nat), .int .u64 (s.c : Nat), .int .u64 (s.d : Nat), .int .i64 x, .int .i64 y]
theorem infoSt3 : (Tryz.prog.info? 48).map (fun i => (i.zero, i.size, i.bytes)) = some (some (stVal 0 .zero 0 0), 7, 56) := by kernel_rfl
theorem infoSt : (Tryz.prog.info? 48).map (·.size) = some 7 := by kernel_rfl
theorem step_appS (T E : TypeId) (hT : Tryz.prog.underlying T = some (.slice E)) {z : Value} {S bytes : Nat} (hI : (Tryz.prog.info? E).map (fun i => (i.zero, i.size, i.bytes)) = some (some z, S, bytes)) (hzs : z.cells.size = S) (hS : 0 < S) (hby : bytes ≤ 128)
    {w : World} {ops : Array Oper} {o : Oper} {a : Act} {Q : Exit → Act → World → Prop} {K : Act → World → Prop} {F : Prop} (hgd : o.guard = none) (s x : Operand)
    (ho : o.op = .call { callee := .builtin .append, args := #[s, x], argTypes := #[T, T] })
    (B : Nat) (v : Value) (n : Nat) (xs : List Value) (hs : a.eval s = v) (hown : w.ownsRow B E S v n xs) (b : Nat) (cs : List Value) (hl : cs.length = S) (hx : a.eval x = .slice (some ⟨b, 0, none⟩) 1 1)
    (hc : ∀ j u, cs[j]? = some u → w.cell? ⟨b, j, none⟩ = some u) (h1 : ∀ u ∈ cs, u.oneCell' = true) (hn : n + 1 ≤ 1099511627776) (hB : B ≤ w.heap.size)
    (h : ∀ g cap w', w'.ownsRow B E S (.slice (some ⟨g, 0, none⟩) (n + 1) cap) (n + 1) (xs ++ cs) → w.grownBy w' v.ownBlock → Hid (v.ownBlock = some g ∨ g = w.heap.size) →
      K (a.put o.dst (.slice (some ⟨g, 0, none⟩) (n + 1) cap)) w') :
    if Region.wanted o (yielded ops a.tmps) = true then Oper.wp Tryz.prog o a w K Q else F := by
  have hw : Region.wanted o (yielded ops a.tmps) = true := by simp [Region.wanted, hgd]
  rw [if_pos hw]
  obtain ⟨g, cap, w', hr, hown', hg, hBg, hlt, hor⟩ := run_appS (P := Tryz.prog) T o.type E hT hI hzs hS hby B v n xs hown b cs hl hc h1 hn hB
  unfold Oper.wp execOp
  simp only [ho, resolve, invoke, builtin, Sem.run_bind, Sem.run_pure, Result.andThen_ok, List.map_toArray, List.map_cons, List.map_nil, hs, hx, hr]
  exact h g cap w' hown' hg hor
@[reducible] def wayF (f : FuncId) : Value := .func (.func f) #[] #[]
/-- What the layout holds. -/
structure LC (B : Nat) (w : World) (lb : Nat) (L : List St) (v : Value) : Prop where
  box : CB w 70 lb [v, wayF 71, wayF 72, wayF 73, wayF 74, wayF 75, wayF 76, wayF 77]
  row : w.ownsRow B 48 7 v L.length (L.flatMap St.cells)
  ne : v.ownBlock ≠ some lb
  base : B ≤ lb
theorem stflat_len (L : List St) : (L.flatMap St.cells).length = 7 * L.length := by
  induction L with
  | nil => rfl
  | cons t ts ih => rw [List.flatMap_cons, List.length_append, ih, List.length_cons]; show 7 + _ = _; omega
theorem LC.below {w w' : World} {lb : Nat} {L : List St} {v : Value} (h : LC B w lb L v) (hb : Below w.heap.size w w') : LC B w' lb L v :=
  ⟨CB.below h.box hb, (Chg.of_below hb).ownsS h.row fun k hk => (by have := World.ownsRow.lt h.row k hk; omega), h.ne, h.base⟩
theorem LC.alloc {w : World} {lb : Nat} {L : List St} {v : Value} (h : LC B w lb L v) (o : Obj) : LC B (w.alloc o) lb L v := h.below ((Below.refl _ _).alloc (Nat.le_refl _) o)
theorem LC.lt {w : World} {lb : Nat} {L : List St} {v : Value} (h : LC B w lb L v) : lb + 1 ≤ w.heap.size := CB.lt h.box
theorem LC.cells {w : World} {lb : Nat} {L : List St} {v : Value} (h : LC B w lb L v) :
    (w.cell? ⟨lb, 0, none⟩ = some v ∧ w.cell? ⟨lb, 1, none⟩ = some (.func (.func 71) #[] #[]) ∧ w.cell? ⟨lb, 2, none⟩ = some (.func (.func 72) #[] #[]) ∧ w.cell? ⟨lb, 3, none⟩ = some (.func (.func 73) #[] #[]) ∧ w.cell? ⟨lb, 4, none⟩ = some (.func (.func 74) #[] #[]) ∧ w.cell? ⟨lb, 5, none⟩ = some (.func (.func 75) #[] #[]) ∧ w.cell? ⟨lb, 6, none⟩ = some (.func (.func 76) #[] #[]) ∧ w.cell? ⟨lb, 7, none⟩ = some (.func (.func 77) #[] #[])) ∧ w.frozen? ⟨lb, 0, none⟩ = false :=
  ⟨h.box.eight.1, CB.free h.box 0⟩
theorem LC.grown {w w1 : World} {lb : Nat} {L : List St} {v : Value} (h : LC B w lb L v) (hg : w.grownBy w1 v.ownBlock) : w1.cell? ⟨lb, 0, none⟩ = some v ∧ w1.frozen? ⟨lb, 0, none⟩ = false := by
  have := CB.chg h.box (Chg.of_grown hg) fun e => h.ne e.symm
  exact ⟨CB.cell this 0, CB.free this 0⟩
/-- The layout has gone on: its box and its row alone have turned. -/
structure LS (B : Nat) (w0 w : World) (lb : Nat) (v0 : Value) (L : List St) (v : Value) : Prop where
  at_ : LC B w lb L v
  chg : Chg (fun k => k = lb ∨ v0.ownBlock = some k) w0 w
  own : ∀ k, v.ownBlock = some k → v0.ownBlock = some k ∨ w0.heap.size ≤ k
theorem LS.refl {w : World} {lb : Nat} {L : List St} {v : Value} (h : LC B w lb L v) : LS B w w lb v L v := ⟨h, Chg.refl _ _, fun _ hk => .inl hk⟩
theorem LS.trans {a b c : World} {lb : Nat} {v0 v1 v2 : Value} {L M : List St} (h : LS B a b lb v0 L v1) (k : LS B b c lb v1 M v2) : LS B a c lb v0 M v2 :=
  ⟨k.at_, h.chg.step k.chg fun i hi hlt => hi.imp id fun e => (h.own i e).resolve_right (by omega), fun i hi => (k.own i hi).elim (h.own i) fun e => .inr (Nat.le_trans h.chg.size e)⟩
theorem LS.below {a b c : World} {lb : Nat} {v0 v1 : Value} {L : List St} (h : LS B a b lb v0 L v1) (hb : Below b.heap.size b c) : LS B a c lb v0 L v1 :=
  ⟨h.at_.below hb, h.chg.step (Chg.of_below hb) fun i hi hlt => by have := h.chg.size; omega, h.own⟩
theorem LS.alloc {a b : World} {lb : Nat} {v0 v1 : Value} {L : List St} (h : LS B a b lb v0 L v1) (x : Obj) : LS B a (b.alloc x) lb v0 L v1 := h.below ((Below.refl _ _).alloc (Nat.le_refl _) x)
theorem LS.low {a b : World} {lb m : Nat} {v0 v1 : Value} {L M : List St} (h : LS B a b lb v0 L v1) (h0 : LC B a lb M v0) (hm : m ≤ B) : Below m a b :=
  h.chg.below (by have := h0.lt; have := h0.base; omega) fun i hi => hi.elim (fun e => (by have := h0.base; omega)) fun e => by have := World.ownsRow.lt h0.row i e; omega
theorem LS.from0 {a b w0 : World} {lb : Nat} {v0 v1 : Value} {L M : List St} (h : LS B a b lb v0 L v1) (h0 : LC B a lb M v0) (hb : Below w0.heap.size w0 a) (hw : w0.heap.size ≤ B) : Below w0.heap.size w0 b :=
  hb.trans ((h.low h0 hw).mono (Nat.le_refl _))
/-- A block of the caller's own stays. -/
theorem LS.box {a b : World} {lb g : Nat} {v0 v1 : Value} {L : List St} {t : TypeId} {cs : List Value} (h : LS B a b lb v0 L v1) (hc : CB a t g cs) (h1 : g ≠ lb) (h2 : v0.ownBlock ≠ some g) : CB b t g cs :=
  CB.chg hc h.chg fun e => e.elim h1 h2
theorem LC.push {w w1 : World} {lb : Nat} {L : List St} {s : St} {v v' : Value} (h : LC B w lb L v) (hown : w1.ownsRow B 48 7 v' (L.length + 1) (L.flatMap St.cells ++ s.cells)) (hg : w.grownBy w1 v.ownBlock) (hor : ∀ k, v'.ownBlock = some k → v.ownBlock = some k ∨ k = w.heap.size) :
    LS B w (w1.setCell ⟨lb, 0, none⟩ v') lb v (L ++ [s]) v' := by
  have hb := CB.chg h.box (Chg.of_grown hg) fun e => h.ne e.symm
  have hne : v'.ownBlock ≠ some lb := fun e => (hor lb e).elim h.ne fun e2 => (by have := h.lt; omega)
  refine ⟨⟨CB.set hb 0 v', ?_, hne, h.base⟩, ((Chg.of_grown hg).mono fun i hi _ => .inr hi.symm).setCell (p := ⟨lb, 0, none⟩) (.inl rfl) _, fun k hk => (hor k hk).imp id fun e => by omega⟩
  rw [List.length_append, List.length_singleton, List.flatMap_append, List.flatMap_cons, List.flatMap_nil, List.append_nil]
  exact (Chg.setCell (S := fun k => k = lb) (Chg.refl _ w1) (p := ⟨lb, 0, none⟩) rfl v').ownsS hown fun k hk e => hne (by rw [hk, e])
/-- The layout has laid. -/
def LRet (B lb : Nat) (v : Value) (L : List St) (q : Nat) (w : World) (e : Ending) (w' : World) : Prop := e = .returned (.int .i64 (q : Nat)) ∧ ∃ v', LS B w w' lb v L v'
set_option maxHeartbeats 2000000 in
set_option maxRecDepth 100000 in
theorem p_add (lb : Nat) (L : List St) (v : Value) (w : World) (k : Int) (s : S4) (x y : Int) (h : LC B w lb L v) (hlen : L.length ≤ 1048576) :
    Calls Tryz.prog 35 #[.pointer (some ⟨lb, 0, none⟩), stVal k s x y] w fun e w' => LRet B lb v (L ++ [⟨k, s, x, y⟩]) L.length w e w' := by
  have HL := Lib.hid h
  have hlt := h.lt
  have HS0 : Hid (LS B w ((w.alloc (.cells #[.int .i64 k, .int .u64 (s.a : Nat), .int .u64 (s.b : Nat), .int .u64 (s.c : Nat), .int .u64 (s.d : Nat), .int .i64 x, .int .i64 y] 48)).alloc (.cells #[.int .i64 k, .int .u64 (s.a : Nat), .int .u64 (s.b : Nat), .int .u64 (s.c : Nat), .int .u64 (s.d : Nat), .int .i64 x, .int .i64 y] 48)) lb v L v) := ((LS.refl h).alloc _).alloc _
  have HS : Hid (LS B w ((w.alloc (.cells #[.int .i64 k, .int .u64 (s.a : Nat), .int .u64 (s.b : Nat), .int .u64 (s.c : Nat), .int .u64 (s.d : Nat), .int .i64 x, .int .i64 y] 48)).alloc (.cells #[.int .i64 k, .int .u64 (s.a : Nat), .int .u64 (s.b : Nat), .int .u64 (s.c : Nat), .int .u64 (s.d : Nat), .int .i64 x, .int .i64 y] 48)).drew lb v L v) := HS0.out.below ((Below.refl _ _).drew)
  obtain ⟨⟨c0, -⟩, f0⟩ := HS0.out.at_.cells
  obtain ⟨⟨d0, -⟩, g0⟩ := ((LS.refl h).alloc (.cells #[.int .i64 k, .int .u64 (s.a : Nat), .int .u64 (s.b : Nat), .int .u64 (s.c : Nat), .int .u64 (s.d : Nat), .int .i64 x, .int .i64 y] 48)).at_.cells
  obtain ⟨a, c, rfl⟩ := own_slice h.row
  have HN : Hid (CB ((w.alloc (.cells #[.int .i64 k, .int .u64 (s.a : Nat), .int .u64 (s.b : Nat), .int .u64 (s.c : Nat), .int .u64 (s.d : Nat), .int .i64 x, .int .i64 y] 48)).alloc (.cells #[.int .i64 k, .int .u64 (s.a : Nat), .int .u64 (s.b : Nat), .int .u64 (s.c : Nat), .int .u64 (s.d : Nat), .int .i64 x, .int .i64 y] 48)).drew 48 (w.heap.size + 1) (St.cells ⟨k, s, x, y⟩)) := CB.below (cb2 w (.cells #[.int .i64 k, .int .u64 (s.a : Nat), .int .u64 (s.b : Nat), .int .u64 (s.c : Nat), .int .u64 (s.d : Nat), .int .i64 x, .int .i64 y] 48) 48 (St.cells ⟨k, s, x, y⟩)) ((Below.refl _ _).drew)
  clear h
  go_enter Tryz.func35, Tryz.ntmps35
  go_wp2
  go_region_law ((refine step_appS 22 48 Tryz.underlying22 infoSt3 rfl (by decide) (by decide) rfl (.tmp 9) (.tmp 11) rfl B (.slice a L.length c) L.length (L.flatMap St.cells) rfl HS.out.at_.row (w.heap.size + 1) (St.cells ⟨k, s, x, y⟩) rfl rfl (fun j u hj => (CB.cell HN.out j).trans hj) (all_one (by rfl)) (by omega) (Nat.le_trans HS.out.at_.base (Nat.le_of_succ_le HS.out.at_.lt)) ?_; intro g cap w1 hown hgr hor; obtain ⟨y0, yf⟩ := HS.out.at_.grown hgr; have HO := Lib.hid hown; have HG := Lib.hid hgr; clear hown hgr))
  all_goals
    have hz := HS.out.trans (HS.out.at_.push HO.out HG.out (fun i hi => by have h9 : g = i := (by simpa [Value.ownBlock] using hi); subst h9; exact hor.out))
    have HZ := Lib.hid hz
    obtain ⟨⟨z0, -⟩, -⟩ := hz.at_.cells
    clear hz
    go_wp2
    go_ret
    exact ⟨ret_int (by omega), _, HZ.out⟩
end Go.Proofs.YthhchpmlljfpjaaGreat
