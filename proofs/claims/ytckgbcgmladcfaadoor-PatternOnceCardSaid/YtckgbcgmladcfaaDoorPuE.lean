import Derived.Test.YtckgbcgmladcfaaDoorPuD
import Derived.Lib.AppendStr
namespace Go.Proofs.YtckgbcgmladcfaaDoor
open Go.RowKit

/-! The writer. -/
theorem strCells_u8s (s : ByteArray) : Lib.strCells s = u8s (bsN s) := by simp [Lib.strCells, u8s, bsN]
theorem run_appT {w : World} (ty : TypeId) (base : Nat) (v : Value) (n : Nat) (xs : List Nat) (hown : w.ownsRow base 5 1 v n (u8s xs)) (s : ByteArray) (hbytes : n + s.size ≤ 549755813888) (hbase : base ≤ w.heap.size) :
    ∃ v' w', (Builtin.append_ #[41, 9] ty #[v, .string s]).run Tryd.prog w = .ok v' w' ∧ w'.ownsRow base 5 1 v' (n + s.size) (u8s (xs ++ bsN s)) ∧ w.grownBy w' v.ownBlock ∧ ∀ k, v'.ownBlock = some k → v.ownBlock = some k ∨ k = w.heap.size := by
  obtain ⟨i, hi, hh⟩ := Option.map_eq_some_iff.1 info8
  simp only [Prod.mk.injEq] at hh
  obtain ⟨v', w', hr, hown', hg, h4⟩ := Lib.run_append_own_string (P := Tryd.prog) w base 41 9 ty 5 i Tryd.underlying41 Tryd.underlying9 hi hh.1 hh.2.1 hh.2.2 v n (u8s xs) hown s (by simp [maxLen]; omega) (by omega) hbase
  refine ⟨v', w', hr, ?_, hg, ?_⟩
  · rw [strCells_u8s] at hown'
    rw [show u8s (xs ++ bsN s) = u8s xs ++ u8s (bsN s) by simp [u8s]]
    exact hown'
  rcases hown.2 with ⟨rfl, rfl⟩ | ⟨g, cap, cur, rfl, hbg, hgg, hnc, hcm, hcs, htake⟩
  · by_cases hm : s.size = 0
    · obtain rfl := h4.2 ⟨rfl, hm⟩
      intro k hk
      cases hk
    · have hr1 := run_append_nil_string (P := Tryd.prog) w 41 9 ty 5 i (.int .u8 0) Tryd.underlying41 Tryd.underlying9 hi hh.1 s (by omega) (by omega) (by rw [hh.2.2]; omega)
      rw [hr] at hr1
      simp only [Result.ok.injEq] at hr1
      obtain ⟨rfl, rfl⟩ := hr1
      intro k hk
      simp [Value.ownBlock] at hk
      exact .inr hk.symm
  · by_cases hroom : n + s.size ≤ cap
    · have hr1 := Lib.run_append_room_string (P := Tryd.prog) w 41 9 ty 5 i Tryd.underlying41 Tryd.underlying9 hi hh.2.1 g n cap cur hgg s hroom (by omega)
      rw [hr] at hr1
      simp only [Result.ok.injEq] at hr1
      obtain ⟨rfl, rfl⟩ := hr1
      exact fun k hk => .inl hk
    · have hr1 := Lib.run_append_grow_string (P := Tryd.prog) w 41 9 ty 5 i (.int .u8 0) Tryd.underlying41 Tryd.underlying9 hi hh.1 ⟨g, 0, none⟩ n cap (u8s xs) (by rw [hh.2.1]; exact hown.1) (hown.cells (g := g) rfl) s (by omega) (by omega) (by rw [hh.2.2]; exact growslice_fits (by omega) (by omega))
      rw [hr] at hr1
      simp only [Result.ok.injEq] at hr1
      obtain ⟨rfl, rfl⟩ := hr1
      intro k hk
      simp [Value.ownBlock] at hk
      exact .inr hk.symm
theorem wpl_appT {ops : Array Oper} {rest : List Oper} {o : Oper} {a : Act} {w : World} {Q : Exit → Act → World → Prop} (hgd : o.guard = none) (sl x : Operand)
    (ho : o.op = .call { callee := .builtin .append, args := #[sl, x], argTypes := #[41, 9] })
    (base : Nat) (v : Value) (n : Nat) (xs : List Nat) (hs : a.eval sl = v) (hown : w.ownsRow base 5 1 v n (u8s xs)) (s : ByteArray) (hx : a.eval x = .string s)
    (hbytes : n + s.size ≤ 549755813888) (hbase : base ≤ w.heap.size)
    (h : ∀ v' w', w'.ownsRow base 5 1 v' (n + s.size) (u8s (xs ++ bsN s)) → w.grownBy w' v.ownBlock → Hid (∀ k, v'.ownBlock = some k → v.ownBlock = some k ∨ k = w.heap.size) → wpList Tryd.prog ops Q rest (a.put o.dst v') w') : wpList Tryd.prog ops Q (o :: rest) a w := by
  refine wpList_plain hgd fun K hK => ?_
  obtain ⟨v', w', hr, h2, h3, h4⟩ := run_appT o.type base v n xs hown s hbytes hbase
  unfold Oper.wp execOp
  simp only [ho, resolve, invoke, builtin, Sem.run_bind, Sem.run_pure, Result.andThen_ok, List.map_toArray, List.map_cons, List.map_nil, hs, hx, hr]
  exact hK _ _ (h v' w' h2 h3 h4)
/-- What the writer holds, taken apart. -/
structure WC (w : World) (wb : Nat) (l : List Nat) (o d : Nat) (v : Value) : Prop where
  b8 : B8 l
  box : CB w 43 wb [v, .int .i64 (o : Nat), .int .i64 (d : Nat)]
  row : w.ownsRow (wb + 1) 5 1 v l.length (u8s l)
theorem WC.below {w w' : World} {wb : Nat} {l : List Nat} {o d : Nat} {v : Value} (h : WC w wb l o d v) (hb : Below w.heap.size w w') : WC w' wb l o d v :=
  ⟨h.b8, CB.below h.box hb, (Chg.of_below hb).owns h.row fun k hk => by have := World.ownsRow.lt h.row k hk; omega⟩
theorem WC.cells {w : World} {wb : Nat} {l : List Nat} {o d : Nat} {v : Value} (h : WC w wb l o d v) :
    (w.cell? ⟨wb, 0, none⟩ = some v ∧ w.cell? ⟨wb, 1, none⟩ = some (.int .i64 (o : Nat)) ∧ w.cell? ⟨wb, 2, none⟩ = some (.int .i64 (d : Nat))) ∧ w.frozen? ⟨wb, 0, none⟩ = false ∧ w.frozen? ⟨wb, 1, none⟩ = false ∧ w.frozen? ⟨wb, 2, none⟩ = false :=
  ⟨⟨CB.cell h.box 0, CB.cell h.box 1, CB.cell h.box 2⟩, CB.free h.box 0, CB.free h.box 1, CB.free h.box 2⟩
theorem WC.lt {w : World} {wb : Nat} {l : List Nat} {o d : Nat} {v : Value} (h : WC w wb l o d v) : wb + 1 ≤ w.heap.size := CB.lt h.box
theorem WC.grown {w w1 : World} {wb : Nat} {l : List Nat} {o d : Nat} {v : Value} (h : WC w wb l o d v) (hg : w.grownBy w1 v.ownBlock) : CB w1 43 wb [v, .int .i64 (o : Nat), .int .i64 (d : Nat)] :=
  CB.chg h.box (Chg.of_grown hg) fun e => by have := World.ownsRow.lt h.row wb e.symm; omega
theorem WC.g0 {w w1 : World} {wb : Nat} {l : List Nat} {o d : Nat} {v : Value} (h : WC w wb l o d v) (hg : w.grownBy w1 v.ownBlock) : w1.cell? ⟨wb, 0, none⟩ = some v ∧ w1.frozen? ⟨wb, 0, none⟩ = false := ⟨CB.cell (h.grown hg) 0, CB.free (h.grown hg) 0⟩
/-- The writer has gone on from a text: its box and its row alone have turned. -/
structure WS (w0 w : World) (wb : Nat) (v0 : Value) (l : List Nat) (o d : Nat) (v : Value) : Prop where
  at_ : WC w wb l o d v
  chg : Chg (fun k => k = wb ∨ v0.ownBlock = some k) w0 w
  own : ∀ k, v.ownBlock = some k → v0.ownBlock = some k ∨ w0.heap.size ≤ k
theorem WS.refl {w : World} {wb : Nat} {l : List Nat} {o d : Nat} {v : Value} (h : WC w wb l o d v) : WS w w wb v l o d v := ⟨h, Chg.refl _ _, fun _ hk => .inl hk⟩
theorem WS.trans {a b c : World} {wb : Nat} {v0 v1 v2 : Value} {l m : List Nat} {o d o' d' : Nat} (h : WS a b wb v0 l o d v1) (k : WS b c wb v1 m o' d' v2) : WS a c wb v0 m o' d' v2 :=
  ⟨k.at_, h.chg.step k.chg fun i hi hlt => hi.imp id fun e => (h.own i e).resolve_right (by omega), fun i hi => (k.own i hi).elim (h.own i) fun e => .inr (Nat.le_trans h.chg.size e)⟩
theorem WS.below {a b c : World} {wb : Nat} {v0 v1 : Value} {l : List Nat} {o d : Nat} (h : WS a b wb v0 l o d v1) (hb : Below b.heap.size b c) : WS a c wb v0 l o d v1 :=
  ⟨h.at_.below hb, h.chg.step (Chg.of_below hb) fun i hi hlt => by have := h.chg.size; omega, h.own⟩
theorem WS.alloc {a b : World} {wb : Nat} {v0 v1 : Value} {l : List Nat} {o d : Nat} (h : WS a b wb v0 l o d v1) (x : Obj) : WS a (b.alloc x) wb v0 l o d v1 := h.below ((Below.refl _ _).alloc (Nat.le_refl _) x)
/-- What lies below the writer stays. -/
theorem WS.low {a b : World} {wb m : Nat} {v0 v1 : Value} {l k : List Nat} {o d o' d' : Nat} (h : WS a b wb v0 l o d v1) (h0 : WC a wb k o' d' v0) (hm : m ≤ wb) : Below m a b :=
  h.chg.below (by have := h0.lt; omega) fun i hi => hi.elim (fun e => by omega) fun e => by have := World.ownsRow.lt h0.row i e; omega
/-- A block of the caller's own stays. -/
theorem WS.box {a b : World} {wb g : Nat} {v0 v1 : Value} {l : List Nat} {o d : Nat} {t : TypeId} {cs : List Value} (h : WS a b wb v0 l o d v1) (hc : CB a t g cs) (h1 : g ≠ wb) (h2 : v0.ownBlock ≠ some g) : CB b t g cs :=
  CB.chg hc h.chg fun e => e.elim h1 h2
theorem WC.push {w w1 : World} {wb : Nat} {l x : List Nat} {o d n : Nat} {v v' : Value} (h : WC w wb l o d v) (hx : B8 x) (hn : x.length = n) (hown : w1.ownsRow (wb + 1) 5 1 v' (l.length + n) (u8s (l ++ x))) (hg : w.grownBy w1 v.ownBlock) (hor : ∀ k, v'.ownBlock = some k → v.ownBlock = some k ∨ k = w.heap.size) :
    WS w (w1.setCell ⟨wb, 0, none⟩ v') wb v (l ++ x) o d v' := by
  refine ⟨⟨h.b8.append hx, CB.set (h.grown hg) 0 v', ?_⟩, ((Chg.of_grown hg).mono fun i hi _ => .inr hi.symm).setCell (p := ⟨wb, 0, none⟩) (.inl rfl) _, fun k hk => (hor k hk).imp id fun e => by omega⟩
  rw [List.length_append, hn]
  exact (Chg.setCell (S := fun k => k = wb) (Chg.refl _ w1) (p := ⟨wb, 0, none⟩) rfl v').owns hown fun k hk => by have := World.ownsRow.lt hown k hk; omega
/-- The writer has written a text. -/
def Wrote (wb : Nat) (v : Value) (l : List Nat) (o d : Nat) (w : World) (e : Ending) (w' : World) : Prop := e = .returned (.tuple #[]) ∧ ∃ v', WS w w' wb v l o d v'
set_option maxHeartbeats 1000000 in
theorem p_put (wb : Nat) (s : ByteArray) (l L : List Nat) (o d : Nat) (v : Value) (w : World) (h : WC w wb l o d v) (hL : l ++ bsN s = L) (hlen : L.length ≤ 549755813888) :
    Calls Tryd.prog 19 #[.pointer (some ⟨wb, 0, none⟩), .string s] w fun e w' => Wrote wb v L o d w e w' := by
  subst hL
  have HW := Lib.hid h
  obtain ⟨⟨c0, c1, c2⟩, f0, f1, f2⟩ := h.cells
  rw [List.length_append, bsN_len] at hlen
  clear h
  go_enter Tryd.func19, Tryd.ntmps19
  go_wp2_with (at_builtin; refine wpl_appT rfl _ _ rfl (wb + 1) v l.length l rfl HW.out.row s rfl hlen HW.out.lt ?_; intro v' w1 hown hgr hor; obtain ⟨a1, c1', rfl⟩ := own_slice hown; have HG1 := Lib.hid hgr; have HO1 := Lib.hid hown; obtain ⟨y0, g0⟩ := HW.out.g0 hgr; clear hown hgr)
  exact bodyPost_end (results_none rfl _ _ _) rfl ⟨rfl, _, HW.out.push (bsN_8 s) (bsN_len s) HO1.out HG1.out hor.out⟩
end Go.Proofs.YtckgbcgmladcfaaDoor
