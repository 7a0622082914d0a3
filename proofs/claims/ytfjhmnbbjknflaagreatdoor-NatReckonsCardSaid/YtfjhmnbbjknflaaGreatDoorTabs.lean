import Derived.Test.YtfjhmnbbjknflaaGreatDoorOpen
import Derived.Test.YtfjhmnbbjknflaaGreatDoorWa
namespace Go.Proofs.YtfjhmnbbjknflaaGreatDoor
open Go.ChangeShapes Go.WideShapes Go.ChangeAt Go.RowKit

theorem laid_step {w : World} {n : String} {d : DataW Unit} {rest : List (String × DataW Unit)} {ps : List MemPlace} (h : DataW.LaidVars Tryz.prog w ((n, d) :: rest) ps) :
    (∃ g t cs f p, Tryz.prog.globalNamed n = some g ∧ (Tryz.prog.globals[g]?).map (·.type) = some t ∧ w.var? Tryz.prog n = some cs ∧ DataW.trod (fun _ => ()) Tryz.prog w 0 (fun _ => true) false f t cs.toList = some (d, p)) ∧ ∃ qs, DataW.LaidVars Tryz.prog w rest qs := by
  obtain ⟨g, t, cs, f, p, q, hg, ht, hv, hd, hr, _⟩ := h
  exact ⟨⟨g, t, cs, f, p, hg, ht, hv, hd⟩, q, hr⟩
theorem c3 : Tryz.prog.cellsOf 3 = 1 := by kernel_rfl
theorem cA3 : Tryz.prog.cellsOf 68 = 3 := by kernel_rfl
set_option maxRecDepth 100000 in
/-- A row of three. -/
theorem row3 {w : World} {f : Nat} {cs : List Value} {a b c : Int} {p : List MemPlace} (h : DataW.trod (fun _ => ()) Tryz.prog w 0 (fun _ => true) false f 68 cs = some (.agg [.lit (.int .i64 a), .lit (.int .i64 b), .lit (.int .i64 c)], p)) :
    cs = [.int .i64 a, .int .i64 b, .int .i64 c] := by
  obtain ⟨xs, m, rfl, hx, hl, hn, hel⟩ := DataW.trod_array Tryz.underlying68 h
  rw [cA3] at hl
  rw [c3] at hel
  match cs, hl, xs, hn with
  | [v0, v1, v2], _, [x0, x1, x2], _ =>
    simp only [Prod.mk.injEq, DataW.agg.injEq, List.map_cons, List.map_nil, List.cons.injEq] at hx
    obtain ⟨k0, e0, r0, _⟩ := DataW.trod_int Tryz.underlying3 (show DataW.trod _ Tryz.prog w 0 _ false m 3 [v0] = some x0 from hel 0 (by decide))
    obtain ⟨k1, e1, r1, _⟩ := DataW.trod_int Tryz.underlying3 (show DataW.trod _ Tryz.prog w 0 _ false m 3 [v1] = some x1 from hel 1 (by decide))
    obtain ⟨k2, e2, r2, _⟩ := DataW.trod_int Tryz.underlying3 (show DataW.trod _ Tryz.prog w 0 _ false m 3 [v2] = some x2 from hel 2 (by decide))
    rw [r0, r1, r2] at hx
    simp at hx e0 e1 e2
    obtain ⟨⟨rfl, rfl, rfl⟩, _⟩ := hx
    rw [e0, e1, e2]
set_option maxRecDepth 100000 in
theorem tab33 {w : World} {f : Nat} {cs : List Value} {a b c d e g h i j : Int} {p : List MemPlace} (hh : DataW.trod (fun _ => ()) Tryz.prog w 0 (fun _ => true) false f 69 cs = some (.agg [.agg [.lit (.int .i64 a), .lit (.int .i64 b), .lit (.int .i64 c)], .agg [.lit (.int .i64 d), .lit (.int .i64 e), .lit (.int .i64 g)], .agg [.lit (.int .i64 h), .lit (.int .i64 i), .lit (.int .i64 j)]], p)) :
    cs = [.int .i64 a, .int .i64 b, .int .i64 c, .int .i64 d, .int .i64 e, .int .i64 g, .int .i64 h, .int .i64 i, .int .i64 j] := by
  obtain ⟨xs, m, rfl, hx, hl, hn, hel⟩ := DataW.trod_array Tryz.underlying69 hh
  rw [show Tryz.prog.cellsOf 69 = 9 by kernel_rfl] at hl
  rw [cA3] at hel
  match cs, hl, xs, hn with
  | [v0, v1, v2, v3, v4, v5, v6, v7, v8], _, [x0, x1, x2], _ =>
    simp only [Prod.mk.injEq, DataW.agg.injEq, List.map_cons, List.map_nil, List.cons.injEq] at hx
    obtain ⟨⟨y0, y1, y2, _⟩, _⟩ := hx
    have h0 := row3 (p := x0.2) ((show DataW.trod _ Tryz.prog w 0 _ false m 68 [v0, v1, v2] = some x0 from hel 0 (by decide)).trans (by rw [y0]))
    have h1 := row3 (p := x1.2) ((show DataW.trod _ Tryz.prog w 0 _ false m 68 [v3, v4, v5] = some x1 from hel 1 (by decide)).trans (by rw [y1]))
    have h2 := row3 (p := x2.2) ((show DataW.trod _ Tryz.prog w 0 _ false m 68 [v6, v7, v8] = some x2 from hel 2 (by decide)).trans (by rw [y2]))
    simp only [List.cons.injEq, and_true] at h0 h1 h2
    obtain ⟨rfl, rfl, rfl⟩ := h0
    obtain ⟨rfl, rfl, rfl⟩ := h1
    obtain ⟨rfl, rfl, rfl⟩ := h2
    rfl
theorem tabs_of {w : World} {fp fo : Nat} {csp cso : Array Value} {tP tO : TypeId} {pp po : List MemPlace} {gp go : Nat}
    (h1 : Tryz.prog.globalNamed "vouch/whole.products" = some gp) (h2 : (Tryz.prog.globals[gp]?).map (·.type) = some tP) (h3 : w.var? Tryz.prog "vouch/whole.products" = some csp)
    (h4 : DataW.trod (fun _ => ()) Tryz.prog w 0 (fun _ => true) false fp tP csp.toList = some (.agg [.agg [.lit (.int .i64 1), .lit (.int .i64 0), .lit (.int .i64 (-1))], .agg [.lit (.int .i64 0), .lit (.int .i64 0), .lit (.int .i64 0)], .agg [.lit (.int .i64 (-1)), .lit (.int .i64 0), .lit (.int .i64 1)]], pp))
    (k1 : Tryz.prog.globalNamed "vouch/whole.orders" = some go) (k2 : (Tryz.prog.globals[go]?).map (·.type) = some tO) (k3 : w.var? Tryz.prog "vouch/whole.orders" = some cso)
    (k4 : DataW.trod (fun _ => ()) Tryz.prog w 0 (fun _ => true) false fo tO cso.toList = some (.agg [.agg [.lit (.int .i64 0), .lit (.int .i64 (-1)), .lit (.int .i64 (-1))], .agg [.lit (.int .i64 1), .lit (.int .i64 0), .lit (.int .i64 (-1))], .agg [.lit (.int .i64 1), .lit (.int .i64 1), .lit (.int .i64 0)]], po)) : Tabs w := by
  obtain rfl := Option.some.inj ((show Tryz.prog.globalNamed "vouch/whole.products" = some 1 by kernel_rfl).symm.trans h1)
  obtain rfl := Option.some.inj ((show Tryz.prog.globalNamed "vouch/whole.orders" = some 2 by kernel_rfl).symm.trans k1)
  obtain rfl := Option.some.inj ((show (Tryz.prog.globals[1]?).map (·.type) = some 69 by kernel_rfl).symm.trans h2)
  obtain rfl := Option.some.inj ((show (Tryz.prog.globals[2]?).map (·.type) = some 69 by kernel_rfl).symm.trans k2)
  have ep := tab33 h4
  have eo := tab33 k4
  obtain ⟨lp⟩ := csp
  obtain ⟨lo⟩ := cso
  have ep : lp = _ := ep
  have eo : lo = _ := eo
  subst ep eo
  constructor
  · intro i j hi hj
    rw [World.var?_cell h1 h3]
    have hi : i = 0 ∨ i = 1 ∨ i = 2 := by omega
    have hj : j = 0 ∨ j = 1 ∨ j = 2 := by omega
    rcases hi with rfl | rfl | rfl <;> rcases hj with rfl | rfl | rfl <;> rfl
  · intro i j hi hj
    rw [World.var?_cell k1 k3]
    have hi : i = 0 ∨ i = 1 ∨ i = 2 := by omega
    have hj : j = 0 ∨ j = 1 ∨ j = 2 := by omega
    rcases hi with rfl | rfl | rfl <;> rcases hj with rfl | rfl | rfl <;> rfl
end Go.Proofs.YtfjhmnbbjknflaaGreatDoor
