import Derived.Test.YtaookoejdnkkoaaGreatDoorKOpK
import Derived.Test.YtaookoejdnkkoaaGreatDoorKF2
import Derived.Deep.RegionHeld3
namespace Go.Proofs.YtaookoejdnkkoaaGreatDoor
open Go.ChangeShapes Go.WideShapes Go.ChangeAt Go.RowKit

theorem trod_float {H : Type} {enc : TypeId × Value → H} {P : Program} {w : World} {base : Nat} {spare : Nat → Bool} {held : Bool} {fuel : Nat} {t : TypeId} {cs : List Value} {x : DataW H × List MemPlace} {k : FloatKind} (ht : P.underlying t = some (.float k)) (h : DataW.trod enc P w base spare held fuel t cs = some x) : ∃ n, cs = [.float k n] ∧ x = (.lit (.float k n), []) := by
  cases fuel with
  | zero => simp [DataW.trod] at h
  | succ n =>
    unfold DataW.trod at h
    rw [ht] at h
    split at h <;> simp_all
theorem cF : Tryz.prog.cellsOf 233 = 1 := by kernel_rfl
theorem cA6 : Tryz.prog.cellsOf 248 = 6 := by kernel_rfl
set_option maxRecDepth 100000 in
/-- A row of six floats. -/
theorem row6 {w : World} {f : Nat} {cs : List Value} {a b c d e g : Nat} {p : List MemPlace} (h : DataW.trod (fun _ => ()) Tryz.prog w 0 (fun _ => true) false f 248 cs = some (.agg [.lit (.float .f64 a), .lit (.float .f64 b), .lit (.float .f64 c), .lit (.float .f64 d), .lit (.float .f64 e), .lit (.float .f64 g)], p)) :
    cs = [.float .f64 a, .float .f64 b, .float .f64 c, .float .f64 d, .float .f64 e, .float .f64 g] := by
  obtain ⟨xs, m, rfl, hx, hl, hn, hel⟩ := DataW.trod_array Tryz.underlying248 h
  rw [cA6] at hl
  rw [cF] at hel
  match cs, hl, xs, hn with
  | [v0, v1, v2, v3, v4, v5], _, [x0, x1, x2, x3, x4, x5], _ =>
    simp only [Prod.mk.injEq, DataW.agg.injEq, List.map_cons, List.map_nil, List.cons.injEq] at hx
    obtain ⟨k0, e0, r0⟩ := trod_float Tryz.underlying233 (show DataW.trod _ Tryz.prog w 0 _ false m 233 [v0] = some x0 from hel 0 (by decide))
    obtain ⟨k1, e1, r1⟩ := trod_float Tryz.underlying233 (show DataW.trod _ Tryz.prog w 0 _ false m 233 [v1] = some x1 from hel 1 (by decide))
    obtain ⟨k2, e2, r2⟩ := trod_float Tryz.underlying233 (show DataW.trod _ Tryz.prog w 0 _ false m 233 [v2] = some x2 from hel 2 (by decide))
    obtain ⟨k3, e3, r3⟩ := trod_float Tryz.underlying233 (show DataW.trod _ Tryz.prog w 0 _ false m 233 [v3] = some x3 from hel 3 (by decide))
    obtain ⟨k4, e4, r4⟩ := trod_float Tryz.underlying233 (show DataW.trod _ Tryz.prog w 0 _ false m 233 [v4] = some x4 from hel 4 (by decide))
    obtain ⟨k5, e5, r5⟩ := trod_float Tryz.underlying233 (show DataW.trod _ Tryz.prog w 0 _ false m 233 [v5] = some x5 from hel 5 (by decide))
    rw [r0, r1, r2, r3, r4, r5] at hx
    simp at hx e0 e1 e2 e3 e4 e5
    obtain ⟨⟨rfl, rfl, rfl, rfl, rfl, rfl⟩, _⟩ := hx
    rw [e0, e1, e2, e3, e4, e5]
set_option maxRecDepth 100000 in
theorem trig_of {w : World} {l : List (String × DataW Unit)} {ps : List MemPlace} (h : DataW.LaidVars Tryz.prog w l ps) (hs : ("math._sin", (Rows.laid_math_sin : DataW Unit)) ∈ l) (hc : ("math._cos", (Rows.laid_math_cos : DataW Unit)) ∈ l) : Trig w := by
  obtain ⟨gp, tP, csp, fp, pp, h1, h2, h3, h4⟩ := laid_mem h _ _ hs
  obtain ⟨go, tO, cso, fo, po, k1, k2, k3, k4⟩ := laid_mem h _ _ hc
  obtain rfl := Option.some.inj ((show Tryz.prog.globalNamed "math._sin" = some 10 by kernel_rfl).symm.trans h1)
  obtain rfl := Option.some.inj ((show Tryz.prog.globalNamed "math._cos" = some 9 by kernel_rfl).symm.trans k1)
  obtain rfl := Option.some.inj ((show (Tryz.prog.globals[10]?).map (·.type) = some 248 by kernel_rfl).symm.trans h2)
  obtain rfl := Option.some.inj ((show (Tryz.prog.globals[9]?).map (·.type) = some 248 by kernel_rfl).symm.trans k2)
  have ep := row6 h4
  have eo := row6 k4
  obtain ⟨lp⟩ := csp
  obtain ⟨lo⟩ := cso
  have ep : lp = _ := ep
  have eo : lo = _ := eo
  subst ep eo
  intro i hi
  rw [World.var?_cell h1 h3, World.var?_cell k1 k3]
  have hi : i = 0 ∨ i = 1 ∨ i = 2 ∨ i = 3 ∨ i = 4 ∨ i = 5 := by omega
  rcases hi with rfl | rfl | rfl | rfl | rfl | rfl <;> exact ⟨rfl, rfl⟩
end Go.Proofs.YtaookoejdnkkoaaGreatDoor
