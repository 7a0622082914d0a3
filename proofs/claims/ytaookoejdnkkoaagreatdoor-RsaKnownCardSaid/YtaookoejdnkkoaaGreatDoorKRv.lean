import Derived.Test.YtaookoejdnkkoaaGreatDoorKOpK
import Derived.Test.YtaookoejdnkkoaaGreatDoorKFb
import Derived.Test.YtaookoejdnkkoaaGreatDoorKSc
import Derived.Laws.Entries
import Derived.Lib.SmallJoins
import Derived.Outline
import Derived.Shelf.RegionOpenPlain
namespace Go.Proofs.YtaookoejdnkkoaaGreatDoor
open Go.RowKit

open Go.ChangeShapes Go.WideShapes Go.ChangeAt Go.RowKit

open Go.ChangeShapes Go.WideShapes Go.ChangeAt Go.RowKit

theorem cU32 : Tryz.prog.cellsOf 136 = 1 := by kernel_rfl
theorem cF5 : Tryz.prog.cellsOf 174 = 5 := by kernel_rfl
set_option maxRecDepth 100000 in
theorem row5 {w : World} {f : Nat} {cs : List Value} {a b c d e : Int} {p : List MemPlace} (h : DataW.trod (fun _ => ()) Tryz.prog w 0 (fun _ => true) false f 174 cs = some (.agg [.lit (.int .u32 a), .lit (.int .u32 b), .lit (.int .u32 c), .lit (.int .u32 d), .lit (.int .u32 e)], p)) :
    cs = [.int .u32 a, .int .u32 b, .int .u32 c, .int .u32 d, .int .u32 e] := by
  obtain ⟨xs, m, rfl, hx, hl, hn, hel⟩ := DataW.trod_array Tryz.underlying174 h
  rw [cF5] at hl
  rw [cU32] at hel
  match cs, hl, xs, hn with
  | [v0, v1, v2, v3, v4], _, [x0, x1, x2, x3, x4], _ =>
    simp only [Prod.mk.injEq, DataW.agg.injEq, List.map_cons, List.map_nil, List.cons.injEq] at hx
    obtain ⟨k0, e0, r0, _⟩ := DataW.trod_int Tryz.underlying136 (show DataW.trod _ Tryz.prog w 0 _ false m 136 [v0] = some x0 from hel 0 (by decide))
    obtain ⟨k1, e1, r1, _⟩ := DataW.trod_int Tryz.underlying136 (show DataW.trod _ Tryz.prog w 0 _ false m 136 [v1] = some x1 from hel 1 (by decide))
    obtain ⟨k2, e2, r2, _⟩ := DataW.trod_int Tryz.underlying136 (show DataW.trod _ Tryz.prog w 0 _ false m 136 [v2] = some x2 from hel 2 (by decide))
    obtain ⟨k3, e3, r3, _⟩ := DataW.trod_int Tryz.underlying136 (show DataW.trod _ Tryz.prog w 0 _ false m 136 [v3] = some x3 from hel 3 (by decide))
    obtain ⟨k4, e4, r4, _⟩ := DataW.trod_int Tryz.underlying136 (show DataW.trod _ Tryz.prog w 0 _ false m 136 [v4] = some x4 from hel 4 (by decide))
    rw [r0, r1, r2, r3, r4] at hx
    simp at hx e0 e1 e2 e3 e4
    obtain ⟨⟨rfl, rfl, rfl, rfl, rfl⟩, _⟩ := hx
    rw [e0, e1, e2, e3, e4]
set_option maxRecDepth 100000 in
theorem five_of {w : World} {l : List (String × DataW Unit)} {ps : List MemPlace} (h : DataW.LaidVars Tryz.prog w l ps) (hs : ("vouch/sha.start", (Rows.laid_vouch_sha_start : DataW Unit)) ∈ l) : Five w := by
  obtain ⟨gp, tP, csp, fp, pp, h1, h2, h3, h4⟩ := laid_mem h _ _ hs
  obtain rfl := Option.some.inj ((show Tryz.prog.globalNamed "vouch/sha.start" = some 0 by kernel_rfl).symm.trans h1)
  obtain rfl := Option.some.inj ((show (Tryz.prog.globals[0]?).map (·.type) = some 174 by kernel_rfl).symm.trans h2)
  have ep := row5 h4
  obtain ⟨lp⟩ := csp
  have ep : lp = _ := ep
  subst ep
  intro i hi
  rw [World.var?_cell h1 h3]
  have hi : i = 0 ∨ i = 1 ∨ i = 2 ∨ i = 3 ∨ i = 4 := by omega
  rcases hi with rfl | rfl | rfl | rfl | rfl <;> rfl
end Go.Proofs.YtaookoejdnkkoaaGreatDoor
