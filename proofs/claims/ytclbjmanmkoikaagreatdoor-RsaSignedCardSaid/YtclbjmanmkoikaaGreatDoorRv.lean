import Derived.Test.YtclbjmanmkoikaaGreatDoorOpen
import Derived.Test.YtclbjmanmkoikaaGreatDoorGB
import Derived.OpenShut
import Derived.Lib.SmallJoins
import Derived.Test.YtclbjmanmkoikaaGreatDoorTrigT
import Derived.Test.YtclbjmanmkoikaaGreatDoorSc
namespace Go.Proofs.YtclbjmanmkoikaaGreatDoor
open Go.RowKit

open Go.ChangeShapes Go.WideShapes Go.ChangeAt Go.RowKit

set_option maxRecDepth 100000 in
/-- A list of limbs in a key that is handed in. -/
theorem opened_limbsK {H : Type} {enc : TypeId × Value → H} {W : World} {v : Value} {y : DataW H × List MemPlace} {fuel : Nat}
    (hf : DataW.trod enc Tryz.prog W 0 (fun _ => true) true fuel 22 [v] = some y) :
    ∃ (a : Option Addr) (len cap : Nat) (xs : List Nat), v = .slice a len cap ∧ xs.length = len ∧ len ≤ 9223372036854775807 ∧ len ≤ cap ∧ (a = none → cap = 0) ∧ Rd .u64 W a xs ∧ Bd xs := by
  have key : ∃ (a : Option Addr) (len cap : Nat), v = .slice a len cap := by
    rcases open_ints Tryz.underlying22 Tryz.underlying51 cells_u64 hf with ⟨hcs, _⟩ | ⟨a, len', cap', zs, hcs, _⟩
    · exact ⟨none, 0, 0, by simpa using hcs⟩
    · exact ⟨some a, len', cap', by simpa using hcs⟩
  obtain ⟨a, len, cap, rfl⟩ := key
  obtain ⟨xs, hl, hc, hm, hr, h8, hn⟩ := opened_nums (k := .u64) Tryz.underlying22 Tryz.underlying51 cells_u64 rfl (d0 := y.1) (p := y.2) (a0 := a) (len := len) (cap := cap) ⟨fuel, hf⟩
  exact ⟨a, len, cap, xs, rfl, hl, Nat.le_trans (Nat.le_trans hc hm) (by decide), hc, hn, hr, fun x hx => by have := h8 x hx; simp [IntKind.max, IntKind.signed, IntKind.bits] at this; omega⟩
set_option maxRecDepth 100000 in
/-- A key that is handed in. -/
theorem opened_key {H : Type} {enc : TypeId × Value → H} {W : World} {base : Nat} {v : Value} {d : DataW H} {p : List MemPlace} (hv : Value.okWide Tryz.prog W .any base 24 v) (h : DataW.Trod enc Tryz.prog W 0 (fun _ => true) true 24 v d p) :
    ∃ (aN : Option Addr) (lN cN : Nat) (Ns : List Nat) (aE : Option Addr) (lE cE : Nat) (Es : List Nat), v = .agg #[.slice aN lN cN, .slice aE lE cE] ∧ Ns.length = lN ∧ lN ≤ 9223372036854775807 ∧ lN ≤ cN ∧ (aN = none → cN = 0) ∧ Rd .u64 W aN Ns ∧ Bd Ns ∧ Es.length = lE ∧ lE ≤ 9223372036854775807 ∧ lE ≤ cE ∧ (aE = none → cE = 0) ∧ Rd .u64 W aE Es ∧ Bd Es := by
  obtain ⟨u0, u1, y0, y1, n, rfl, rfl, rfl, z0, z1⟩ := Go.Joins.open_agg2 Tryz.underlying24 (by kernel_rfl) (by kernel_rfl) hv h
  obtain ⟨a0, len0, cap0, xs0, rfl, hl0, hb0, hc0, hn0, hr0, bx0⟩ := opened_limbsK z0
  obtain ⟨a1, len1, cap1, xs1, rfl, hl1, hb1, hc1, hn1, hr1, bx1⟩ := opened_limbsK z1
  exact ⟨a0, len0, cap0, xs0, a1, len1, cap1, xs1, rfl, hl0, hb0, hc0, hn0, hr0, bx0, hl1, hb1, hc1, hn1, hr1, bx1⟩
theorem cells_d20 : Tryz.prog.cellsOf 25 = 20 := by kernel_rfl
def cellN : Value → Nat
  | .int _ n => n.toNat
  | _ => 0
set_option maxRecDepth 100000 in
/-- A digest that is handed in. -/
theorem opened_digest {H : Type} {enc : TypeId × Value → H} {W : World} {base : Nat} {v : Value} {d : DataW H} {p : List MemPlace} (hv : Value.okWide Tryz.prog W .any base 25 v) (h : DataW.Trod enc Tryz.prog W 0 (fun _ => true) true 25 v d p) :
    ∃ ds : List Nat, v = .agg (u8s ds).toArray ∧ ds.length = 20 ∧ B8 ds := by
  obtain ⟨cs, rfl, hsz, _⟩ : ∃ cs, v = .agg cs ∧ cs.size = Tryz.prog.cellsOf 25 ∧ Row.okWide Tryz.prog W .any base 25 cs := by
    simpa [Value.okWide, Tryz.underlying25] using hv
  obtain ⟨fuel, hf⟩ := h
  obtain ⟨xs, m, -, -, -, hl, hel⟩ := DataW.trod_array Tryz.underlying25 hf
  rw [cells_u8] at hel
  rw [cells_d20] at hsz
  obtain ⟨l⟩ := cs
  have hsz : l.length = 20 := by simpa using hsz
  have key : ∀ i (hi : i < 20), ∃ n : Int, l[i]'(by omega) = .int .u8 n ∧ 0 ≤ n ∧ n < 256 := by
    intro i hi
    have k := hel i hi
    rw [List.getElem?_eq_getElem (by omega)] at k
    obtain ⟨n, e, -, w⟩ := DataW.trod_int Tryz.underlying5 k
    refine ⟨n, ?_, ?_⟩
    · have e2 := congrArg (fun z : List Value => z[0]?) e
      simp [Value.cells] at e2
      rw [List.getElem?_eq_getElem (by omega)] at e2
      simpa using e2
    · simp [Lit.wf, IntKind.min, IntKind.max, IntKind.signed, IntKind.bits] at w
      omega
  refine ⟨l.map cellN, ?_, by simpa using hsz, ?_⟩
  · congr 2
    apply List.ext_getElem
    · simp [u8s]
    · intro i h1 h2
      obtain ⟨n, e, h0, _⟩ := key i (by omega)
      simp only [u8s, List.getElem_map, e, cellN]
      rw [Int.toNat_of_nonneg h0]
  · intro x hx
    obtain ⟨y, hy, rfl⟩ := List.mem_map.1 hx
    obtain ⟨i, hi, rfl⟩ := List.getElem_of_mem hy
    obtain ⟨n, e, h0, h2⟩ := key i (by omega)
    rw [e]
    simp only [cellN]
    omega

open Go.ChangeShapes Go.WideShapes Go.ChangeAt Go.RowKit

theorem cU32 : Tryz.prog.cellsOf 99 = 1 := by kernel_rfl
theorem cF5 : Tryz.prog.cellsOf 113 = 5 := by kernel_rfl
set_option maxRecDepth 100000 in
theorem row5 {w : World} {f : Nat} {cs : List Value} {a b c d e : Int} {p : List MemPlace} (h : DataW.trod (fun _ => ()) Tryz.prog w 0 (fun _ => true) false f 113 cs = some (.agg [.lit (.int .u32 a), .lit (.int .u32 b), .lit (.int .u32 c), .lit (.int .u32 d), .lit (.int .u32 e)], p)) :
    cs = [.int .u32 a, .int .u32 b, .int .u32 c, .int .u32 d, .int .u32 e] := by
  obtain ⟨xs, m, rfl, hx, hl, hn, hel⟩ := DataW.trod_array Tryz.underlying113 h
  rw [cF5] at hl
  rw [cU32] at hel
  match cs, hl, xs, hn with
  | [v0, v1, v2, v3, v4], _, [x0, x1, x2, x3, x4], _ =>
    simp only [Prod.mk.injEq, DataW.agg.injEq, List.map_cons, List.map_nil, List.cons.injEq] at hx
    obtain ⟨k0, e0, r0, _⟩ := DataW.trod_int Tryz.underlying99 (show DataW.trod _ Tryz.prog w 0 _ false m 99 [v0] = some x0 from hel 0 (by decide))
    obtain ⟨k1, e1, r1, _⟩ := DataW.trod_int Tryz.underlying99 (show DataW.trod _ Tryz.prog w 0 _ false m 99 [v1] = some x1 from hel 1 (by decide))
    obtain ⟨k2, e2, r2, _⟩ := DataW.trod_int Tryz.underlying99 (show DataW.trod _ Tryz.prog w 0 _ false m 99 [v2] = some x2 from hel 2 (by decide))
    obtain ⟨k3, e3, r3, _⟩ := DataW.trod_int Tryz.underlying99 (show DataW.trod _ Tryz.prog w 0 _ false m 99 [v3] = some x3 from hel 3 (by decide))
    obtain ⟨k4, e4, r4, _⟩ := DataW.trod_int Tryz.underlying99 (show DataW.trod _ Tryz.prog w 0 _ false m 99 [v4] = some x4 from hel 4 (by decide))
    rw [r0, r1, r2, r3, r4] at hx
    simp at hx e0 e1 e2 e3 e4
    obtain ⟨⟨rfl, rfl, rfl, rfl, rfl⟩, _⟩ := hx
    rw [e0, e1, e2, e3, e4]
set_option maxRecDepth 100000 in
theorem five_of {w : World} {l : List (String × DataW Unit)} {ps : List MemPlace} (h : DataW.LaidVars Tryz.prog w l ps) (hs : ("vouch/sha.start", (Rows.laid_vouch_sha_start : DataW Unit)) ∈ l) : Five w := by
  obtain ⟨gp, tP, csp, fp, pp, h1, h2, h3, h4⟩ := laid_mem h _ _ hs
  obtain rfl := Option.some.inj ((show Tryz.prog.globalNamed "vouch/sha.start" = some 0 by kernel_rfl).symm.trans h1)
  obtain rfl := Option.some.inj ((show (Tryz.prog.globals[0]?).map (·.type) = some 113 by kernel_rfl).symm.trans h2)
  have ep := row5 h4
  obtain ⟨lp⟩ := csp
  have ep : lp = _ := ep
  subst ep
  intro i hi
  rw [World.var?_cell h1 h3]
  have hi : i = 0 ∨ i = 1 ∨ i = 2 ∨ i = 3 ∨ i = 4 := by omega
  rcases hi with rfl | rfl | rfl | rfl | rfl <;> rfl
end Go.Proofs.YtclbjmanmkoikaaGreatDoor
