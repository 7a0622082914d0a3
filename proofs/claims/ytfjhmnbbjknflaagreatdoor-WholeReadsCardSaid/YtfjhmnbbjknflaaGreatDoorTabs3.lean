import Derived.Test.YtfjhmnbbjknflaaGreatDoorTabs
import Derived.Test.YtfjhmnbbjknflaaGreatDoorTrigT
import Derived.Test.YtfjhmnbbjknflaaGreatDoorWholeT
import Derived.Lib.SmallJoins
namespace Go.Proofs.YtfjhmnbbjknflaaGreatDoor
open Go.ChangeShapes Go.WideShapes Go.ChangeAt Go.RowKit

theorem int_low {z : Int} (h : (Lit.int .i64 z).wf = true) : -9223372036854775808 ≤ z ∧ z ≤ 9223372036854775807 := by
  simp [Lit.wf, IntKind.min, IntKind.max, IntKind.signed, IntKind.bits] at h
  omega
theorem tabs_laid {w : World} {l : List (String × DataW Unit)} {ps : List MemPlace} (h : DataW.LaidVars Tryz.prog w l ps) (hp : ("vouch/whole.products", (Rows.laid_vouch_whole_products : DataW Unit)) ∈ l) (ho : ("vouch/whole.orders", (Rows.laid_vouch_whole_orders : DataW Unit)) ∈ l) : Tabs w := by
  obtain ⟨gp, tP, csp, fp, pp, h1, h2, h3, h4⟩ := laid_mem h _ _ hp
  obtain ⟨go, tO, cso, fo, po, k1, k2, k3, k4⟩ := laid_mem h _ _ ho
  exact tabs_of h1 h2 h3 h4 k1 k2 k3 k4
set_option maxRecDepth 100000 in
theorem tabsum_laid {w : World} {l : List (String × DataW Unit)} {ps : List MemPlace} (h : DataW.LaidVars Tryz.prog w l ps) (hp : ("vouch/whole.sums", (Rows.laid_vouch_whole_sums : DataW Unit)) ∈ l) : TabSum w := by
  obtain ⟨gp, tP, csp, fp, pp, h1, h2, h3, h4⟩ := laid_mem h _ _ hp
  obtain rfl := Option.some.inj ((show Tryz.prog.globalNamed "vouch/whole.sums" = some 0 by kernel_rfl).symm.trans h1)
  obtain rfl := Option.some.inj ((show (Tryz.prog.globals[0]?).map (·.type) = some 69 by kernel_rfl).symm.trans h2)
  have ep := tab33 h4
  obtain ⟨lp⟩ := csp
  have ep : lp = _ := ep
  subst ep
  constructor
  intro i j hi hj
  rw [World.var?_cell h1 h3]
  have hi : i = 0 ∨ i = 1 ∨ i = 2 := by omega
  have hj : j = 0 ∨ j = 1 ∨ j = 2 := by omega
  rcases hi with rfl | rfl | rfl <;> rcases hj with rfl | rfl | rfl <;> rfl
set_option maxRecDepth 100000 in
/-- A list of limbs in a number that is handed in. -/
theorem opened_limbs {H : Type} {enc : TypeId × Value → H} {W : World} {v : Value} {y : DataW H × List MemPlace} {fuel : Nat}
    (hf : DataW.trod enc Tryz.prog W 0 (fun _ => true) true fuel 22 [v] = some y) :
    ∃ (a : Option Addr) (len cap : Nat) (xs : List Nat), v = .slice a len cap ∧ xs.length = len ∧ len ≤ 9223372036854775807 ∧ Rd .u64 W a xs ∧ Bd xs := by
  have key : ∃ (a : Option Addr) (len cap : Nat), v = .slice a len cap := by
    rcases open_ints Tryz.underlying22 Tryz.underlying61 cells_u64 hf with ⟨hcs, _⟩ | ⟨a, len', cap', zs, hcs, _⟩
    · exact ⟨none, 0, 0, by simpa using hcs⟩
    · exact ⟨some a, len', cap', by simpa using hcs⟩
  obtain ⟨a, len, cap, rfl⟩ := key
  obtain ⟨xs, hl, hc, hm, hr, h8, _⟩ := opened_nums (k := .u64) Tryz.underlying22 Tryz.underlying61 cells_u64 rfl (d0 := y.1) (p := y.2) (a0 := a) (len := len) (cap := cap) ⟨fuel, hf⟩
  exact ⟨a, len, cap, xs, rfl, hl, Nat.le_trans (Nat.le_trans hc hm) (by decide), hr, fun x hx => by have := h8 x hx; simp [IntKind.max, IntKind.signed, IntKind.bits] at this; omega⟩
set_option maxRecDepth 100000 in
/-- A whole number that is handed in. -/
theorem opened_whole {H : Type} {enc : TypeId × Value → H} {W : World} {base : Nat} {v : Value} {d : DataW H} {p : List MemPlace} (hv : Value.okWide Tryz.prog W .any base 24 v) (h : DataW.Trod enc Tryz.prog W 0 (fun _ => true) true 24 v d p) :
    ∃ (b : Bool) (a : Option Addr) (len cap : Nat) (xs : List Nat), v = .agg #[.bool b, .slice a len cap] ∧ xs.length = len ∧ len ≤ 9223372036854775807 ∧ Rd .u64 W a xs ∧ Bd xs := by
  obtain ⟨u0, u1, y0, y1, n, rfl, rfl, rfl, z0, z1⟩ := Go.Joins.open_agg2 Tryz.underlying24 (by kernel_rfl) (by kernel_rfl) hv h
  obtain ⟨b, h1, _⟩ := DataW.trod_bool Tryz.underlying4 z0
  obtain rfl : u0 = .bool b := by simpa using h1
  obtain ⟨a1, len1, cap1, xs, rfl, hl, hbig, hrd, bx⟩ := opened_limbs z1
  exact ⟨b, a1, len1, cap1, xs, rfl, hl, hbig, hrd, bx⟩
end Go.Proofs.YtfjhmnbbjknflaaGreatDoor
