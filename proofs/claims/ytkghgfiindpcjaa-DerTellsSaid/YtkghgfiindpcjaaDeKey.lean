import Derived.Test.YtkghgfiindpcjaaOpenR
import Derived.Lib.SmallJoins
namespace Go.Proofs.Ytkghgfiindpcjaa
open Go.ChangeShapes Go.WideShapes Go.ChangeAt Go.RowKit

set_option maxRecDepth 100000 in
/-- A list of limbs in a key that is handed in. -/
theorem opened_limbsK {H : Type} {enc : TypeId × Value → H} {W : World} {v : Value} {y : DataW H × List MemPlace} {fuel : Nat}
    (hf : DataW.trod enc Try.prog W 0 (fun _ => true) true fuel 27 [v] = some y) :
    ∃ (a : Option Addr) (len cap : Nat) (xs : List Nat), v = .slice a len cap ∧ xs.length = len ∧ len ≤ 9223372036854775807 ∧ Rd .u64 W a xs ∧ Bd xs := by
  have key : ∃ (a : Option Addr) (len cap : Nat), v = .slice a len cap := by
    rcases open_ints Try.underlying27 Try.underlying56 cells_u64 hf with ⟨hcs, _⟩ | ⟨a, len', cap', zs, hcs, _⟩
    · exact ⟨none, 0, 0, by simpa using hcs⟩
    · exact ⟨some a, len', cap', by simpa using hcs⟩
  obtain ⟨a, len, cap, rfl⟩ := key
  obtain ⟨xs, hl, hc, hm, hr, h8, _⟩ := opened_nums (k := .u64) Try.underlying27 Try.underlying56 cells_u64 rfl (d0 := y.1) (p := y.2) (a0 := a) (len := len) (cap := cap) ⟨fuel, hf⟩
  exact ⟨a, len, cap, xs, rfl, hl, Nat.le_trans (Nat.le_trans hc hm) (by decide), hr, fun x hx => by have := h8 x hx; simp [IntKind.max, IntKind.signed, IntKind.bits] at this; omega⟩
set_option maxRecDepth 100000 in
/-- A key that is handed in. -/
theorem opened_key {H : Type} {enc : TypeId × Value → H} {W : World} {base : Nat} {v : Value} {d : DataW H} {p : List MemPlace} (hv : Value.okWide Try.prog W .any base 40 v) (h : DataW.Trod enc Try.prog W 0 (fun _ => true) true 40 v d p) :
    ∃ (aN : Option Addr) (lN cN : Nat) (Ns : List Nat) (aE : Option Addr) (lE cE : Nat) (Es : List Nat), v = .agg #[.slice aN lN cN, .slice aE lE cE] ∧ Ns.length = lN ∧ lN ≤ 9223372036854775807 ∧ Rd .u64 W aN Ns ∧ Bd Ns ∧ Es.length = lE ∧ lE ≤ 9223372036854775807 ∧ Rd .u64 W aE Es ∧ Bd Es := by
  obtain ⟨u0, u1, y0, y1, n, rfl, rfl, rfl, z0, z1⟩ := Go.Joins.open_agg2 Try.underlying40 (by kernel_rfl) (by kernel_rfl) hv h
  obtain ⟨a0, len0, cap0, xs0, rfl, hl0, hb0, hr0, bx0⟩ := opened_limbsK z0
  obtain ⟨a1, len1, cap1, xs1, rfl, hl1, hb1, hr1, bx1⟩ := opened_limbsK z1
  exact ⟨a0, len0, cap0, xs0, a1, len1, cap1, xs1, rfl, hl0, hb0, hr0, bx0, hl1, hb1, hr1, bx1⟩
end Go.Proofs.Ytkghgfiindpcjaa
