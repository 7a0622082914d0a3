import Derived.Test.YtclbjmanmkoikaaDoorOpen
import Derived.Test.YtclbjmanmkoikaaDoorGB
import Derived.OpenShut
import Derived.Lib.SmallJoins
namespace Go.Proofs.YtclbjmanmkoikaaDoor
open Go.ChangeShapes Go.WideShapes Go.ChangeAt Go.RowKit

set_option maxRecDepth 100000 in
/-- A list of limbs in a key that is handed in. -/
theorem opened_limbsK {H : Type} {enc : TypeId × Value → H} {W : World} {v : Value} {y : DataW H × List MemPlace} {fuel : Nat}
    (hf : DataW.trod enc Tryd.prog W 0 (fun _ => true) true fuel 22 [v] = some y) :
    ∃ (a : Option Addr) (len cap : Nat) (xs : List Nat), v = .slice a len cap ∧ xs.length = len ∧ len ≤ 9223372036854775807 ∧ len ≤ cap ∧ (a = none → cap = 0) ∧ Rd .u64 W a xs ∧ Bd xs := by
  have key : ∃ (a : Option Addr) (len cap : Nat), v = .slice a len cap := by
    rcases open_ints Tryd.underlying22 Tryd.underlying49 cells_u64 hf with ⟨hcs, _⟩ | ⟨a, len', cap', zs, hcs, _⟩
    · exact ⟨none, 0, 0, by simpa using hcs⟩
    · exact ⟨some a, len', cap', by simpa using hcs⟩
  obtain ⟨a, len, cap, rfl⟩ := key
  obtain ⟨xs, hl, hc, hm, hr, h8, hn⟩ := opened_nums (k := .u64) Tryd.underlying22 Tryd.underlying49 cells_u64 rfl (d0 := y.1) (p := y.2) (a0 := a) (len := len) (cap := cap) ⟨fuel, hf⟩
  exact ⟨a, len, cap, xs, rfl, hl, Nat.le_trans (Nat.le_trans hc hm) (by decide), hc, hn, hr, fun x hx => by have := h8 x hx; simp [IntKind.max, IntKind.signed, IntKind.bits] at this; omega⟩
set_option maxRecDepth 100000 in
/-- A key that is handed in. -/
theorem opened_key {H : Type} {enc : TypeId × Value → H} {W : World} {base : Nat} {v : Value} {d : DataW H} {p : List MemPlace} (hv : Value.okWide Tryd.prog W .any base 24 v) (h : DataW.Trod enc Tryd.prog W 0 (fun _ => true) true 24 v d p) :
    ∃ (aN : Option Addr) (lN cN : Nat) (Ns : List Nat) (aE : Option Addr) (lE cE : Nat) (Es : List Nat), v = .agg #[.slice aN lN cN, .slice aE lE cE] ∧ Ns.length = lN ∧ lN ≤ 9223372036854775807 ∧ lN ≤ cN ∧ (aN = none → cN = 0) ∧ Rd .u64 W aN Ns ∧ Bd Ns ∧ Es.length = lE ∧ lE ≤ 9223372036854775807 ∧ lE ≤ cE ∧ (aE = none → cE = 0) ∧ Rd .u64 W aE Es ∧ Bd Es := by
  obtain ⟨u0, u1, y0, y1, n, rfl, rfl, rfl, z0, z1⟩ := Go.Joins.open_agg2 Tryd.underlying24 (by kernel_rfl) (by kernel_rfl) hv h
  obtain ⟨a0, len0, cap0, xs0, rfl, hl0, hb0, hc0, hn0, hr0, bx0⟩ := opened_limbsK z0
  obtain ⟨a1, len1, cap1, xs1, rfl, hl1, hb1, hc1, hn1, hr1, bx1⟩ := opened_limbsK z1
  exact ⟨a0, len0, cap0, xs0, a1, len1, cap1, xs1, rfl, hl0, hb0, hc0, hn0, hr0, bx0, hl1, hb1, hc1, hn1, hr1, bx1⟩
theorem cells_d20 : Tryd.prog.cellsOf 38 = 20 := by kernel_rfl
def cellN : Value → Nat
  | .int _ n => n.toNat
  | _ => 0
set_option maxRecDepth 100000 in
/-- A digest that is handed in. -/
theorem opened_digest {H : Type} {enc : TypeId × Value → H} {W : World} {base : Nat} {v : Value} {d : DataW H} {p : List MemPlace} (hv : Value.okWide Tryd.prog W .any base 38 v) (h : DataW.Trod enc Tryd.prog W 0 (fun _ => true) true 38 v d p) :
    ∃ ds : List Nat, v = .agg (u8s ds).toArray ∧ ds.length = 20 ∧ B8 ds := by
  obtain ⟨cs, rfl, hsz, _⟩ : ∃ cs, v = .agg cs ∧ cs.size = Tryd.prog.cellsOf 38 ∧ Row.okWide Tryd.prog W .any base 38 cs := by
    simpa [Value.okWide, Tryd.underlying38] using hv
  obtain ⟨fuel, hf⟩ := h
  obtain ⟨xs, m, -, -, -, hl, hel⟩ := DataW.trod_array Tryd.underlying38 hf
  rw [cells_u8] at hel
  rw [cells_d20] at hsz
  obtain ⟨l⟩ := cs
  have hsz : l.length = 20 := by simpa using hsz
  have key : ∀ i (hi : i < 20), ∃ n : Int, l[i]'(by omega) = .int .u8 n ∧ 0 ≤ n ∧ n < 256 := by
    intro i hi
    have k := hel i hi
    rw [List.getElem?_eq_getElem (by omega)] at k
    obtain ⟨n, e, -, w⟩ := DataW.trod_int Tryd.underlying5 k
    refine ⟨n, ?_, ?_⟩
    · have e2 := congrArg (fun z : List Value => z[0]?) e
      simp [Value.cells] at e2
      rw [List.getElem?_eq_getElem (by omega)] at e2
      simpa using e2
    · simp [Lit.wf, IntKind.min, IntKind.max, IntKind.signed, IntKind.bits] at w
      omega
  refine ⟨l.map cellN, ?_, by simpa using hsz, ?_⟩
  · congr 2
    apply List.ext_getElem
    · simp [u8s]
    · intro i h1 h2
      obtain ⟨n, e, h0, _⟩ := key i (by omega)
      simp only [u8s, List.getElem_map, e, cellN]
      rw [Int.toNat_of_nonneg h0]
  · intro x hx
    obtain ⟨y, hy, rfl⟩ := List.mem_map.1 hx
    obtain ⟨i, hi, rfl⟩ := List.getElem_of_mem hy
    obtain ⟨n, e, h0, h2⟩ := key i (by omega)
    rw [e]
    simp only [cellN]
    omega
end Go.Proofs.YtclbjmanmkoikaaDoor
