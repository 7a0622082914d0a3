import Derived.Test.YtpipjkpjpkgmpaaDoorOpen
import Derived.Test.YtpipjkpjpkgmpaaDoorShV
import Derived.Test.YtpipjkpjpkgmpaaDoorCoC
namespace Go.Proofs.YtpipjkpjpkgmpaaDoor
open Go.ChangeShapes Go.WideShapes Go.ChangeAt Go.RowKit

set_option maxRecDepth 100000 in
/-- A row of numbers of one cell each. -/
theorem rowIntsC {w : World} {f n : Nat} {t e : TypeId} {k : IntKind} {cs : List Value} {L : List Int} {p : List MemPlace} (ht : Tryd.prog.underlying t = some (.array n e)) (he : Tryd.prog.underlying e = some (.int k)) (hc : Tryd.prog.cellsOf e = 1)
    (h : DataW.trod (fun _ => ()) Tryd.prog w 0 (fun _ => true) false f t cs = some (.agg (L.map fun z => .lit (.int k z)), p)) : ∀ i, i < n → cs[i]? = some (.int k (L.getD i 0)) := by
  obtain ⟨xs, m, rfl, hx, hl, hn, hel⟩ := DataW.trod_array ht h
  intro i hi
  have h1 := hel i hi
  rw [hc, Nat.mul_one, List.getElem?_eq_getElem (show i < xs.length by omega)] at h1
  obtain ⟨z, hz, hz2, _⟩ := DataW.trod_int he h1
  have h2 : cs[i]? = some (.int k z) := by
    have h3 : ((cs.drop i).take 1)[0]? = some (.int k z) := by rw [hz]; rfl
    rw [List.getElem?_take, if_pos (by decide), List.getElem?_drop, Nat.add_zero] at h3
    exact h3
  rw [h2]
  have h4 : L.map (fun z => (DataW.lit (Lit.int k z) : DataW Unit)) = xs.map (·.1) := by
    have := (Prod.mk.inj hx).1
    injection this
  have h5 : (L.map (fun z => (DataW.lit (Lit.int k z) : DataW Unit)))[i]? = some (.lit (.int k z)) := by
    rw [h4, List.getElem?_map, List.getElem?_eq_getElem (show i < xs.length by omega), hz2]; rfl
  rw [List.getElem?_map] at h5
  cases h6 : L[i]? with
  | none => rw [h6] at h5; cases h5
  | some y =>
    rw [h6] at h5
    have h7 := Option.some.inj h5
    have h8 : y = z := by injection h7 with h7; injection h7
    simp [List.getD, h6, h8]

set_option maxRecDepth 100000 in
theorem ht_of {w : World} {l : List (String × DataW Unit)} {ps : List MemPlace} (h : DataW.LaidVars Tryd.prog w l ps) (hs : ("vouch/coding.hexWorths", (Rows.laid_vouch_coding_hexWorths : DataW Unit)) ∈ l) : HT w := by
  obtain ⟨gp, tP, csp, fp, pp, h1, h2, h3, h4⟩ := laid_mem h _ _ hs
  obtain rfl := Option.some.inj ((show Tryd.prog.globalNamed "vouch/coding.hexWorths" = some 1 by kernel_rfl).symm.trans h1)
  obtain rfl := Option.some.inj ((show (Tryd.prog.globals[1]?).map (·.type) = some 79 by kernel_rfl).symm.trans h2)
  have h5 : (Rows.laid_vouch_coding_hexWorths : DataW Unit) = .agg (hexT.map fun z => .lit (.int .i8 z)) := rfl
  rw [h5] at h4
  have h6 := rowIntsC Tryd.underlying79 Tryd.underlying78 (by kernel_rfl) h4
  intro i hi
  rw [World.var?_cell h1 h3]
  have h7 := h6 i hi
  rw [Array.getElem?_toList] at h7
  rw [h7]
  rfl
set_option maxRecDepth 100000 in
theorem bt_of {w : World} {l : List (String × DataW Unit)} {ps : List MemPlace} (h : DataW.LaidVars Tryd.prog w l ps) (hs : ("vouch/coding.base64Worths", (Rows.laid_vouch_coding_base64Worths : DataW Unit)) ∈ l) : BT w := by
  obtain ⟨gp, tP, csp, fp, pp, h1, h2, h3, h4⟩ := laid_mem h _ _ hs
  obtain rfl := Option.some.inj ((show Tryd.prog.globalNamed "vouch/coding.base64Worths" = some 2 by kernel_rfl).symm.trans h1)
  obtain rfl := Option.some.inj ((show (Tryd.prog.globals[2]?).map (·.type) = some 79 by kernel_rfl).symm.trans h2)
  have h5 : (Rows.laid_vouch_coding_base64Worths : DataW Unit) = .agg (b64T.map fun z => .lit (.int .i8 z)) := rfl
  rw [h5] at h4
  have h6 := rowIntsC Tryd.underlying79 Tryd.underlying78 (by kernel_rfl) h4
  intro i hi
  rw [World.var?_cell h1 h3]
  have h7 := h6 i hi
  rw [Array.getElem?_toList] at h7
  rw [h7]
  rfl
end Go.Proofs.YtpipjkpjpkgmpaaDoor
