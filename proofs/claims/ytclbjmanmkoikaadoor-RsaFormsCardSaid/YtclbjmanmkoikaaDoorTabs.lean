import Derived.Test.YtclbjmanmkoikaaDoorOpen
import Derived.Test.YtclbjmanmkoikaaDoorWa
namespace Go.Proofs.YtclbjmanmkoikaaDoor
open Go.ChangeShapes Go.WideShapes Go.ChangeAt Go.RowKit

theorem laid_step {w : World} {n : String} {d : DataW Unit} {rest : List (String × DataW Unit)} {ps : List MemPlace} (h : DataW.LaidVars Tryd.prog w ((n, d) :: rest) ps) :
    (∃ g t cs f p, Tryd.prog.globalNamed n = some g ∧ (Tryd.prog.globals[g]?).map (·.type) = some t ∧ w.var? Tryd.prog n = some cs ∧ DataW.trod (fun _ => ()) Tryd.prog w 0 (fun _ => true) false f t cs.toList = some (d, p)) ∧ ∃ qs, DataW.LaidVars Tryd.prog w rest qs := by
  obtain ⟨g, t, cs, f, p, q, hg, ht, hv, hd, hr, _⟩ := h
  exact ⟨⟨g, t, cs, f, p, hg, ht, hv, hd⟩, q, hr⟩
theorem c3 : Tryd.prog.cellsOf 3 = 1 := by kernel_rfl
end Go.Proofs.YtclbjmanmkoikaaDoor
