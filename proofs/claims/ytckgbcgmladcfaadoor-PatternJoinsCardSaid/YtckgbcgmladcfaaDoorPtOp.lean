import Derived.Test.YtckgbcgmladcfaaDoorCards
import Derived.Test.YtckgbcgmladcfaaDoorTie
import Derived.Test.YtckgbcgmladcfaaDoorProg
import Derived.ProofKit
import Derived.OpenShut
import Derived.Deep.DeepHandedRow
import Derived.Lay
import Derived.ChangeMaps5
import Derived.LaidOnce
import Derived.SevenTiedAt
namespace Go.Proofs.YtckgbcgmladcfaaDoor
open Go.ChangeShapes Go.WideShapes Go.ChangeAt Go.RowKit

theorem own_knob : ownKnob Tryd.prog.godebug = none := by kernel_rfl
theorem laid_out : laidOutB Tryd.prog = true := by kernel_rfl

/-! What is laid. -/
theorem laid_step {w : World} {n : String} {d : DataW Unit} {rest : List (String × DataW Unit)} {ps : List MemPlace} (h : DataW.LaidVars Tryd.prog w ((n, d) :: rest) ps) :
    (∃ g t cs f p, Tryd.prog.globalNamed n = some g ∧ (Tryd.prog.globals[g]?).map (·.type) = some t ∧ w.var? Tryd.prog n = some cs ∧ DataW.trod (fun _ => ()) Tryd.prog w 0 (fun _ => true) false f t cs.toList = some (d, p)) ∧ ∃ qs, DataW.LaidVars Tryd.prog w rest qs := by
  obtain ⟨g, t, cs, f, p, q, hg, ht, hv, hd, hr, _⟩ := h
  exact ⟨⟨g, t, cs, f, p, hg, ht, hv, hd⟩, q, hr⟩
theorem laid_mem {w : World} : ∀ {l : List (String × DataW Unit)} {ps : List MemPlace}, DataW.LaidVars Tryd.prog w l ps → ∀ n d, (n, d) ∈ l →
    ∃ g t cs f p, Tryd.prog.globalNamed n = some g ∧ (Tryd.prog.globals[g]?).map (·.type) = some t ∧ w.var? Tryd.prog n = some cs ∧ DataW.trod (fun _ => ()) Tryd.prog w 0 (fun _ => true) false f t cs.toList = some (d, p) := by
  intro l
  induction l with
  | nil => intro ps _ n d hm; cases hm
  | cons q l ih =>
    obtain ⟨n0, d0⟩ := q
    intro ps h n d hm
    obtain ⟨h1, qs, h2⟩ := laid_step h
    rcases List.mem_cons.1 hm with he | hm
    · cases he; exact h1
    · exact ih h2 n d hm
end Go.Proofs.YtckgbcgmladcfaaDoor
