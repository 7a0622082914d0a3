import Derived.Test.YtaookoejdnkkoaaGreatDoorRows
import Derived.Test.YtaookoejdnkkoaaGreatDoorKShelf
import Derived.Test.YtaookoejdnkkoaaGreatDoorCards
import Derived.Test.YtaookoejdnkkoaaGreatDoorTie
import Derived.BigQuiet
import Derived.ChangeMaps5
import Derived.Deep.CutBlock
import Derived.Deep.DeepCutAuto
import Derived.Deep.DeepHandedRow
import Derived.Deep.QuietTactic
import Derived.Handy
import Derived.LaidOnce
import Derived.Laws.Externs
import Derived.Lay
import Derived.Lib.Hide
import Derived.Lib.ItoaNum
import Derived.OpenShut
import Derived.ProofKit
import Derived.SevenTiedAt
import Derived.Shelf.Spec.BitsCarry
import Derived.WalkKit
import Derived.Test.YtaookoejdnkkoaaGreatDoorKGA
import Derived.Deep.RegionHeld3
import Derived.Laws.CopyOwn
import Derived.Lib.TrimByte
import Derived.Shelf.RegionOpenPlain
import Derived.StillTailTactics
namespace Go.Proofs.YtaookoejdnkkoaaGreatDoor
open Go.RowKit

open Go.ChangeShapes Go.WideShapes Go.ChangeAt Go.RowKit

theorem own_knob : ownKnob Tryz.prog.godebug = none := by kernel_rfl

open Go.ChangeShapes Go.WideShapes Go.ChangeAt Go.RowKit

/-! What is laid. -/
theorem laid_step {w : World} {n : String} {d : DataW Unit} {rest : List (String × DataW Unit)} {ps : List MemPlace} (h : DataW.LaidVars Tryz.prog w ((n, d) :: rest) ps) :
    (∃ g t cs f p, Tryz.prog.globalNamed n = some g ∧ (Tryz.prog.globals[g]?).map (·.type) = some t ∧ w.var? Tryz.prog n = some cs ∧ DataW.trod (fun _ => ()) Tryz.prog w 0 (fun _ => true) false f t cs.toList = some (d, p)) ∧ ∃ qs, DataW.LaidVars Tryz.prog w rest qs := by
  obtain ⟨g, t, cs, f, p, q, hg, ht, hv, hd, hr, _⟩ := h
  exact ⟨⟨g, t, cs, f, p, hg, ht, hv, hd⟩, q, hr⟩
theorem laid_mem {w : World} : ∀ {l : List (String × DataW Unit)} {ps : List MemPlace}, DataW.LaidVars Tryz.prog w l ps → ∀ n d, (n, d) ∈ l →
    ∃ g t cs f p, Tryz.prog.globalNamed n = some g ∧ (Tryz.prog.globals[g]?).map (·.type) = some t ∧ w.var? Tryz.prog n = some cs ∧ DataW.trod (fun _ => ()) Tryz.prog w 0 (fun _ => true) false f t cs.toList = some (d, p) := by
  intro l
  induction l with
  | nil => intro ps _ n d hm; cases hm
  | cons q l ih =>
    obtain ⟨n0, d0⟩ := q
    intro ps h n d hm
    obtain ⟨h1, qs, h2⟩ := laid_step h
    rcases List.mem_cons.1 hm with he | hm
    · cases he; exact h1
    · exact ih h2 n d hm

open Go.ChangeShapes Go.WideShapes Go.ChangeAt Go.RowKit

theorem c3 : Tryz.prog.cellsOf 3 = 1 := by kernel_rfl
end Go.Proofs.YtaookoejdnkkoaaGreatDoor
