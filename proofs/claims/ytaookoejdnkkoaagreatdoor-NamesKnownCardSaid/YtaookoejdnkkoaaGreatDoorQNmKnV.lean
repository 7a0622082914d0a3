import Derived.Test.YtaookoejdnkkoaaGreatDoorQNmKnS
import Derived.StillTailTactics
namespace Go.Proofs.YtaookoejdnkkoaaGreatDoor
open Go.RowKit

/-! A step of a region that only reads, with the operations out of sight. -/
theorem wpStill_put {P : Program} {ops : Array Oper} {w : World} {Q : Act → Prop} {a : Act} {o : Oper} {rest : List Oper} {v : Value} (hg : o.guard = none) (hr : (execOp a.eval o).run P w = .ok (.value v) w) (h : wpStill P ops w Q rest (a.put o.dst v)) :
    wpStill P ops w Q (o :: rest) a := by
  refine wpStill_step (fun K hK => ?_)
  rw [if_pos (by simp [Region.wanted, hg])]
  unfold Oper.still
  rw [hr]
  exact ⟨rfl, hK _ h⟩
end Go.Proofs.YtaookoejdnkkoaaGreatDoor
