import Derived.Test.YtaookoejdnkkoaaGreatDoorQNmKnL
import Derived.Test.YtaookoejdnkkoaaGreatDoorQNmKnK
import Derived.Test.YtaookoejdnkkoaaGreatDoorQNmKnW
namespace Go.Proofs.YtaookoejdnkkoaaGreatDoor
open Go.RowKit

/-! NamesKnown. -/
set_option maxRecDepth 100000 in
theorem namesKnown_any (w : World) (hH : HT w) (hB : BT w) :
    Calls Tryz.prog 6 #[] w fun e w' => e = .returned (.bool true) ∧ Below w.heap.size w w' := by
  have NS := Lib.hid (NE.start hH hB)
  clear hH hB
  go_enter Tryz.func6, Tryz.ntmps6
  go_wp2_with fail
  refine (shown9_any _ NS.out.hh NS.out.bb).mono ?_
  rintro e w1 ⟨rfl, hb⟩
  have NS := Lib.hid (NS.out.below hb)
  clear hb
  go_wp2_with fail
  refine (keys9_any _ NS.out.hh NS.out.bb).mono ?_
  rintro e w2 ⟨rfl, hb⟩
  have NS := Lib.hid (NS.out.below hb)
  clear hb
  go_wp2_with fail
  refine (limit_any _ NS.out.hh NS.out.bb).mono ?_
  rintro e w3 ⟨rfl, hb⟩
  have NS := Lib.hid (NS.out.below hb)
  clear hb
  go_wp2
  go_ret
  exact ⟨rfl, NS.out.bl⟩
end Go.Proofs.YtaookoejdnkkoaaGreatDoor
