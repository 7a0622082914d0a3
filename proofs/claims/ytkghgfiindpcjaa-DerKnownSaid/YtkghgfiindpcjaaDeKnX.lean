import Derived.Test.YtkghgfiindpcjaaDeKnI
import Derived.Test.YtkghgfiindpcjaaDeKnK
import Derived.Test.YtkghgfiindpcjaaDeKnS
namespace Go.Proofs.Ytkghgfiindpcjaa
open Go.RowKit
set_option maxHeartbeats 1000000 in
theorem derKnown_any (w : World) : Calls Try.prog 9 #[] w fun e w' => e = .returned (.bool true) ∧ Below w.heap.size w w' := by
  go_enter Try.func9, Try.ntmps9
  go_wp2_with fail
  refine (items7_any _).mono ?_
  rintro e w1 ⟨rfl, hb⟩
  have HB := Lib.hid hb
  clear hb
  go_wp2_with fail
  refine (keys7_any _).mono ?_
  rintro e w2 ⟨rfl, hb⟩
  have HB := Lib.hid (HB.out.trans (hb.mono HB.out.size))
  clear hb
  go_wp2_with fail
  refine (spoilt7_any _).mono ?_
  rintro e w3 ⟨rfl, hb⟩
  have HB := Lib.hid (HB.out.trans (hb.mono HB.out.size))
  clear hb
  go_wp2
  go_ret
  exact ⟨rfl, HB.out⟩
end Go.Proofs.Ytkghgfiindpcjaa
