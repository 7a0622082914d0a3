import Derived.Test.YthccccpcjafdcaaDoorGC
import Derived.Test.YthccccpcjafdcaaDoorApart
import Derived.Test.YthccccpcjafdcaaDoorTold
namespace Go.Proofs.YthccccpcjafdcaaDoor
open Go.RowKit

theorem lsame_any (a b : Option Addr) (n ca cb : Nat) (k : Int) (xs : List Nat) (w : World) (hla : xs.length = n) (hba : n ≤ 1099511627776)
    (hra : Rd .u64 w a xs) (hrb : Rd .u64 w b xs) :
    Calls Tryd.prog 17 #[.slice a n ca, .int .i64 k, .slice b n cb, .int .i64 k] w (YesPost w) := by
  go_enter Tryd.func17, Tryd.ntmps17
  have hq : (k == k) = true := by simp
  go_wp2_with fail
  refine (words_same a b n ca cb xs _ hla hba hra hrb).mono ?_
  rintro e w1 ⟨rfl, nd, rfl⟩
  go_wp2
  go_ret
  exact ⟨rfl, nd, rfl⟩

end Go.Proofs.YthccccpcjafdcaaDoor
