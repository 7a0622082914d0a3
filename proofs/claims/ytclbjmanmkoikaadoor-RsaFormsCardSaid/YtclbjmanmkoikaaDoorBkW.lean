import Derived.Test.YtclbjmanmkoikaaDoorGA
import Derived.Test.YtclbjmanmkoikaaDoorGB
namespace Go.Proofs.YtclbjmanmkoikaaDoor
open Go.RowKit

def mkw (i : Int) : Value := .int .u64 (mk 90 i)
def mksw (k : Nat) : List Value := (List.range k).map fun (i : Nat) => mkw i
theorem u64s_snoc (xs : List Nat) (k x : Nat) (h : k < xs.length) (hx : Hid (xs.getD k 0 = x)) : u64s (xs.take (k + 1)) = u64s (xs.take k) ++ [.int .u64 (x : Nat)] := by
  rw [take_snoc xs k x h hx]; simp [u64s]
theorem mksw_snoc (k : Nat) : mksw (k + 1) = mksw k ++ [mkw k] := by
  unfold mksw; rw [List.range_succ]; simp
end Go.Proofs.YtclbjmanmkoikaaDoor
