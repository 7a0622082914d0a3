import Derived.Test.YtclbjmanmkoikaaDoorRsH
namespace Go.Proofs.YtclbjmanmkoikaaDoor
open Go.RowKit

theorem encL_pre (d : List Nat) (n q : Nat) (hq : n - 38 = q) : encL d n = ([0, 1] ++ List.replicate q 255 ++ midL) ++ d := by simp [encL, hq]
theorem u8s_appd (a b : List Nat) : u8s (a ++ b) = u8s a ++ u8s b := by simp [u8s]
end Go.Proofs.YtclbjmanmkoikaaDoor
