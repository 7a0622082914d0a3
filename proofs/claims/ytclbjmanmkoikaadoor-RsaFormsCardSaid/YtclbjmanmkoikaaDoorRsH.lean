import Derived.Test.YtclbjmanmkoikaaDoorRsG
namespace Go.Proofs.YtclbjmanmkoikaaDoor
open Go.RowKit

/-! The reference: Raise, Encoded, Verify. -/
theorem own8_litL (w : World) (l : List Nat) (n : Nat) (hn : n = l.length) (hb : n ≤ 1000) (cs : Array Value) (hc : cs = (u8s l).toArray) : own8 (w.alloc (.cells cs 5)) w.heap.size (.slice (some ⟨w.heap.size, 0, none⟩) n n) l := by
  subst hn hc
  refine ⟨by simp [u8s], .inr ⟨w.heap.size, l.length, (u8s l).toArray, rfl, Nat.le_refl _, heap_new w _, Nat.le_refl _, Nat.le_trans hb (by decide), by simp [u8s], ?_⟩⟩
  show (u8s l).toArray.toList.take (l.length * 1) = u8s l
  rw [Nat.mul_one]
  exact List.take_of_length_le (by simp [u8s])
end Go.Proofs.YtclbjmanmkoikaaDoor
