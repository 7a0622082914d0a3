import Derived.Test.YtfjhmnbbjknflaaGreatDoorBo
import Derived.Test.YtfjhmnbbjknflaaGreatDoorBkW
import Derived.Test.YtfjhmnbbjknflaaGreatDoorRc
import Derived.Test.YtfjhmnbbjknflaaGreatDoorRa
import Derived.Test.YtfjhmnbbjknflaaGreatDoorRb
namespace Go.Proofs.YtfjhmnbbjknflaaGreatDoor
open Go.RowKit

theorem Sep.swap {w : World} {B : Nat} {r s : Rw} {R : List Rw} (h : Sep w B (r :: s :: R)) : Sep w B (s :: r :: R) := by
  obtain ⟨h1, h2⟩ := h
  have p1 := List.pairwise_cons.1 h2
  have p2 := List.pairwise_cons.1 p1.2
  refine ⟨fun x hx => h1 x (by simp only [List.mem_cons] at hx ⊢; rcases hx with h | h | h <;> simp [h]), List.pairwise_cons.2 ⟨fun x hx k hk hk' => ?_, List.pairwise_cons.2 ⟨fun x hx => p1.1 x (List.mem_cons_of_mem _ hx), p2.2⟩⟩⟩
  rcases List.mem_cons.1 hx with rfl | hx
  · exact p1.1 s List.mem_cons_self k hk' hk
  · exact p2.1 x hx k hk hk'
theorem own8_rd2 {w : World} {B : Nat} {a : Option Addr} {n c : Nat} {zs : List Nat} (h : own8 w B (.slice a n c) zs) : Rd .u8 w a zs := by
  rcases h.2 with ⟨hv, h0⟩ | ⟨g, c1, cur, hv, _, _, _, _, _, _⟩
  · intro j hj; omega
  · simp only [Value.slice.injEq] at hv
    obtain ⟨rfl, rfl, rfl⟩ := hv
    intro j hj
    refine ⟨g, 0, rfl, fun i hi => ?_⟩
    have h2 := World.ownsRow.cellAt h i (by omega)
    rw [Nat.zero_add, h2, u8s_at zs i hi]
    rfl
theorem BytesTells.sameB {xs : List Nat} {k k' : Int} {l l' : List Nat} (h : BytesTells xs k l) (h' : BytesTells xs k' l') : k = k' ∧ l = l' := h.one h'
end Go.Proofs.YtfjhmnbbjknflaaGreatDoor
