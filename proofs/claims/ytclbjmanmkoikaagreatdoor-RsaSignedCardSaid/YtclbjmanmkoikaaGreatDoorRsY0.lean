import Derived.Test.YtclbjmanmkoikaaGreatDoorRsX
namespace Go.Proofs.YtclbjmanmkoikaaGreatDoor
open Go.RowKit

set_option maxHeartbeats 800000 in
set_option maxRecDepth 100000 in
theorem r8keys2 (w : World) :
    Calls Tryz.prog 27 #[] w fun e w' => Below w.heap.size w w' ∧ ∃ a b c d p q x y, e = .returned (.agg #[a, b, c, d, p, q, x, y]) ∧ OwnL w' w.heap.size a kn0 ∧ OwnL w' w.heap.size b ke0 ∧ OwnL w' w.heap.size c kn1 ∧ OwnL w' w.heap.size d ke1 ∧ OwnL w' w.heap.size p kn2 ∧ OwnL w' w.heap.size q ke2 ∧ OwnL w' w.heap.size x kn3 ∧ OwnL w' w.heap.size y ke3 ∧ (a.ownBlock ≠ b.ownBlock ∧ c.ownBlock ≠ d.ownBlock ∧ p.ownBlock ≠ q.ownBlock ∧ x.ownBlock ≠ y.ownBlock) := by
  go_enter Tryz.func27, Tryz.ntmps27
  go_wp2
  refine bodyPost_ret (results_K8 rfl rfl (((((((((CB.new w _ [_, _, _, _, _, _, _, _]).alloc _).alloc _).alloc _).alloc _).alloc _).alloc _).alloc _).alloc _)) rfl ⟨(((((((((Below.refl w.heap.size w).alloc (Nat.le_refl _) _).alloc (by simp <;> omega) _).alloc (by simp <;> omega) _).alloc (by simp <;> omega) _).alloc (by simp <;> omega) _).alloc (by simp <;> omega) _).alloc (by simp <;> omega) _).alloc (by simp <;> omega) _).alloc (by simp <;> omega) _, _, _, _, _, _, _, _, _, rfl, (((((((own_litN kn0 (w.heap.size + 1) 8 _ (by simp) rfl (by decide) rfl (by simp <;> omega)).alloc _).alloc _).alloc _).alloc _).alloc _).alloc _).alloc _, ((((((own_litN ke0 (w.heap.size + 1 + 1) 1 _ (by simp) rfl (by decide) rfl (by simp <;> omega)).alloc _).alloc _).alloc _).alloc _).alloc _).alloc _, (((((own_litN kn1 (w.heap.size + 1 + 1 + 1) 8 _ (by simp) rfl (by decide) rfl (by simp <;> omega)).alloc _).alloc _).alloc _).alloc _).alloc _, ((((own_litN ke1 (w.heap.size + 1 + 1 + 1 + 1) 1 _ (by simp) rfl (by decide) rfl (by simp <;> omega)).alloc _).alloc _).alloc _).alloc _, (((own_litN kn2 (w.heap.size + 1 + 1 + 1 + 1 + 1) 8 _ (by simp) rfl (by decide) rfl (by simp <;> omega)).alloc _).alloc _).alloc _, ((own_litN ke2 (w.heap.size + 1 + 1 + 1 + 1 + 1 + 1) 1 _ (by simp) rfl (by decide) rfl (by simp <;> omega)).alloc _).alloc _, (own_litN kn3 (w.heap.size + 1 + 1 + 1 + 1 + 1 + 1 + 1) 6 _ (by simp) rfl (by decide) rfl (by simp <;> omega)).alloc _, own_litN ke3 (w.heap.size + 1 + 1 + 1 + 1 + 1 + 1 + 1 + 1) 1 _ (by simp) rfl (by decide) rfl (by simp <;> omega), by simp [Value.ownBlock], by simp [Value.ownBlock], by simp [Value.ownBlock], by simp [Value.ownBlock]⟩
theorem pick4K2 {a b c d p q x y : Value} {w : World} {B : Nat} (h : OwnL w B a kn0 ∧ OwnL w B b ke0 ∧ OwnL w B c kn1 ∧ OwnL w B d ke1 ∧ OwnL w B p kn2 ∧ OwnL w B q ke2 ∧ OwnL w B x kn3 ∧ OwnL w B y ke3 ∧ (a.ownBlock ≠ b.ownBlock ∧ c.ownBlock ≠ d.ownBlock ∧ p.ownBlock ≠ q.ownBlock ∧ x.ownBlock ≠ y.ownBlock)) (i : Nat) (hi : i < 4) :
    ∃ vN vE, OwnL w B vN (knL i) ∧ OwnL w B vE (keL i) ∧ vN.ownBlock ≠ vE.ownBlock ∧ ∀ W : World, (Instr.index 48 (.agg #[a, b, c, d, p, q, x, y]) (.int .i64 (i : Nat))).run Tryz.prog W = .ok (.agg #[vN, vE]) W := by
  obtain ⟨h0, h1, h2, h3, h4, h5, h6, h7, n0, n1, n2, n3⟩ := h
  rcases (show i = 0 ∨ i = 1 ∨ i = 2 ∨ i = 3 by omega) with rfl | rfl | rfl | rfl
  · exact ⟨a, b, h0, h1, n0, fun W => by simp [Instr.index, run_underlying Tryz.underlying48, asIntOf, Sem.run_bind, Result.andThen, part_key]⟩
  · exact ⟨c, d, h2, h3, n1, fun W => by simp [Instr.index, run_underlying Tryz.underlying48, asIntOf, Sem.run_bind, Result.andThen, part_key]⟩
  · exact ⟨p, q, h4, h5, n2, fun W => by simp [Instr.index, run_underlying Tryz.underlying48, asIntOf, Sem.run_bind, Result.andThen, part_key]⟩
  · exact ⟨x, y, h6, h7, n3, fun W => by simp [Instr.index, run_underlying Tryz.underlying48, asIntOf, Sem.run_bind, Result.andThen, part_key]⟩
end Go.Proofs.YtclbjmanmkoikaaGreatDoor
