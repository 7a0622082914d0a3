import Derived.Test.YtkghgfiindpcjaaRInv
namespace Go.Proofs.Ytkghgfiindpcjaa
open Go.RowKit

/-- A drawing region in which nothing old is written: what each operation leaves, said once; an operation may panic. -/
theorem wp_region_sp {P : Program} {ops : Array Oper} {Q : Exit → Act → World → Prop} {id : Nat} {a0 : Act} {w0 : World} (hm : P.follows .mixedOrders = true) (hp : plainB ops = true)
    (I : World → Prop) (Sp : Nat → Value → World → Prop) (hI : ∀ W W', I W → Below W.heap.size W W' → I W') (hS : ∀ j u W W', I W → Sp j u W → Below W.heap.size W W' → Sp j u W') (h0 : I w0.drew)
    (hstep : ∀ i o L val a W, ops[i]? = some o → (∀ e ∈ o.after, Region.binds .any e = true → L e.on = true) → Holds ops a0 L val a → I W → (∀ j, j < ops.size → L j = true → Sp j (val j) W) →
      ∀ K', Hid (∀ v W', Below W.heap.size W W' → Sp i v W' → K' (a.put o.dst v) W') → Oper.wp P o a W K' Q)
    (hfin : ∀ val W, I W → (∀ j, j < ops.size → Sp j (val j) W) → Q .normal (putAll ops val a0 ops.size) W) : (Code.region id ops true).wp P Q a0 w0 := by
  refine wp_region_inv hm hp (fun L val W => I W ∧ ∀ j, j < ops.size → L j = true → Sp j (val j) W) ⟨h0, fun j _ h => by cases h⟩ (fun L L' val w h hq => ⟨hq.1, fun j hj hL => hq.2 j hj (by rw [h j]; exact hL)⟩) ?_ ?_
  · intro i o L val a W ho hLi hdep hH hΦ K' hK'
    refine hstep i o L val a W ho hdep hH hΦ.1 hΦ.2 K' (show ∀ v W', _ from fun v W' hb hv => hK'.out v W' ⟨hI _ _ hΦ.1 hb, fun j hj hL => ?_⟩)
    unfold upV
    by_cases hji : j = i
    · subst hji
      rw [if_pos rfl]
      exact hv
    · rw [if_neg hji]
      exact hS _ _ _ _ hΦ.1 (hΦ.2 j hj (by simpa [upB, hji] using hL)) hb
  · intro L val w hL hΦ
    exact hfin val w hΦ.1 fun j hj => hΦ.2 j hj (hL j hj)
end Go.Proofs.Ytkghgfiindpcjaa
