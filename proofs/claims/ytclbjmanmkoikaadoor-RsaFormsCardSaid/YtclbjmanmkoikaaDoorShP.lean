import Derived.Test.YtclbjmanmkoikaaDoorSa
import Derived.Laws.StructEq
namespace Go.Proofs.YtclbjmanmkoikaaDoor
open Go.RowKit

def i8s (l : List Int) : List Value := l.map (.int .u8)
theorem part8 (cs : Array Value) (i : Nat) (v : Value) (hv : cs[i]? = some v) (w : World) : (part 5 cs i).run Tryd.prog w = .ok v w := by
  have hu8 := run_underlying (P := Tryd.prog) Tryd.underlying5
  simp [part, isAgg, hu8, hv, Sem.run_bind, Result.andThen]
theorem size8 (w : World) : (sizeOf 5).run Tryd.prog w = .ok 1 w := by
  obtain ⟨i, hi, _, hs, _⟩ := info_parts info8
  simp [sizeOf, typeInfo, hi, hs]
set_option maxRecDepth 100000 in
theorem equal20 (d : Nat) (xs ys : List Int) (hx : xs.length = 20) (hy : ys.length = 20) (w : World) : (Op.equalIn (d + 2) 38 (.agg (i8s xs).toArray) (.agg (i8s ys).toArray)).run Tryd.prog w = .ok (decide (xs = ys)) w := by
  have hu := run_underlying (P := Tryd.prog) Tryd.underlying38
  have hu8 : Tryd.prog.underlying 5 = some (.int .u8) := Tryd.underlying5
  have key : ∀ (is : List Nat), (∀ i ∈ is, i < 20) → ∀ w, Sem.run Tryd.prog (forIn is ((none, ()) : Option Bool × Unit) fun i (_ : Option Bool × Unit) => do
      let a ← part 5 (i8s xs).toArray (i * 1)
      let b ← part 5 (i8s ys).toArray (i * 1)
      let c ← Op.equalIn (d + 1) 5 a b
      if (!c) = true then pure (ForInStep.done (some false, ())) else pure (ForInStep.yield (none, ()))) w = .ok (if ∀ i ∈ is, xs.getD i 0 = ys.getD i 0 then (none, ()) else (some false, ())) w := by
    intro is
    induction is with
    | nil => intro _ w; simp
    | cons i is ih =>
      intro hi w
      have h20 := hi i List.mem_cons_self
      have px := part8 (i8s xs).toArray i (.int .u8 (xs.getD i 0)) (by simp [i8s, List.getD, show i < xs.length by omega])
      have py := part8 (i8s ys).toArray i (.int .u8 (ys.getD i 0)) (by simp [i8s, List.getD, show i < ys.length by omega])
      rw [List.forIn_cons]
      simp only [Sem.run_bind, Nat.mul_one, px, py, Result.andThen_ok, run_equalIn_int _ d _ .u8 .u8 _ _ hu8, Sem.run_ite]
      by_cases e : xs.getD i 0 = ys.getD i 0
      · have e2 : (!(xs.getD i 0 == ys.getD i 0)) = false := by rw [e, beq_self_eq_true]; rfl
        rw [if_neg (by rw [e2]; decide)]
        simp only [Sem.run_pure, Result.andThen_ok]
        have := ih (fun j hj => hi j (List.mem_cons_of_mem _ hj)) w
        simp only [Nat.mul_one] at this
        rw [this]
        congr 1
        by_cases h : ∀ j ∈ is, xs.getD j 0 = ys.getD j 0
        · rw [if_pos h, if_pos (by intro j hj; rcases List.mem_cons.1 hj with rfl | hj; exact e; exact h j hj)]
        · rw [if_neg h, if_neg (fun h' => h fun j hj => h' j (List.mem_cons_of_mem _ hj))]
      · rw [if_pos (by rw [Bool.not_eq_true', beq_eq_false_iff_ne]; exact e)]
        simp only [Sem.run_pure, Result.andThen_ok]
        rw [if_neg (fun h' => e (h' i List.mem_cons_self))]
  rw [Op.equalIn]
  simp only [Sem.run_bind, hu, Result.andThen_ok, size8]
  rw [Std.Legacy.Range.forIn_eq_forIn_range', key _ (by intro i hi; simp at hi; omega)]
  simp only [Result.andThen_ok]
  by_cases h : xs = ys
  · subst h; simp
  · rw [if_neg]
    · simp [h]
    · intro h'
      apply h
      apply List.ext_getElem (by omega)
      intro i h1 h2
      have := h' i (by simp; omega)
      simpa [List.getD, h1, h2] using this
theorem eql20 (xs ys : List Int) (hx : xs.length = 20) (hy : ys.length = 20) (w : World) : (binOp .eql 38 (.agg (i8s xs).toArray) (.agg (i8s ys).toArray)).run Tryd.prog w = .ok (.bool (decide (xs = ys))) w := by
  rw [run_eql_struct, equal20 9998 xs ys hx hy]; rfl
theorem neq20 (xs ys : List Int) (hx : xs.length = 20) (hy : ys.length = 20) (w : World) : (binOp .neq 38 (.agg (i8s xs).toArray) (.agg (i8s ys).toArray)).run Tryd.prog w = .ok (.bool (!decide (xs = ys))) w := by
  rw [run_neq_struct, equal20 9998 xs ys hx hy]; rfl
end Go.Proofs.YtclbjmanmkoikaaDoor
