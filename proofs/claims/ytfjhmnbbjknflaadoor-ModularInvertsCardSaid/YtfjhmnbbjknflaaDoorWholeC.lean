import Derived.Test.YtfjhmnbbjknflaaDoorWholeB
namespace Go.Proofs.YtfjhmnbbjknflaaDoor
open Go.RowKit

theorem own64.under {w w' : World} {B : Nat} {v : Value} {zs : List Nat} (h : own64 w B v zs) (hb : Below w.heap.size w w') : own64 w' B v zs :=
  ((Chg.of_below hb).owns h fun k hk he => by have := (World.ownsRow.lt h k hk).2; omega)
/-- A whole number as a value. -/
def WV (n : Bool) (a : Option Addr) (la ca : Nat) : Value := .agg #[.bool n, .slice a la ca]

theorem heap_kept {w : World} {g : Nat} {x : Obj} (h : w.heap[g]? = some x) (o : Obj) : (w.alloc o).heap[g]? = some x := by
  rw [Below.heap_alloc _ _ _ (lt_of_block h)]; exact h
theorem heap_new (w : World) (o : Obj) : (w.alloc o).heap[w.heap.size]? = some o := by
  show (w.heap.push o)[w.heap.size]? = _
  simp

set_option exponentiation.threshold 10000 in
set_option maxHeartbeats 1000000 in
theorem norm_any (a : Option Addr) (la ca : Nat) (xs : List Nat) (w : World) (hla : xs.length = la) (hba : la ≤ 1048576) (hca : la ≤ ca) (hna : a = none → ca = 0) (hra : Rd .u64 w a xs) (bx : Bd xs) :
    Calls Tryd.prog 65 #[.slice a la ca] w (NumPost (fl xs ≤ 128) (val xs) w) := by
  have hfa := (fl_spec xs).1
  have hnum : Hid (Num (fm xs) (val xs)) := num_fm bx
  go_enter Tryd.func65, Tryd.ntmps65
  go_wp2_with fail
  refine (one_any a la ca xs _ hla (by omega) hca hra).mono ?_
  rintro e w1 ⟨hor, rfl⟩
  rcases hor with ⟨h1, a', c', rfl, g1, g2⟩ | ⟨h1, rfl⟩
  · have fa : FormOf a ca (fl xs) a' c' := ⟨g1, g2⟩
    have hra' := fa.rd hra hfa
    have hna' : Hid (a' = none → c' = 0) := fun h => ((fa.cap hca (by omega)).2 h).elim id (fun h2 => by
      rcases Nat.eq_zero_or_pos (fl xs) with h0 | hp
      · exact (fa.2 h0).2
      · rw [(fa.1 hp).2]; exact hna h2)
    have e1 : Hid ((fm xs).length = fl xs) := fm_length xs
    have HR : Hid (Rd .u64 w a' (fm xs)) := hra'
    clear fa g1 g2 hra hna hra'
    go_wp2_with fail
    refine (copied_any a' (fl xs) c' (fm xs) _ e1.out (by omega) (fun _ h => hna'.out h) HR.out).mono ?_
    rintro e w2 ⟨v, rfl, hown, hbl, hnil⟩
    have HO := Lib.hid hown
    clear hown hnil
    go_wp2
    go_ret2
    refine ⟨hbl, .inr ⟨h1, ?_, v, fm xs, rfl, HO.out, hnum.out⟩⟩
    rw [← hnum.out.len_le, e1.out]; exact h1
  · go_wp2
    go_ret2
    exact ⟨Below.refl _ _, .inl ⟨fun h => by omega, rfl⟩⟩

/-- What a call answers that tells a whole number, or that it does not fit. -/
def WPost (P : Prop) (W : Int) (w : World) (e : Ending) (w' : World) : Prop :=
  Below w.heap.size w w' ∧
  ((¬ (P ∧ W.natAbs < LIM) ∧ e = .returned (.tuple #[.agg #[.bool false, .slice none 0 0], .int .i64 3])) ∨
   (P ∧ W.natAbs < LIM ∧ ∃ a c zs, e = .returned (.tuple #[.agg #[.bool (decide (W < 0)), .slice a zs.length c], .int .i64 0]) ∧ own64 w' w.heap.size (.slice a zs.length c) zs ∧ Num zs W.natAbs))
theorem lim_fl {xs : List Nat} (bx : Bd xs) (h : val xs < LIM) : fl xs ≤ 64 := by
  have := (num_fm bx).len_le (k := 64)
  rw [fm_length] at this
  exact this.2 h
theorem lim_lt : LIM ≤ 18446744073709551616 ^ 128 := by unfold LIM; exact Nat.pow_le_pow_right (by decide) (by decide)
theorem wv_neg (n : Bool) (xs : List Nat) : (n && decide (0 < val xs)) = decide (wv n xs < 0) := by
  unfold wv; cases n <;> simp <;> omega

theorem WPost.told {P : Prop} {W : Int} {w w' : World} {e : Ending} (h : WPost P W w e w') : ∃ n a l c k, e = .returned (.tuple #[.agg #[.bool n, .slice a l c], .int .i64 k]) := by
  rcases h.2 with ⟨_, rfl⟩ | ⟨_, _, a, c, zs, rfl, _⟩
  · exact ⟨_, _, _, _, _, rfl⟩
  · exact ⟨_, _, _, _, _, rfl⟩
theorem results_cell_one {fn : Func} {p : Tmp} {ty : TypeId} (h : fn.results = #[.cell p ty]) (tmps : Array Value) (P : Program) (w : World) :
    (results fn tmps).run P w = ((asAddr (tmps.getD p undef)).run P w).andThen fun a w₁ => (loadVar ty a).run P w₁ := by
  simp only [results, h]
  simp [Sem.run_bind, Result.andThen]
def IPost (z : Int) (w : World) (e : Ending) (w' : World) : Prop :=
  Below w.heap.size w w' ∧ ∃ a c zs, e = .returned (.agg #[.bool (decide (z < 0)), .slice a zs.length c]) ∧ own64 w' w.heap.size (.slice a zs.length c) zs ∧ Num zs z.natAbs

theorem neg_u64 (z : Int) (x : Nat) (hz : z.natAbs = x) (hn : z < 0) (h1 : -9223372036854775808 ≤ z) : IntKind.u64.wrap (-IntKind.u64.wrap z) = (x : Int) := by
  simp [IntKind.wrap, IntKind.signed, IntKind.bits]
  omega
theorem val_one (x : Nat) : val [x] = x := by simp [val]
theorem IPost.alloc {z : Int} {w w' : World} {e : Ending} (h : IPost z w e w') (o : Obj) : IPost z w e (w'.alloc o) := by
  obtain ⟨h0, a, c, zs, he, ho, hN⟩ := h
  exact ⟨h0.alloc h0.size _, a, c, zs, he, own64.under ho ((Below.refl _ _).alloc (Nat.le_refl _) _), hN⟩
end Go.Proofs.YtfjhmnbbjknflaaDoor
