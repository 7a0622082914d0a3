import Derived.Test.YtclbjmanmkoikaaGreatDoorGC
import Derived.Deep.RegionHeld3
import Derived.Test.YtclbjmanmkoikaaGreatDoorGB
namespace Go.Proofs.YtclbjmanmkoikaaGreatDoor
open Go.RowKit

/-- The first worth that does not fit. -/
def LIM : Nat := 18446744073709551616 ^ 64
set_option exponentiation.threshold 10000 in
theorem lim_bits {n k : Nat} (h : BitsIs n k) : (k ≤ 4096) = (n < LIM) := by
  have e : LIM = 2 ^ 4096 := by unfold LIM; rw [pow_64]
  rw [e]
  apply propext
  rcases h with ⟨rfl, rfl⟩ | ⟨h0, h1, h2⟩
  · exact ⟨fun _ => Nat.pow_pos (by decide), fun _ => by omega⟩
  · constructor
    · intro hk
      exact Nat.lt_of_lt_of_le h2 (Nat.pow_le_pow_right (by decide) hk)
    · intro hn
      refine Nat.le_of_not_lt fun hk => ?_
      have : 2 ^ 4096 ≤ 2 ^ (k - 1) := Nat.pow_le_pow_right (by decide) (by omega)
      exact absurd (Nat.le_trans this h1) (Nat.not_le.2 hn)
/-- A whole number's worth, and its sign. -/
def wv (n : Bool) (xs : List Nat) : Int := if n then -(val xs : Int) else (val xs : Int)
theorem wv_abs (n : Bool) (xs : List Nat) : (wv n xs).natAbs = val xs := by unfold wv; split <;> omega
def sg (z : Int) : Int := if z = 0 then 0 else if z < 0 then -1 else 1
theorem sg_le (z : Int) : -1 ≤ sg z ∧ sg z ≤ 1 := by unfold sg; split <;> (try split) <;> omega

/-- Two whole numbers that lie in the call's first two blocks. -/
def Boxes (B : Nat) (n : Bool) (a : Option Addr) (la ca : Nat) (m : Bool) (b : Option Addr) (lb cb : Nat) (w W : World) : Prop :=
  W.cell? ⟨B, 0, none⟩ = some (.bool n) ∧ W.cell? ⟨B, 1, none⟩ = some (.slice a la ca) ∧ W.cell? ⟨B + 1, 0, none⟩ = some (.bool m) ∧ W.cell? ⟨B + 1, 1, none⟩ = some (.slice b lb cb) ∧ Below B w W
theorem boxes_alloc {B : Nat} {n : Bool} {a : Option Addr} {la ca : Nat} {m : Bool} {b : Option Addr} {lb cb : Nat} {w W : World} (h : Boxes B n a la ca m b lb cb w W) (hB : w.heap.size = B) (o : Obj) : Boxes B n a la ca m b lb cb w (W.alloc o) := by
  subst hB
  have c := below_cell (w := W) ((Below.refl _ _).alloc (Nat.le_refl _) o)
  exact ⟨c _ _ h.1, c _ _ h.2.1, c _ _ h.2.2.1, c _ _ h.2.2.2.1, h.2.2.2.2.alloc h.2.2.2.2.size _⟩
theorem boxes_below {B : Nat} {n : Bool} {a : Option Addr} {la ca : Nat} {m : Bool} {b : Option Addr} {lb cb : Nat} {w W : World} (h : Boxes B n a la ca m b lb cb w W) : Below B w W := h.2.2.2.2
theorem sg_wrap (z : Int) : IntKind.i64.wrap (sg z + 1) = sg z + 1 := by
  have := sg_le z
  have h : sg z = -1 ∨ sg z = 0 ∨ sg z = 1 := by omega
  rcases h with h | h | h <;> rw [h] <;> decide

theorem own64.under {w w' : World} {B : Nat} {v : Value} {zs : List Nat} (h : own64 w B v zs) (hb : Below w.heap.size w w') : own64 w' B v zs :=
  ((Chg.of_below hb).owns h fun k hk he => by have := (World.ownsRow.lt h k hk).2; omega)
/-- A whole number as a value. -/
def WV (n : Bool) (a : Option Addr) (la ca : Nat) : Value := .agg #[.bool n, .slice a la ca]

theorem heap_kept {w : World} {g : Nat} {x : Obj} (h : w.heap[g]? = some x) (o : Obj) : (w.alloc o).heap[g]? = some x := by
  rw [Below.heap_alloc _ _ _ (lt_of_block h)]; exact h
theorem heap_new (w : World) (o : Obj) : (w.alloc o).heap[w.heap.size]? = some o := by
  show (w.heap.push o)[w.heap.size]? = _
  simp

set_option exponentiation.threshold 10000 in
set_option maxHeartbeats 1000000 in
theorem norm_any (a : Option Addr) (la ca : Nat) (xs : List Nat) (w : World) (hla : xs.length = la) (hba : la ≤ 1048576) (hca : la ≤ ca) (hna : a = none → ca = 0) (hra : Rd .u64 w a xs) (bx : Bd xs) :
    Calls Tryz.prog 92 #[.slice a la ca] w (NumPost (fl xs ≤ 128) (val xs) w) := by
  have hfa := (fl_spec xs).1
  have hnum : Hid (Num (fm xs) (val xs)) := num_fm bx
  go_enter Tryz.func92, Tryz.ntmps92
  go_wp2_with fail
  refine (one_any a la ca xs _ hla (by omega) hca hra).mono ?_
  rintro e w1 ⟨hor, rfl⟩
  rcases hor with ⟨h1, a', c', rfl, g1, g2⟩ | ⟨h1, rfl⟩
  · have fa : FormOf a ca (fl xs) a' c' := ⟨g1, g2⟩
    have hra' := fa.rd hra hfa
    have hna' : Hid (a' = none → c' = 0) := fun h => ((fa.cap hca (by omega)).2 h).elim id (fun h2 => by
      rcases Nat.eq_zero_or_pos (fl xs) with h0 | hp
      · exact (fa.2 h0).2
      · rw [(fa.1 hp).2]; exact hna h2)
    have e1 : Hid ((fm xs).length = fl xs) := fm_length xs
    have HR : Hid (Rd .u64 w a' (fm xs)) := hra'
    clear fa g1 g2 hra hna hra'
    go_wp2_with fail
    refine (copied_any a' (fl xs) c' (fm xs) _ e1.out (by omega) (fun _ h => hna'.out h) HR.out).mono ?_
    rintro e w2 ⟨v, rfl, hown, hbl, hnil⟩
    have HO := Lib.hid hown
    clear hown hnil
    go_wp2
    go_ret2
    refine ⟨hbl, .inr ⟨h1, ?_, v, fm xs, rfl, HO.out, hnum.out⟩⟩
    rw [← hnum.out.len_le, e1.out]; exact h1
  · go_wp2
    go_ret2
    exact ⟨Below.refl _ _, .inl ⟨fun h => by omega, rfl⟩⟩

/-- What a call answers that tells a whole number, or that it does not fit. -/
def WPost (P : Prop) (W : Int) (w : World) (e : Ending) (w' : World) : Prop :=
  Below w.heap.size w w' ∧
  ((¬ (P ∧ W.natAbs < LIM) ∧ e = .returned (.tuple #[.agg #[.bool false, .slice none 0 0], .int .i64 3])) ∨
   (P ∧ W.natAbs < LIM ∧ ∃ a c zs, e = .returned (.tuple #[.agg #[.bool (decide (W < 0)), .slice a zs.length c], .int .i64 0]) ∧ own64 w' w.heap.size (.slice a zs.length c) zs ∧ Num zs W.natAbs))
theorem lim_fl {xs : List Nat} (bx : Bd xs) (h : val xs < LIM) : fl xs ≤ 64 := by
  have := (num_fm bx).len_le (k := 64)
  rw [fm_length] at this
  exact this.2 h
theorem lim_lt : LIM ≤ 18446744073709551616 ^ 128 := by unfold LIM; exact Nat.pow_le_pow_right (by decide) (by decide)
theorem wv_neg (n : Bool) (xs : List Nat) : (n && decide (0 < val xs)) = decide (wv n xs < 0) := by
  unfold wv; cases n <;> simp <;> omega

theorem WPost.told {P : Prop} {W : Int} {w w' : World} {e : Ending} (h : WPost P W w e w') : ∃ n a l c k, e = .returned (.tuple #[.agg #[.bool n, .slice a l c], .int .i64 k]) := by
  rcases h.2 with ⟨_, rfl⟩ | ⟨_, _, a, c, zs, rfl, _⟩
  · exact ⟨_, _, _, _, _, rfl⟩
  · exact ⟨_, _, _, _, _, rfl⟩
theorem results_cell_one {fn : Func} {p : Tmp} {ty : TypeId} (h : fn.results = #[.cell p ty]) (tmps : Array Value) (P : Program) (w : World) :
    (results fn tmps).run P w = ((asAddr (tmps.getD p undef)).run P w).andThen fun a w₁ => (loadVar ty a).run P w₁ := by
  simp only [results, h]
  simp [Sem.run_bind, Result.andThen]
def IPost (z : Int) (w : World) (e : Ending) (w' : World) : Prop :=
  Below w.heap.size w w' ∧ ∃ a c zs, e = .returned (.agg #[.bool (decide (z < 0)), .slice a zs.length c]) ∧ own64 w' w.heap.size (.slice a zs.length c) zs ∧ Num zs z.natAbs

theorem neg_u64 (z : Int) (x : Nat) (hz : z.natAbs = x) (hn : z < 0) (h1 : -9223372036854775808 ≤ z) : IntKind.u64.wrap (-IntKind.u64.wrap z) = (x : Int) := by
  simp [IntKind.wrap, IntKind.signed, IntKind.bits]
  omega
theorem val_one (x : Nat) : val [x] = x := by simp [val]
theorem IPost.alloc {z : Int} {w w' : World} {e : Ending} (h : IPost z w e w') (o : Obj) : IPost z w e (w'.alloc o) := by
  obtain ⟨h0, a, c, zs, he, ho, hN⟩ := h
  exact ⟨h0.alloc h0.size _, a, c, zs, he, own64.under ho ((Below.refl _ _).alloc (Nat.le_refl _) _), hN⟩
/-- What a reading tells, as a number and a list. -/
def ParseTells (l : List UInt8) (k : Int) (zs : List Nat) : Prop :=
  (65536 < l.length ∧ k = 3 ∧ zs = []) ∨ (l.length ≤ 65536 ∧ decB l = false ∧ k = 12 ∧ zs = []) ∨
  (l.length ≤ 65536 ∧ decB l = true ∧ 18446744073709551616 ^ 128 ≤ dval l ∧ k = 3 ∧ zs = []) ∨
  (l.length ≤ 65536 ∧ decB l = true ∧ dval l < 18446744073709551616 ^ 128 ∧ k = 0 ∧ Num zs (dval l))
def FromTells (l : List Nat) (k : Int) (zs : List Nat) : Prop :=
  (18446744073709551616 ^ 128 ≤ bval l ∧ k = 3 ∧ zs = []) ∨ (bval l < 18446744073709551616 ^ 128 ∧ k = 0 ∧ Num zs (bval l))
def Told (Q : Int → List Nat → Prop) (w : World) (e : Ending) (w' : World) : Prop :=
  Below w.heap.size w w' ∧ ∃ a c k zs, e = .returned (.tuple #[.slice a zs.length c, .int .i64 k]) ∧ own64 w' w.heap.size (.slice a zs.length c) zs ∧ zs.length ≤ 128 ∧ Q k zs
theorem ParsePost.told {l : List UInt8} {w w' : World} {e : Ending} (h : ParsePost l w e w') : Told (ParseTells l) w e w' := by
  obtain ⟨hb, h | h | h | h⟩ := h
  · exact ⟨hb, none, 0, 3, [], h.2, own64_nil _ _, by decide, .inl ⟨h.1, rfl, rfl⟩⟩
  · exact ⟨hb, none, 0, 12, [], h.2.2, own64_nil _ _, by decide, .inr (.inl ⟨h.1, h.2.1, rfl, rfl⟩)⟩
  · exact ⟨hb, none, 0, 3, [], h.2.2.2, own64_nil _ _, by decide, .inr (.inr (.inl ⟨h.1, h.2.1, h.2.2.1, rfl, rfl⟩))⟩
  · obtain ⟨h1, h2, h3, v, zs, rfl, ho, hn⟩ := h
    obtain ⟨a, c, rfl, _⟩ := own64.form ho
    exact ⟨hb, a, c, 0, zs, rfl, ho, hn.len_le.2 h3, .inr (.inr (.inr ⟨h1, h2, h3, rfl, hn⟩))⟩
theorem FromPost.told {l : List Nat} {w w' : World} {e : Ending} (h : FromPost l w e w') : Told (FromTells l) w e w' := by
  obtain ⟨hb, h | h⟩ := h
  · exact ⟨hb, none, 0, 3, [], h.2, own64_nil _ _, by decide, .inl ⟨h.1, rfl, rfl⟩⟩
  · obtain ⟨h3, v, zs, rfl, ho, hn⟩ := h
    obtain ⟨a, c, rfl, _⟩ := own64.form ho
    exact ⟨hb, a, c, 0, zs, rfl, ho, hn.len_le.2 h3, .inr ⟨h3, rfl, hn⟩⟩
theorem ParseTells.one {l : List UInt8} {k k' : Int} {zs zs' : List Nat} (h : ParseTells l k zs) (h' : ParseTells l k' zs') : k = k' ∧ zs = zs' := by
  rcases h with ⟨h1, rfl, rfl⟩ | ⟨h1, h2, rfl, rfl⟩ | ⟨h1, h2, h3, rfl, rfl⟩ | ⟨h1, h2, h3, rfl, h4⟩ <;>
  rcases h' with ⟨g1, rfl, rfl⟩ | ⟨g1, g2, rfl, rfl⟩ | ⟨g1, g2, g3, rfl, rfl⟩ | ⟨g1, g2, g3, rfl, g4⟩ <;>
  first | exact ⟨rfl, rfl⟩ | exact ⟨rfl, h4.unique g4⟩ | (exfalso; omega) | (exfalso; simp_all)
theorem FromTells.one {l : List Nat} {k k' : Int} {zs zs' : List Nat} (h : FromTells l k zs) (h' : FromTells l k' zs') : k = k' ∧ zs = zs' := by
  rcases h with ⟨h1, rfl, rfl⟩ | ⟨h3, rfl, h4⟩ <;>
  rcases h' with ⟨g1, rfl, rfl⟩ | ⟨g3, rfl, g4⟩ <;>
  first | exact ⟨rfl, rfl⟩ | exact ⟨rfl, h4.unique g4⟩ | (exfalso; omega)

/-- What Text answers. -/
def WText (n : Bool) (xs : List Nat) (w : World) (e : Ending) (w' : World) : Prop :=
  Below w.heap.size w w' ∧
  ((LIM ≤ val xs ∧ e = .returned (.tuple #[.string ⟨#[]⟩, .int .i64 3])) ∨
   (val xs < LIM ∧ ∃ l, IsDec l (val xs) ∧ e = .returned (.tuple #[.string ⟨(if wv n xs < 0 then 45 :: l else l).toArray⟩, .int .i64 0])))
theorem sg_neg (z : Int) : decide (sg z < 0) = decide (z < 0) := by
  rw [decide_eq_decide]; unfold sg; split <;> (try split) <;> omega
/-- A whole number and an error, told by what is known of them. -/
def WTold (Q : Int → Bool → List Nat → Prop) (w : World) (e : Ending) (w' : World) : Prop :=
  Below w.heap.size w w' ∧ ∃ n a c k zs, e = .returned (.tuple #[.agg #[.bool n, .slice a zs.length c], .int .i64 k]) ∧ own64 w' w.heap.size (.slice a zs.length c) zs ∧ Q k n zs
theorem WTold.from {Q : Int → Bool → List Nat → Prop} {w0 w w' : World} {e : Ending} (h : WTold Q w e w') (hb : Below w0.heap.size w0 w) : WTold Q w0 e w' := by
  obtain ⟨h0, n, a, c, k, zs, he, ho, hQ⟩ := h
  exact ⟨hb.trans (h0.mono hb.size), n, a, c, k, zs, he, owns_base ho hb.size, hQ⟩
theorem WTold.told {Q : Int → Bool → List Nat → Prop} {w w' : World} {e : Ending} (h : WTold Q w e w') : ∃ n a l c k, e = .returned (.tuple #[.agg #[.bool n, .slice a l c], .int .i64 k]) := by
  obtain ⟨_, n, a, c, k, zs, he, _⟩ := h
  exact ⟨_, _, _, _, _, he⟩

/-- What the closure tells. -/
def MadeTells (n : Bool) (k0 : Int) (N : Nat) (k : Int) (m : Bool) (zs : List Nat) : Prop :=
  (k0 ≠ 0 ∧ k = k0 ∧ m = false ∧ zs = []) ∨ (k0 = 0 ∧ LIM ≤ N ∧ k = 3 ∧ m = false ∧ zs = []) ∨ (k0 = 0 ∧ N < LIM ∧ k = 0 ∧ m = (n && decide (0 < N)) ∧ Num zs N)
/-- What Parse tells. -/
def WParseTells (l : List UInt8) (k : Int) (m : Bool) (zs : List Nat) : Prop :=
  (65536 < l.length ∧ k = 3 ∧ m = false ∧ zs = []) ∨ (l.length ≤ 65536 ∧ decB (Lib.trimPrefix l [45]) = false ∧ k = 12 ∧ m = false ∧ zs = []) ∨
  (l.length ≤ 65536 ∧ decB (Lib.trimPrefix l [45]) = true ∧ LIM ≤ dval (Lib.trimPrefix l [45]) ∧ k = 3 ∧ m = false ∧ zs = []) ∨
  (l.length ≤ 65536 ∧ decB (Lib.trimPrefix l [45]) = true ∧ dval (Lib.trimPrefix l [45]) < LIM ∧ k = 0 ∧ m = (Lib.hasPrefix l [45] && decide (0 < dval (Lib.trimPrefix l [45]))) ∧ Num zs (dval (Lib.trimPrefix l [45])))
theorem trimPrefix_len (l p : List UInt8) : (Lib.trimPrefix l p).length ≤ l.length := by unfold Lib.trimPrefix; split <;> simp
theorem sg_at (z : Int) : ∃ i : Nat, i ≤ 2 ∧ sg z + 1 = (i : Int) := ⟨(sg z + 1).toNat, by have := sg_le z; omega, by have := sg_le z; omega⟩

theorem bcell2 {B : Nat} {W W' : World} (hb : Below B W W') (k i : Nat) (hk : k < B) : W'.cell? ⟨k, i, none⟩ = W.cell? ⟨k, i, none⟩ := by
  have := hb.block k hk
  unfold World.cell?
  rw [this]
/-- What a call tells that reckons with two whole numbers. -/
def WTells (P : Prop) (W : Int) (k : Int) (n : Bool) (zs : List Nat) : Prop :=
  (¬ (P ∧ W.natAbs < LIM) ∧ k = 3 ∧ n = false ∧ zs = []) ∨ (P ∧ W.natAbs < LIM ∧ k = 0 ∧ n = decide (W < 0) ∧ Num zs W.natAbs)

theorem WPost.wtold {P : Prop} {W : Int} {w w' : World} {e : Ending} (h : WPost P W w e w') : WTold (WTells P W) w e w' := by
  rcases h.2 with ⟨h1, rfl⟩ | ⟨hP, hl, a, c, zs, rfl, ho, hN⟩
  · exact ⟨h.1, false, none, 0, 3, [], rfl, own64_nil _ _, .inl ⟨h1, rfl, rfl, rfl⟩⟩
  · exact ⟨h.1, _, a, c, 0, zs, rfl, ho, .inr ⟨hP, hl, rfl, rfl, hN⟩⟩
theorem lim_mul {x y : Nat} (h : x < LIM) (k : y < LIM) : x * y < 18446744073709551616 ^ 128 := by
  rw [show (18446744073709551616 : Nat) ^ 128 = LIM * LIM by unfold LIM; rw [← Nat.pow_add]]
  exact Nat.mul_lt_mul'' h k
theorem num_told {n m x y N B : Nat} {w w' : World} {e : Ending} (h : n ≤ 128 ∧ m ≤ 128 ∧ N < 18446744073709551616 ^ 128 ∧ x < LIM ∧ y < LIM)
    (hor : (¬ ((n ≤ 128 ∧ m ≤ 128) ∧ N < 18446744073709551616 ^ 128) ∧ e = .returned (.tuple #[.slice none 0 0, .int .i64 3])) ∨ ((n ≤ 128 ∧ m ≤ 128) ∧ N < 18446744073709551616 ^ 128 ∧ ∃ v zs, e = .returned (.tuple #[v, .int .i64 0]) ∧ own64 w' w.heap.size v zs ∧ Num zs N)) (hB : B ≤ w.heap.size) :
    ∃ v k, e = .returned (.tuple #[v, .int .i64 k]) ∧ ((¬ ((x < LIM ∧ y < LIM) ∧ N < LIM) ∧ v = .slice none 0 0 ∧ k = 3) ∨ ((x < LIM ∧ y < LIM) ∧ k = 0 ∧ ∃ zs, own64 w' B v zs ∧ Num zs N ∧ zs.length ≤ 1048576)) := by
  rcases hor with ⟨h1, _⟩ | ⟨_, h2, v, zs, rfl, ho, hN⟩
  · exact absurd ⟨⟨h.1, h.2.1⟩, h.2.2.1⟩ h1
  · exact ⟨v, 0, rfl, .inr ⟨h.2.2.2, rfl, zs, owns_base ho hB, hN, by have := hN.len_le.2 h2; omega⟩⟩
theorem heap_third (w : World) (o1 o2 o3 : Obj) : (((w.alloc o1).alloc o2).alloc o3).heap[w.heap.size + 1 + 1]? = some o3 := by
  have h := heap_new ((w.alloc o1).alloc o2) o3
  have e : ((w.alloc o1).alloc o2).heap.size = w.heap.size + 1 + 1 := by simp
  rw [e] at h
  exact h
theorem sg_mul (x y : Int) (i j : Nat) (t : Int) (nb : Bool) (hi : sg x + 1 = (i : Int)) (hj : sg y + 1 = (j : Int)) (ht : t = ((i : Int) - 1) * ((j : Int) - 1)) (hn : decide (t < 0) = nb) (N : Nat) (hN : (x * y).natAbs = N) :
    (nb && decide (0 < N)) = decide (x * y < 0) := by
  have e1 : ((i : Int) - 1) = sg x := by omega
  have e2 : ((j : Int) - 1) = sg y := by omega
  rw [e1, e2] at ht
  have key : (sg x * sg y < 0) ↔ (x * y < 0) := by
    unfold sg
    rcases Int.lt_trichotomy x 0 with hx | hx | hx <;> rcases Int.lt_trichotomy y 0 with hy | hy | hy
    · simp [Int.ne_of_lt hx, Int.ne_of_lt hy, hx, hy]; exact Int.le_of_lt (Int.mul_pos_of_neg_of_neg hx hy)
    · simp [hy]
    · simp [Int.ne_of_lt hx, Int.ne_of_gt hy, hx, Int.not_lt.2 (Int.le_of_lt hy)]; exact Int.mul_neg_of_neg_of_pos hx hy
    · simp [hx]
    · simp [hx]
    · simp [hx]
    · simp [Int.ne_of_gt hx, Int.ne_of_lt hy, hy, Int.not_lt.2 (Int.le_of_lt hx)]; exact Int.mul_neg_of_pos_of_neg hx hy
    · simp [hy]
    · simp [Int.ne_of_gt hx, Int.ne_of_gt hy, Int.not_lt.2 (Int.le_of_lt hx), Int.not_lt.2 (Int.le_of_lt hy)]; exact Int.le_of_lt (Int.mul_pos hx hy)
  rw [← ht] at key
  rw [← hn]
  by_cases h : x * y < 0
  · rw [decide_eq_true h, decide_eq_true (key.2 h), decide_eq_true (show 0 < N by omega)]; rfl
  · rw [decide_eq_false h, decide_eq_false (fun h2 => h (key.1 h2))]; rfl

end Go.Proofs.YtclbjmanmkoikaaGreatDoor
