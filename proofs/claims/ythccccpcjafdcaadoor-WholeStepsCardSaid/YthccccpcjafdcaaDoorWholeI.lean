import Derived.Test.YthccccpcjafdcaaDoorWholeG
namespace Go.Proofs.YthccccpcjafdcaaDoor
open Go.RowKit

/-- The tables of signs. -/
structure Tabs (w : World) : Prop where
  prod : ∀ i j : Nat, i ≤ 2 → j ≤ 2 → w.cell? ⟨1, i * 3 + j, none⟩ = some (.int .i64 (((i : Int) - 1) * ((j : Int) - 1)))
  ords : ∀ i j : Nat, i ≤ 2 → j ≤ 2 → w.cell? ⟨0, i * 3 + j, none⟩ = some (.int .i64 (sg ((i : Int) - (j : Int))))
theorem Tabs.below {w w' : World} (h : Tabs w) (hb : Below w.heap.size w w') : Tabs w' := ⟨fun i j hi hj => below_cell hb _ _ (h.prod i j hi hj), fun i j hi hj => below_cell hb _ _ (h.ords i j hi hj)⟩
theorem sg_at (z : Int) : ∃ i : Nat, i ≤ 2 ∧ sg z + 1 = (i : Int) := ⟨(sg z + 1).toNat, by have := sg_le z; omega, by have := sg_le z; omega⟩

/-- A block that holds a whole number, whichever. -/
def Held (W : World) (g : Nat) : Prop := ∃ n a l c, W.heap[g]? = some (WO n a l c)
/-- What a statement reads that reckons with two whole numbers: the two, a place of a table; its result's block. -/
def Reg2 (B : Nat) (n : Bool) (a : Option Addr) (la ca : Nat) (m : Bool) (b : Option Addr) (lb cb G off : Nat) (t : Int) (w W : World) : Prop :=
  W.cell? ⟨B, 0, none⟩ = some (.bool n) ∧ W.cell? ⟨B, 1, none⟩ = some (.slice a la ca) ∧ W.cell? ⟨B + 1, 0, none⟩ = some (.bool m) ∧ W.cell? ⟨B + 1, 1, none⟩ = some (.slice b lb cb) ∧ W.cell? ⟨G, off, none⟩ = some (.int .i64 t) ∧ Held W (B + 1 + 1) ∧ Below B w W
theorem bcell2 {B : Nat} {W W' : World} (hb : Below B W W') (k i : Nat) (hk : k < B) : W'.cell? ⟨k, i, none⟩ = W.cell? ⟨k, i, none⟩ := by
  have := hb.block k hk
  unfold World.cell?
  rw [this]
theorem Held.below {w w' : World} {g : Nat} (h : Held w g) (hb : Below w.heap.size w w') : Held w' g := by
  obtain ⟨n, a, l, c, h⟩ := h
  exact ⟨n, a, l, c, by rw [hb.block g (lt_of_block h)]; exact h⟩
theorem Held.set {w : World} {g : Nat} (h : Held w g) (n : Bool) (a : Option Addr) (la ca : Nat) : Held ((w.setCell ⟨g, 0, none⟩ (.bool n)).setCell ⟨g, 1, none⟩ (.slice a la ca)) g := by
  obtain ⟨n0, a0, l0, c0, h⟩ := h
  have h1 := heap_setCell_same w g 0 _ _ (.bool n) h
  exact ⟨n, a, la, ca, heap_setCell_same _ g 1 _ _ (.slice a la ca) h1⟩
theorem reg2_below {B : Nat} {n : Bool} {a : Option Addr} {la ca : Nat} {m : Bool} {b : Option Addr} {lb cb G off : Nat} {t : Int} {w W W' : World} (h : Reg2 B n a la ca m b lb cb G off t w W) (hB : w.heap.size = B) (hb : Below W.heap.size W W') : Reg2 B n a la ca m b lb cb G off t w W' := by
  subst hB
  have c := below_cell hb
  exact ⟨c _ _ h.1, c _ _ h.2.1, c _ _ h.2.2.1, c _ _ h.2.2.2.1, c _ _ h.2.2.2.2.1, h.2.2.2.2.2.1.below hb, h.2.2.2.2.2.2.trans (hb.mono h.2.2.2.2.2.2.size)⟩
theorem reg2_set {B : Nat} {n : Bool} {a : Option Addr} {la ca : Nat} {m : Bool} {b : Option Addr} {lb cb G off : Nat} {t : Int} {w W : World} (h : Reg2 B n a la ca m b lb cb G off t w W) (hG : G < B) (x : Bool) (y : Option Addr) (ly cy : Nat) :
    Reg2 B n a la ca m b lb cb G off t w ((W.setCell ⟨B + 1 + 1, 0, none⟩ (.bool x)).setCell ⟨B + 1 + 1, 1, none⟩ (.slice y ly cy)) := by
  have c : ∀ k i v, k < B + 2 → W.cell? ⟨k, i, none⟩ = some v → ((W.setCell ⟨B + 1 + 1, 0, none⟩ (.bool x)).setCell ⟨B + 1 + 1, 1, none⟩ (.slice y ly cy)).cell? ⟨k, i, none⟩ = some v := by
    intro k i v hk hv
    have hb : Below (B + 2) W ((W.setCell ⟨B + 1 + 1, 0, none⟩ (.bool x)).setCell ⟨B + 1 + 1, 1, none⟩ (.slice y ly cy)) := ((Below.refl _ _).setCell (show B + 2 ≤ B + 1 + 1 from Nat.le_refl _) _).setCell (show B + 2 ≤ B + 1 + 1 from Nat.le_refl _) _
    rw [(bcell2 hb) k i hk]; exact hv
  exact ⟨c _ _ _ (by omega) h.1, c _ _ _ (by omega) h.2.1, c _ _ _ (by omega) h.2.2.1, c _ _ _ (by omega) h.2.2.2.1, c _ _ _ (by omega) h.2.2.2.2.1, h.2.2.2.2.2.1.set _ _ _ _, (h.2.2.2.2.2.2.setCell (by show B ≤ B + 1 + 1; omega) _).setCell (by show B ≤ B + 1 + 1; omega) _⟩
/-- The result's block, as it is before it is written. -/
theorem Held.cells {W : World} {g : Nat} (h : Held W g) : ∃ n a l c, W.cell? ⟨g, 0, none⟩ = some (.bool n) ∧ W.cell? ⟨g, 1, none⟩ = some (.slice a l c) ∧ W.frozen? ⟨g, 0, none⟩ = false ∧ W.frozen? ⟨g, 1, none⟩ = false := by
  obtain ⟨n, a, l, c, h⟩ := h
  unfold WO at h
  refine ⟨n, a, l, c, ?_, ?_, ?_, ?_⟩ <;> simp [World.cell?, World.frozen?, h]
/-- What a call tells that reckons with two whole numbers. -/
def WTells (P : Prop) (W : Int) (k : Int) (n : Bool) (zs : List Nat) : Prop :=
  (¬ (P ∧ W.natAbs < LIM) ∧ k = 3 ∧ n = false ∧ zs = []) ∨ (P ∧ W.natAbs < LIM ∧ k = 0 ∧ n = decide (W < 0) ∧ Num zs W.natAbs)

theorem WPost.wtold {P : Prop} {W : Int} {w w' : World} {e : Ending} (h : WPost P W w e w') : WTold (WTells P W) w e w' := by
  rcases h.2 with ⟨h1, rfl⟩ | ⟨hP, hl, a, c, zs, rfl, ho, hN⟩
  · exact ⟨h.1, false, none, 0, 3, [], rfl, own64_nil _ _, .inl ⟨h1, rfl, rfl, rfl⟩⟩
  · exact ⟨h.1, _, a, c, 0, zs, rfl, ho, .inr ⟨hP, hl, rfl, rfl, hN⟩⟩
theorem own64.not_held {w : World} {B g k : Nat} {v : Value} {zs : List Nat} (h : own64 w B v zs) (hg : Held w g) (hk : v.ownBlock = some k) : k ≠ g := by
  rintro rfl
  obtain ⟨n, a, l, c, h2⟩ := hg
  rcases h.2 with ⟨rfl, _⟩ | ⟨g', c', cur, rfl, _, hh, _⟩
  · cases hk
  · obtain rfl : g' = k := by simpa [Value.ownBlock] using hk
    rw [hh] at h2
    simp [WO] at h2
theorem WTold.seth {Q : Int → Bool → List Nat → Prop} {w w' : World} {e : Ending} (h : WTold Q w e w') {g : Nat} (hg : Held w' g) (hw : w.heap.size ≤ g) (u0 u1 : Value) : WTold Q w e ((w'.setCell ⟨g, 0, none⟩ u0).setCell ⟨g, 1, none⟩ u1) := by
  obtain ⟨h0, n, a, c, k, zs, he, ho, hQ⟩ := h
  refine ⟨(h0.setCell hw u0).setCell hw u1, n, a, c, k, zs, he, ?_, hQ⟩
  exact (((Chg.refl (fun k => k = g) _).setCell (p := ⟨g, 0, none⟩) rfl u0).setCell (p := ⟨g, 1, none⟩) rfl u1).owns ho fun k hk he => own64.not_held ho hg hk he
theorem results_held {fn : Func} {p u : Tmp} (h : fn.results = #[.cell p 44, .tmp u]) {tmps : Array Value} {w : World} {g : Nat} {n : Bool} {a : Option Addr} {la ca : Nat} {v : Value}
    (hp : tmps.getD p undef = .pointer (some ⟨g, 0, none⟩)) (hu : tmps.getD u undef = v) (hg : Held w g) :
    (results fn tmps).run Tryd.prog ((w.setCell ⟨g, 0, none⟩ (.bool n)).setCell ⟨g, 1, none⟩ (.slice a la ca)) = .ok (.tuple #[.agg #[.bool n, .slice a la ca], v]) ((w.setCell ⟨g, 0, none⟩ (.bool n)).setCell ⟨g, 1, none⟩ (.slice a la ca)) := by
  obtain ⟨n0, a0, l0, c0, h0⟩ := hg
  have h1 := heap_setCell_same w g 0 _ _ (.bool n) h0
  have h2 := heap_setCell_same _ g 1 _ _ (.slice a la ca) h1
  exact results_WO2 h hp hu h2
theorem lim_mul {x y : Nat} (h : x < LIM) (k : y < LIM) : x * y < 18446744073709551616 ^ 128 := by
  rw [show (18446744073709551616 : Nat) ^ 128 = LIM * LIM by unfold LIM; rw [← Nat.pow_add]]
  exact Nat.mul_lt_mul'' h k
theorem num_told {n m x y N B : Nat} {w w' : World} {e : Ending} (h : n ≤ 128 ∧ m ≤ 128 ∧ N < 18446744073709551616 ^ 128 ∧ x < LIM ∧ y < LIM)
    (hor : (¬ ((n ≤ 128 ∧ m ≤ 128) ∧ N < 18446744073709551616 ^ 128) ∧ e = .returned (.tuple #[.slice none 0 0, .int .i64 3])) ∨ ((n ≤ 128 ∧ m ≤ 128) ∧ N < 18446744073709551616 ^ 128 ∧ ∃ v zs, e = .returned (.tuple #[v, .int .i64 0]) ∧ own64 w' w.heap.size v zs ∧ Num zs N)) (hB : B ≤ w.heap.size) :
    ∃ v k, e = .returned (.tuple #[v, .int .i64 k]) ∧ ((¬ ((x < LIM ∧ y < LIM) ∧ N < LIM) ∧ v = .slice none 0 0 ∧ k = 3) ∨ ((x < LIM ∧ y < LIM) ∧ k = 0 ∧ ∃ zs, own64 w' B v zs ∧ Num zs N ∧ zs.length ≤ 1048576)) := by
  rcases hor with ⟨h1, _⟩ | ⟨_, h2, v, zs, rfl, ho, hN⟩
  · exact absurd ⟨⟨h.1, h.2.1⟩, h.2.2.1⟩ h1
  · exact ⟨v, 0, rfl, .inr ⟨h.2.2.2, rfl, zs, owns_base ho hB, hN, by have := hN.len_le.2 h2; omega⟩⟩
theorem heap_third (w : World) (o1 o2 o3 : Obj) : (((w.alloc o1).alloc o2).alloc o3).heap[w.heap.size + 1 + 1]? = some o3 := by
  have h := heap_new ((w.alloc o1).alloc o2) o3
  have e : ((w.alloc o1).alloc o2).heap.size = w.heap.size + 1 + 1 := by simp
  rw [e] at h
  exact h
theorem sg_mul (x y : Int) (i j : Nat) (t : Int) (nb : Bool) (hi : sg x + 1 = (i : Int)) (hj : sg y + 1 = (j : Int)) (ht : t = ((i : Int) - 1) * ((j : Int) - 1)) (hn : decide (t < 0) = nb) (N : Nat) (hN : (x * y).natAbs = N) :
    (nb && decide (0 < N)) = decide (x * y < 0) := by
  have e1 : ((i : Int) - 1) = sg x := by omega
  have e2 : ((j : Int) - 1) = sg y := by omega
  rw [e1, e2] at ht
  have key : (sg x * sg y < 0) ↔ (x * y < 0) := by
    unfold sg
    rcases Int.lt_trichotomy x 0 with hx | hx | hx <;> rcases Int.lt_trichotomy y 0 with hy | hy | hy
    · simp [Int.ne_of_lt hx, Int.ne_of_lt hy, hx, hy]; exact Int.le_of_lt (Int.mul_pos_of_neg_of_neg hx hy)
    · simp [hy]
    · simp [Int.ne_of_lt hx, Int.ne_of_gt hy, hx, Int.not_lt.2 (Int.le_of_lt hy)]; exact Int.mul_neg_of_neg_of_pos hx hy
    · simp [hx]
    · simp [hx]
    · simp [hx]
    · simp [Int.ne_of_gt hx, Int.ne_of_lt hy, hy, Int.not_lt.2 (Int.le_of_lt hx)]; exact Int.mul_neg_of_pos_of_neg hx hy
    · simp [hy]
    · simp [Int.ne_of_gt hx, Int.ne_of_gt hy, Int.not_lt.2 (Int.le_of_lt hx), Int.not_lt.2 (Int.le_of_lt hy)]; exact Int.le_of_lt (Int.mul_pos hx hy)
  rw [← ht] at key
  rw [← hn]
  by_cases h : x * y < 0
  · rw [decide_eq_true h, decide_eq_true (key.2 h), decide_eq_true (show 0 < N by omega)]; rfl
  · rw [decide_eq_false h, decide_eq_false (fun h2 => h (key.1 h2))]; rfl

set_option maxHeartbeats 1000000 in
set_option maxRecDepth 100000 in
theorem wmul_of (n m : Bool) (a b : Option Addr) (la ca lb cb : Nat) (xs ys : List Nat) (w : World) (hla : xs.length = la) (hlb : ys.length = lb) (hba : la ≤ 1048576) (hbb : lb ≤ 1048576) (hca : la ≤ ca) (hcb : lb ≤ cb)
    (hra : Rd .u64 w a xs) (hrb : Rd .u64 w b ys) (bx : Bd xs) (bY : Bd ys) (ht : Tabs w)
    (hmul : ∀ W, Below w.heap.size w W → Calls Tryd.prog 54 #[.slice a la ca, .slice b lb cb] W (NumPost (fl xs ≤ 128 ∧ fl ys ≤ 128) (val xs * val ys) W)) :
    Calls Tryd.prog 35 #[.agg #[.bool n, .slice a la ca], .agg #[.bool m, .slice b lb cb]] w (WTold (WTells (val xs < LIM ∧ val ys < LIM) (wv n xs * wv m ys)) w) := by
  have HA := Lib.hid (fun (W : World) (h : Below w.heap.size w W) => hra.below h)
  have HB := Lib.hid (fun (W : World) (h : Below w.heap.size w W) => hrb.below h)
  have HM := Lib.hid hmul
  have HBX := Lib.hid bx
  have HBY := Lib.hid bY
  have HT := Lib.hid ht
  clear hra hrb hmul bx bY ht
  go_enter Tryd.func35, Tryd.ntmps35
  go_wp2_with fail
  refine (wfits_any n a la ca xs _ hla hba hca (HA.out _ ((((Below.refl _ _).alloc (Nat.le_refl _) _).alloc (by simp) _).alloc (by simp <;> omega) _)) HBX.out).mono ?_
  rintro e w1 ⟨rfl, rfl⟩
  by_cases h1 : val xs < LIM
  · rw [decide_eq_true h1]
    go_wp2_with fail
    refine (wfits_any m b lb cb ys _ hlb hbb hcb (HB.out _ (((((Below.refl _ _).alloc (Nat.le_refl _) _).alloc (by simp) _).alloc (by simp <;> omega) _).alloc (by simp <;> omega) _)) HBY.out).mono ?_
    rintro e w1 ⟨rfl, rfl⟩
    by_cases h2 : val ys < LIM
    · rw [decide_eq_true h2]
      have H1 := Lib.hid h1
      have H2 := Lib.hid h2
      clear h1 h2
      go_wp2_with fail
      have hb0 : Below w.heap.size w (((((w.alloc (WO n a la ca)).alloc (WO m b lb cb)).alloc (WO false none 0 0)).alloc (WO n a la ca)).alloc (WO m b lb cb)) := (((((Below.refl _ _).alloc (Nat.le_refl _) _).alloc (by simp) _).alloc (by simp <;> omega) _).alloc (by simp <;> omega) _).alloc (by simp <;> omega) _
      refine (places_any n m a b la ca lb cb xs ys _ hla hlb hba hbb hca hcb (HA.out _ hb0) (HB.out _ hb0) HBX.out HBY.out).mono ?_
      rintro e w2 ⟨rfl, hb2⟩
      obtain ⟨i, hi, ei⟩ := sg_at (wv n xs)
      obtain ⟨j, hj, ej⟩ := sg_at (wv m ys)
      rw [ei, ej]
      have HEI := Lib.hid ei
      have HEJ := Lib.hid ej
      have hi3 : (i : Int) < 3 := by omega
      have hj3 : (j : Int) < 3 := by omega
      obtain ⟨t, hte⟩ : ∃ t : Int, t = ((i : Int) - 1) * ((j : Int) - 1) := ⟨_, rfl⟩
      obtain ⟨nb, hnb⟩ : ∃ nb, decide (t < 0) = nb := ⟨_, rfl⟩
      have HNB := Lib.hid hnb
      have hS0 : Hid (Reg2 w.heap.size n a la ca m b lb cb 1 (i * 3 + j) t w w2.drew) := by
        have h0 : Reg2 w.heap.size n a la ca m b lb cb 1 (i * 3 + j) t w (((((w.alloc (WO n a la ca)).alloc (WO m b lb cb)).alloc (WO false none 0 0)).alloc (WO n a la ca)).alloc (WO m b lb cb)) := by
          have hs := below_cell hb0 _ _ (HT.out.prod i j hi hj)
          rw [← hte] at hs
          have hx := boxes0 n a la ca m b lb cb w
          have g1 := below_cell (w := (w.alloc (WO n a la ca)).alloc (WO m b lb cb)) (w' := (((((w.alloc (WO n a la ca)).alloc (WO m b lb cb)).alloc (WO false none 0 0)).alloc (WO n a la ca)).alloc (WO m b lb cb))) ((((Below.refl _ _).alloc (Nat.le_refl _) _).alloc (by simp) _).alloc (by simp <;> omega) _)
          refine ⟨g1 _ _ hx.1, g1 _ _ hx.2.1, g1 _ _ hx.2.2.1, g1 _ _ hx.2.2.2.1, hs, ⟨false, none, 0, 0, ?_⟩, hb0⟩
          have h3 := heap_new ((w.alloc (WO n a la ca)).alloc (WO m b lb cb)) (WO false none 0 0)
          have e3 : ((w.alloc (WO n a la ca)).alloc (WO m b lb cb)).heap.size = w.heap.size + 1 + 1 := by simp
          rw [e3] at h3
          exact heap_kept (heap_kept h3 _) _
        exact reg2_below (reg2_below h0 rfl hb2) rfl ((Below.refl _ _).drew)
      have HTE := Lib.hid hte
      have HKB : Hid (∀ W W', Reg2 w.heap.size n a la ca m b lb cb 1 (i * 3 + j) t w W → Below W.heap.size W W' → Reg2 w.heap.size n a la ca m b lb cb 1 (i * 3 + j) t w W') := fun W W' h hb => reg2_below h rfl hb
      have hG : 1 < w.heap.size := World.block_lt_of_cell? w _ (HT.out.prod 0 0 (by decide) (by decide))
      have HKS : Hid (∀ W x y ly cy, Reg2 w.heap.size n a la ca m b lb cb 1 (i * 3 + j) t w W → Reg2 w.heap.size n a la ca m b lb cb 1 (i * 3 + j) t w ((W.setCell ⟨w.heap.size + 1 + 1, 0, none⟩ (.bool x)).setCell ⟨w.heap.size + 1 + 1, 1, none⟩ (.slice y ly cy))) := fun W x y ly cy h => reg2_set h hG x y ly cy
      have HKA : Hid (∀ W o, Reg2 w.heap.size n a la ca m b lb cb 1 (i * 3 + j) t w W → Reg2 w.heap.size n a la ca m b lb cb 1 (i * 3 + j) t w (W.alloc o)) := fun W o h => reg2_below h rfl ((Below.refl _ _).alloc (Nat.le_refl _) _)
      have HKW : Hid (∀ W, Reg2 w.heap.size n a la ca m b lb cb 1 (i * 3 + j) t w W → Below w.heap.size w W) := fun W h => h.2.2.2.2.2.2
      have HKO : Hid (∀ W, Reg2 w.heap.size n a la ca m b lb cb 1 (i * 3 + j) t w W → w.heap.size ≤ W.heap.size) := fun W h => h.2.2.2.2.2.2.size
      have HKH : Hid (∀ W, Reg2 w.heap.size n a la ca m b lb cb 1 (i * 3 + j) t w W → Held W (w.heap.size + 1 + 1)) := fun W h => h.2.2.2.2.2.1
      have HAB : Hid ((wv n xs * wv m ys).natAbs = val xs * val ys) := by show _ = _; rw [Int.natAbs_mul, wv_abs, wv_abs]
      have HSG : Hid (val xs < LIM ∧ val ys < LIM → (nb && decide (0 < val xs * val ys)) = decide (wv n xs * wv m ys < 0)) := fun _ => sg_mul _ _ i j t nb ei ej hte hnb _ HAB.out
      have HFL : Hid (fl xs ≤ 128 ∧ fl ys ≤ 128 ∧ val xs * val ys < 18446744073709551616 ^ 128 ∧ val xs < LIM ∧ val ys < LIM) := ⟨Nat.le_trans (lim_fl HBX.out H1.out) (by decide), Nat.le_trans (lim_fl HBY.out H2.out) (by decide), lim_mul H1.out H2.out, H1.out, H2.out⟩
      clear ei ej hte hb0 hb2 hG
      go_wp2
      go_region_held3 (fun W => W.cell? ⟨w.heap.size, 0, none⟩ = some (.bool n) ∧ W.cell? ⟨w.heap.size, 1, none⟩ = some (.slice a la ca) ∧ W.cell? ⟨w.heap.size + 1, 0, none⟩ = some (.bool m) ∧ W.cell? ⟨w.heap.size + 1, 1, none⟩ = some (.slice b lb cb) ∧ W.cell? ⟨1, i * 3 + j, none⟩ = some (.int .i64 t) ∧ Held W (w.heap.size + 1 + 1) ∧ Below w.heap.size w W)
        (first
        | exact hS0.out
        | exact HKB.out _ _ (by assumption) hb3
        | exact HKA.out _ _ (by assumption)
        | exact HKS.out _ _ _ _ _ (by assumption))
        (first
        | (go_at_call 65; (with_reducible refine (maker_any nb _).mono ?_); rintro e w3 ⟨rfl, rfl⟩)
        | (go_at_call 54; (refine (HM.out _ (HKW.out _ (by assumption))).mono ?_); rintro e w3 ⟨hb3, hor⟩
           obtain ⟨v, k, rfl, hor2⟩ := num_told HFL.out hor (HKO.out _ (by assumption))
           have HOR := Lib.hid hor2
           have HCL := Lib.hid (below_cell hb3 ⟨w2.heap.size, 0, none⟩ (.bool nb) (by simp))
           clear hor hor2)
        | (go_at_call 89; (refine (made_any nb (wv n xs * wv m ys) (val xs < LIM ∧ val ys < LIM) _ (val xs * val ys) w _ _ _ HCL.out (HKW.out _ (by assumption)) HAB.out HSG.out HOR.out).mono ?_); rintro e w4 ⟨hb3, hW⟩
           obtain ⟨n', a', l', c', k', rfl⟩ := hW.told
           have HHE := Lib.hid ((HKH.out _ (by assumption)).below hb3)
           obtain ⟨_, _, _, _, c0, c1, f0, f1⟩ := HHE.out.cells
           have HW := Lib.hid hW.wtold
           clear hW))
      go_wp2
      refine bodyPost_ret (results_held rfl rfl rfl HHE.out) rfl ?_
      exact HW.out.seth HHE.out (by omega) _ _
    · have H2 := Lib.hid h2
      rw [decide_eq_false h2]
      clear h1 h2
      go_wp2
      refine bodyPost_ret (results_WO2 rfl rfl rfl (heap_kept (heap_kept (heap_third _ _ _ _) _) _)) rfl ?_
      exact ⟨((((Below.refl _ _).alloc (Nat.le_refl _) _).alloc (by simp) _).alloc (by simp <;> omega) _).alloc (by simp <;> omega) _ |>.alloc (by simp <;> omega) _, false, none, 0, 3, [], rfl, own64_nil _ _, .inl ⟨fun h => H2.out h.1.2, rfl, rfl, rfl⟩⟩
  · have H1 := Lib.hid h1
    rw [decide_eq_false h1]
    clear h1
    go_wp2
    refine bodyPost_ret (results_WO2 rfl rfl rfl (heap_kept (heap_third _ _ _ _) _)) rfl ?_
    exact ⟨(((Below.refl _ _).alloc (Nat.le_refl _) _).alloc (by simp) _).alloc (by simp <;> omega) _ |>.alloc (by simp <;> omega) _, false, none, 0, 3, [], rfl, own64_nil _ _, .inl ⟨fun h => H1.out h.1.1, rfl, rfl, rfl⟩⟩
end Go.Proofs.YthccccpcjafdcaaDoor
