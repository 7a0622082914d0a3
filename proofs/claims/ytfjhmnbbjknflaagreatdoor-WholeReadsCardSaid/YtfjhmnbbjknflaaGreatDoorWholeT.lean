import Derived.Test.YtfjhmnbbjknflaaGreatDoorWa
import Derived.Test.YtfjhmnbbjknflaaGreatDoorGC
namespace Go.Proofs.YtfjhmnbbjknflaaGreatDoor
open Go.RowKit

/-- The table of sums' signs. -/
def sm (i j : Nat) : Int := if i = j then (i : Int) - 1 else if i + j = 2 then 2 else if i + j < 2 then -1 else 1
structure TabSum (w : World) : Prop where
  sums : ∀ i j : Nat, i ≤ 2 → j ≤ 2 → w.cell? ⟨0, i * 3 + j, none⟩ = some (.int .i64 (sm i j))
theorem TabSum.below {w w' : World} (h : TabSum w) (hb : Below w.heap.size w w') : TabSum w' := ⟨fun i j hi hj => below_cell hb _ _ (h.sums i j hi hj)⟩
theorem sg_cases (n : Bool) (x : List Nat) : (val x = 0 ∧ sg (wv n x) = 0) ∨ (0 < val x ∧ n = true ∧ sg (wv n x) = -1) ∨ (0 < val x ∧ n = false ∧ sg (wv n x) = 1) := by
  unfold sg wv
  cases n <;> simp only [Bool.false_eq_true, if_false, if_true, true_and, false_and, and_false, false_or] <;> (repeat' split) <;> first | omega | simp <;> omega
theorem sum_same (n m : Bool) (xs ys : List Nat) (i j : Nat) (nb : Bool) (hi : sg (wv n xs) + 1 = (i : Int)) (hj : sg (wv m ys) + 1 = (j : Int)) (h : sm i j ≠ 2) (hn : decide (sm i j < 0) = nb) :
    (wv n xs + wv m ys).natAbs = val xs + val ys ∧ (nb && decide (0 < val xs + val ys)) = decide (wv n xs + wv m ys < 0) := by
  have c1 := sg_cases n xs
  have c2 := sg_cases m ys
  subst hn
  unfold sm at h ⊢
  rcases c1 with ⟨a1, a2⟩ | ⟨a1, rfl, a2⟩ | ⟨a1, rfl, a2⟩ <;> rcases c2 with ⟨b1, b2⟩ | ⟨b1, rfl, b2⟩ | ⟨b1, rfl, b2⟩ <;> rw [a2] at hi <;> rw [b2] at hj
  · obtain rfl : i = 1 := by omega
    obtain rfl : j = 1 := by omega
    unfold wv; rw [a1, b1]; cases n <;> cases m <;> simp
  · obtain rfl : i = 1 := by omega
    obtain rfl : j = 0 := by omega
    have : wv n xs = 0 := by unfold wv; rw [a1]; cases n <;> simp
    rw [this, a1]; unfold wv; simp <;> omega
  · obtain rfl : i = 1 := by omega
    obtain rfl : j = 2 := by omega
    have : wv n xs = 0 := by unfold wv; rw [a1]; cases n <;> simp
    rw [this, a1]; unfold wv; simp
  · obtain rfl : i = 0 := by omega
    obtain rfl : j = 1 := by omega
    have : wv m ys = 0 := by unfold wv; rw [b1]; cases m <;> simp
    rw [this, b1]; unfold wv; simp <;> omega
  · obtain rfl : i = 0 := by omega
    obtain rfl : j = 0 := by omega
    unfold wv; simp <;> omega
  · obtain rfl : i = 0 := by omega
    obtain rfl : j = 2 := by omega
    exact absurd rfl h
  · obtain rfl : i = 2 := by omega
    obtain rfl : j = 1 := by omega
    have : wv m ys = 0 := by unfold wv; rw [b1]; cases m <;> simp
    rw [this, b1]; unfold wv; simp
  · obtain rfl : i = 2 := by omega
    obtain rfl : j = 0 := by omega
    exact absurd rfl h
  · obtain rfl : i = 2 := by omega
    obtain rfl : j = 2 := by omega
    unfold wv; simp <;> omega
theorem sum_across (n m : Bool) (xs ys : List Nat) (i j : Nat) (hi : sg (wv n xs) + 1 = (i : Int)) (hj : sg (wv m ys) + 1 = (j : Int)) (h : sm i j = 2) : m = !n := by
  have c1 := sg_cases n xs
  have c2 := sg_cases m ys
  unfold sm at h
  rcases c1 with ⟨a1, a2⟩ | ⟨a1, rfl, a2⟩ | ⟨a1, rfl, a2⟩ <;> rcases c2 with ⟨b1, b2⟩ | ⟨b1, rfl, b2⟩ | ⟨b1, rfl, b2⟩ <;> rw [a2] at hi <;> rw [b2] at hj <;> first | rfl | (exfalso; revert h; (repeat' split) <;> omega)
theorem sub_across (n : Bool) (xs ys : List Nat) (h : val ys ≤ val xs) : (wv n xs + wv (!n) ys).natAbs = val xs - val ys ∧ (n && decide (0 < val xs - val ys)) = decide (wv n xs + wv (!n) ys < 0) := by
  unfold wv
  cases n
  · refine ⟨by simp; omega, ?_⟩
    rw [Bool.false_and, eq_comm, decide_eq_false_iff_not]
    simp; omega
  · refine ⟨by simp; omega, ?_⟩
    rw [Bool.true_and, decide_eq_decide]; simp; omega
theorem lim2 {x : Nat} (h : x < 18446744073709551616) : x < LIM := Nat.lt_of_lt_of_le h (by unfold LIM; exact Nat.pow_le_pow_right (n := 18446744073709551616) (i := 1) (by decide) (by decide))
theorem lim_add {x y : Nat} (h : x < LIM) (k : y < LIM) : x + y < 18446744073709551616 ^ 128 := by
  have h2 : 2 * LIM ≤ LIM * LIM := Nat.mul_le_mul_right _ (Nat.le_of_lt (lim2 (by decide)))
  rw [show (18446744073709551616 : Nat) ^ 128 = LIM * LIM by unfold LIM; rw [← Nat.pow_add]]
  omega
theorem swap_heap {W : World} {B : Nat} {n m : Bool} {a b : Option Addr} {la ca lb cb : Nat} (h0 : W.heap[B]? = some (WO n a la ca)) (h1 : W.heap[B + 1]? = some (WO m b lb cb)) :
    ((((W.setCell ⟨B, 0, none⟩ (.bool m)).setCell ⟨B, 1, none⟩ (.slice b lb cb)).setCell ⟨B + 1, 0, none⟩ (.bool n)).setCell ⟨B + 1, 1, none⟩ (.slice a la ca)).heap[B]? = some (WO m b lb cb) ∧
    ((((W.setCell ⟨B, 0, none⟩ (.bool m)).setCell ⟨B, 1, none⟩ (.slice b lb cb)).setCell ⟨B + 1, 0, none⟩ (.bool n)).setCell ⟨B + 1, 1, none⟩ (.slice a la ca)).heap[B + 1]? = some (WO n a la ca) ∧
    (∀ k, k ≠ B → k ≠ B + 1 → ((((W.setCell ⟨B, 0, none⟩ (.bool m)).setCell ⟨B, 1, none⟩ (.slice b lb cb)).setCell ⟨B + 1, 0, none⟩ (.bool n)).setCell ⟨B + 1, 1, none⟩ (.slice a la ca)).heap[k]? = W.heap[k]?) := by
  have k1 := heap_setCell_same W B 0 _ _ (.bool m) h0
  have k2 := heap_setCell_same _ B 1 _ _ (.slice b lb cb) k1
  refine ⟨?_, ?_, fun k hk1 hk2 => ?_⟩
  · rw [Below.heap_setCell _ _ _ _ (by simp), Below.heap_setCell _ _ _ _ (by simp)]; exact k2
  · have g0 : ((W.setCell ⟨B, 0, none⟩ (.bool m)).setCell ⟨B, 1, none⟩ (.slice b lb cb)).heap[B + 1]? = some (WO m b lb cb) := by
      rw [Below.heap_setCell _ _ _ _ (by simp), Below.heap_setCell _ _ _ _ (by simp)]; exact h1
    have k3 := heap_setCell_same _ (B + 1) 0 _ _ (.bool n) g0
    exact heap_setCell_same _ (B + 1) 1 _ _ (.slice a la ca) k3
  · rw [Below.heap_setCell _ _ _ _ (by simp; omega), Below.heap_setCell _ _ _ _ (by simp; omega), Below.heap_setCell _ _ _ _ (by simp; omega), Below.heap_setCell _ _ _ _ (by simp; omega)]
theorem wo_cells {W : World} {g : Nat} {n : Bool} {a : Option Addr} {l c : Nat} (h : W.heap[g]? = some (WO n a l c)) : W.cell? ⟨g, 0, none⟩ = some (.bool n) ∧ W.cell? ⟨g, 1, none⟩ = some (.slice a l c) ∧ W.frozen? ⟨g, 0, none⟩ = false ∧ W.frozen? ⟨g, 1, none⟩ = false := by
  unfold WO at h
  refine ⟨?_, ?_, ?_, ?_⟩ <;> simp [World.cell?, World.frozen?, h]
theorem drew_cell (W : World) (p : Addr) : (World.drew W).cell? p = W.cell? p := rfl
theorem drew_heap (W : World) (k : Nat) : (World.drew W).heap[k]? = W.heap[k]? := rfl
theorem reg2_swapped {B : Nat} {n m : Bool} {a b : Option Addr} {la ca lb cb G off : Nat} {t : Int} {w W : World} (h : Reg2 B n a la ca m b lb cb G off t w W) (h0 : W.heap[B]? = some (WO n a la ca)) (h1 : W.heap[B + 1]? = some (WO m b lb cb)) (hG : G < B) :
    Reg2 B m b lb cb n a la ca G off t w (World.drew ((((W.setCell ⟨B, 0, none⟩ (.bool m)).setCell ⟨B, 1, none⟩ (.slice b lb cb)).setCell ⟨B + 1, 0, none⟩ (.bool n)).setCell ⟨B + 1, 1, none⟩ (.slice a la ca))) := by
  obtain ⟨s0, s1, s2⟩ := swap_heap h0 h1
  have hbw := (((h.2.2.2.2.2.2.setCell (p := ⟨B, 0, none⟩) (Nat.le_refl _) (.bool m)).setCell (p := ⟨B, 1, none⟩) (Nat.le_refl _) (.slice b lb cb)).setCell (p := ⟨B + 1, 0, none⟩) (Nat.le_succ _) (.bool n)).setCell (p := ⟨B + 1, 1, none⟩) (Nat.le_succ _) (.slice a la ca)
  generalize (((W.setCell ⟨B, 0, none⟩ (.bool m)).setCell ⟨B, 1, none⟩ (.slice b lb cb)).setCell ⟨B + 1, 0, none⟩ (.bool n)).setCell ⟨B + 1, 1, none⟩ (.slice a la ca) = W4 at *
  obtain ⟨e0, e1, _, _⟩ := wo_cells s0
  obtain ⟨e2, e3, _, _⟩ := wo_cells s1
  obtain ⟨n9, a9, l9, c9, h9⟩ := h.2.2.2.2.2.1
  have h8 := h.2.2.2.2.1
  have g8 := s2 G (by omega) (by omega)
  have g9 := s2 (B + 1 + 1) (by omega) (by omega)
  refine ⟨e0, e1, e2, e3, ?_, ⟨n9, a9, l9, c9, by rw [drew_heap, g9]; exact h9⟩, hbw.drew⟩
  rw [drew_cell]
  unfold World.cell? at h8 ⊢
  rw [g8]
  exact h8
theorem sub_told {xs ys : List Nat} {x y N B : Nat} {w w' : World} {e : Ending} (h1 : fl xs ≤ 128) (h2 : fl ys ≤ 128) (hx : x < LIM) (hy : y < LIM) (hge : val ys ≤ val xs) (hvx : val xs < LIM) (hN : val xs - val ys = N) (hor : SubPost xs ys w e w') (hB : B ≤ w.heap.size) :
    ∃ v k, e = .returned (.tuple #[v, .int .i64 k]) ∧ ((¬ ((x < LIM ∧ y < LIM) ∧ N < LIM) ∧ v = .slice none 0 0 ∧ k = 3) ∨ ((x < LIM ∧ y < LIM) ∧ k = 0 ∧ ∃ zs, own64 w' B v zs ∧ Num zs N ∧ zs.length ≤ 1048576)) := by
  rcases hor.2 with ⟨h, _⟩ | ⟨_, _, h, _⟩ | ⟨_, _, _, v, zs, rfl, ho, hn⟩
  · omega
  · omega
  · rw [hN] at hn
    exact ⟨v, 0, rfl, .inr ⟨⟨hx, hy⟩, rfl, zs, owns_base ho hB, hn, by have := (hn.len_le (k := 64)).2 (show N < LIM by omega); omega⟩⟩
theorem and_swap_told {x y N B : Nat} {w : World} {v : Value} {k : Int} (h : (¬ ((x < LIM ∧ y < LIM) ∧ N < LIM) ∧ v = .slice none 0 0 ∧ k = 3) ∨ ((x < LIM ∧ y < LIM) ∧ k = 0 ∧ ∃ zs, own64 w B v zs ∧ Num zs N ∧ zs.length ≤ 1048576)) :
    (¬ ((y < LIM ∧ x < LIM) ∧ N < LIM) ∧ v = .slice none 0 0 ∧ k = 3) ∨ ((y < LIM ∧ x < LIM) ∧ k = 0 ∧ ∃ zs, own64 w B v zs ∧ Num zs N ∧ zs.length ≤ 1048576) := by
  rcases h with ⟨h1, h2⟩ | ⟨⟨h1, h2⟩, h3⟩
  · exact .inl ⟨fun g => h1 ⟨⟨g.1.2, g.1.1⟩, g.2⟩, h2⟩
  · exact .inr ⟨⟨h2, h1⟩, h3⟩

set_option maxHeartbeats 1000000 in
set_option maxRecDepth 100000 in
theorem wadd_any (n m : Bool) (a b : Option Addr) (la ca lb cb : Nat) (xs ys : List Nat) (w : World) (hla : xs.length = la) (hlb : ys.length = lb) (hba : la ≤ 1048576) (hbb : lb ≤ 1048576) (hca : la ≤ ca) (hcb : lb ≤ cb)
    (hra : Rd .u64 w a xs) (hrb : Rd .u64 w b ys) (bx : Bd xs) (bY : Bd ys) (ht : TabSum w) (hna : a = none → ca = 0) (hnb0 : b = none → cb = 0) :
    Calls Tryz.prog 15 #[.agg #[.bool n, .slice a la ca], .agg #[.bool m, .slice b lb cb]] w (WTold (WTells (val xs < LIM ∧ val ys < LIM) (wv n xs + wv m ys)) w) := by
  have HA := Lib.hid (fun (W : World) (h : Below w.heap.size w W) => hra.below h)
  have HB := Lib.hid (fun (W : World) (h : Below w.heap.size w W) => hrb.below h)
  have HNA := Lib.hid hna
  have HNB0 := Lib.hid hnb0
  have HBX := Lib.hid bx
  have HBY := Lib.hid bY
  have HT := Lib.hid ht
  clear hra hrb bx bY ht hna hnb0
  go_enter Tryz.func15, Tryz.ntmps15
  go_wp2_with fail
  refine (wfits_any n a la ca xs _ hla hba hca (HA.out _ ((((Below.refl _ _).alloc (Nat.le_refl _) _).alloc (by simp) _).alloc (by simp <;> omega) _)) HBX.out).mono ?_
  rintro e w1 ⟨rfl, rfl⟩
  by_cases h1 : val xs < LIM
  · rw [decide_eq_true h1]
    go_wp2_with fail
    refine (wfits_any m b lb cb ys _ hlb hbb hcb (HB.out _ (((((Below.refl _ _).alloc (Nat.le_refl _) _).alloc (by simp) _).alloc (by simp <;> omega) _).alloc (by simp <;> omega) _)) HBY.out).mono ?_
    rintro e w1 ⟨rfl, rfl⟩
    by_cases h2 : val ys < LIM
    · rw [decide_eq_true h2]
      have H1 := Lib.hid h1
      have H2 := Lib.hid h2
      clear h1 h2
      go_wp2_with fail
      have hb0 : Below w.heap.size w (((((w.alloc (WO n a la ca)).alloc (WO m b lb cb)).alloc (WO false none 0 0)).alloc (WO n a la ca)).alloc (WO m b lb cb)) := (((((Below.refl _ _).alloc (Nat.le_refl _) _).alloc (by simp) _).alloc (by simp <;> omega) _).alloc (by simp <;> omega) _).alloc (by simp <;> omega) _
      refine (places_any n m a b la ca lb cb xs ys _ hla hlb hba hbb hca hcb (HA.out _ hb0) (HB.out _ hb0) HBX.out HBY.out).mono ?_
      rintro e w2 ⟨rfl, hb2⟩
      obtain ⟨i, hi, ei⟩ := sg_at (wv n xs)
      obtain ⟨j, hj, ej⟩ := sg_at (wv m ys)
      rw [ei, ej]
      have HEI := Lib.hid ei
      have HEJ := Lib.hid ej
      have hi3 : (i : Int) < 3 := by omega
      have hj3 : (j : Int) < 3 := by omega
      obtain ⟨t, hte⟩ : ∃ t : Int, t = sm i j := ⟨_, rfl⟩
      have h0 : Reg2 w.heap.size n a la ca m b lb cb 0 (i * 3 + j) t w (((((w.alloc (WO n a la ca)).alloc (WO m b lb cb)).alloc (WO false none 0 0)).alloc (WO n a la ca)).alloc (WO m b lb cb)) := by
        have hs := below_cell hb0 _ _ (HT.out.sums i j hi hj)
        rw [← hte] at hs
        have hx := boxes0 n a la ca m b lb cb w
        have g1 := below_cell (w := (w.alloc (WO n a la ca)).alloc (WO m b lb cb)) (w' := (((((w.alloc (WO n a la ca)).alloc (WO m b lb cb)).alloc (WO false none 0 0)).alloc (WO n a la ca)).alloc (WO m b lb cb))) ((((Below.refl _ _).alloc (Nat.le_refl _) _).alloc (by simp) _).alloc (by simp <;> omega) _)
        exact ⟨g1 _ _ hx.1, g1 _ _ hx.2.1, g1 _ _ hx.2.2.1, g1 _ _ hx.2.2.2.1, hs, ⟨false, none, 0, 0, heap_kept (heap_kept (heap_third _ _ _ _) _) _⟩, hb0⟩
      have HR2 := Lib.hid (reg2_below h0 rfl hb2)
      have HTE := Lib.hid hte
      have HBLK : Hid (w2.heap[w.heap.size]? = some (WO n a la ca) ∧ w2.heap[w.heap.size + 1]? = some (WO m b lb cb)) := by
        have e1 : (w.alloc (WO n a la ca)).heap.size = w.heap.size + 1 := by simp
        have g1 := heap_new (w.alloc (WO n a la ca)) (WO m b lb cb)
        rw [e1] at g1
        have k0 : (((((w.alloc (WO n a la ca)).alloc (WO m b lb cb)).alloc (WO false none 0 0)).alloc (WO n a la ca)).alloc (WO m b lb cb)).heap[w.heap.size]? = some (WO n a la ca) := heap_kept (heap_kept (heap_kept (heap_kept (heap_new _ _) _) _) _) _
        have k1 : (((((w.alloc (WO n a la ca)).alloc (WO m b lb cb)).alloc (WO false none 0 0)).alloc (WO n a la ca)).alloc (WO m b lb cb)).heap[w.heap.size + 1]? = some (WO m b lb cb) := heap_kept (heap_kept (heap_kept g1 _) _) _
        exact ⟨(hb2.block _ (lt_of_block k0)).trans k0, (hb2.block _ (lt_of_block k1)).trans k1⟩
      clear ei ej hte hb0 hb2 h0
      obtain ⟨x0, x1, x2, x3, x4, _, _⟩ := HR2.out
      by_cases ht2 : t = 2
      · have hq : (t != 2) = false := by rw [bne_eq_false_iff_eq]; exact ht2
        have HMN : Hid (m = !n) := sum_across n m xs ys i j HEI.out HEJ.out (HTE.out ▸ ht2)
        clear ht2
        go_wp2_with fail
        refine (cmp_any a b la lb ca cb xs ys _ hla hlb (by omega) (by omega) hca hcb (HA.out _ HR2.out.2.2.2.2.2.2) (HB.out _ HR2.out.2.2.2.2.2.2) HBX.out HBY.out).mono ?_
        rintro e w3 ⟨rfl, nd, rfl⟩
        by_cases hlt : val xs < val ys
        · rw [cmpI_of_lt hlt]
          have HGE : Hid (val xs ≤ val ys) := by show _ ≤ _; omega
          have hk0 : (w2.drewN nd).heap[w.heap.size]? = some (WO n a la ca) := HBLK.out.1
          have hk1 : (w2.drewN nd).heap[w.heap.size + 1]? = some (WO m b lb cb) := HBLK.out.2
          obtain ⟨c0, c1, f0, f1⟩ := wo_cells hk0
          obtain ⟨c2, c3, f2, f3⟩ := wo_cells hk1
          have hGw : 0 < w.heap.size := World.block_lt_of_cell? w _ (HT.out.sums 0 0 (by decide) (by decide))
          have hS0 : Hid (Reg2 w.heap.size m b lb cb n a la ca 0 (i * 3 + j) t w (World.drew (((((w2.drewN nd).setCell ⟨w.heap.size, 0, none⟩ (.bool m)).setCell ⟨w.heap.size, 1, none⟩ (.slice b lb cb)).setCell ⟨w.heap.size + 1, 0, none⟩ (.bool n)).setCell ⟨w.heap.size + 1, 1, none⟩ (.slice a la ca)))) := reg2_swapped (reg2_below HR2.out rfl (Below.drewM (Below.refl _ _) nd)) hk0 hk1 hGw
          have HS2 := Lib.hid hS0.out
          clear hGw hk0 hk1 x0 x1 x2 x3 x4 hlt
          have HKB : Hid (∀ W W', Reg2 w.heap.size m b lb cb n a la ca 0 (i * 3 + j) t w W → Below W.heap.size W W' → Reg2 w.heap.size m b lb cb n a la ca 0 (i * 3 + j) t w W') := fun W W' h hb => reg2_below h rfl hb
          have hG : 0 < w.heap.size := World.block_lt_of_cell? w _ (HT.out.sums 0 0 (by decide) (by decide))
          have HKS : Hid (∀ W x y ly cy, Reg2 w.heap.size m b lb cb n a la ca 0 (i * 3 + j) t w W → Reg2 w.heap.size m b lb cb n a la ca 0 (i * 3 + j) t w ((W.setCell ⟨w.heap.size + 1 + 1, 0, none⟩ (.bool x)).setCell ⟨w.heap.size + 1 + 1, 1, none⟩ (.slice y ly cy))) := fun W x y ly cy h => reg2_set h hG x y ly cy
          have HKA : Hid (∀ W o, Reg2 w.heap.size m b lb cb n a la ca 0 (i * 3 + j) t w W → Reg2 w.heap.size m b lb cb n a la ca 0 (i * 3 + j) t w (W.alloc o)) := fun W o h => reg2_below h rfl ((Below.refl _ _).alloc (Nat.le_refl _) _)
          have HKW : Hid (∀ W, Reg2 w.heap.size m b lb cb n a la ca 0 (i * 3 + j) t w W → Below w.heap.size w W) := fun W h => h.2.2.2.2.2.2
          have HKO : Hid (∀ W, Reg2 w.heap.size m b lb cb n a la ca 0 (i * 3 + j) t w W → w.heap.size ≤ W.heap.size) := fun W h => h.2.2.2.2.2.2.size
          have HKH : Hid (∀ W, Reg2 w.heap.size m b lb cb n a la ca 0 (i * 3 + j) t w W → Held W (w.heap.size + 1 + 1)) := fun W h => h.2.2.2.2.2.1
          clear hG
          have HAB : Hid ((wv n xs + wv m ys).natAbs = val ys - val xs) := by
            show _ = _
            rw [HMN.out, Int.add_comm]
            have h9 := (sub_across (!n) ys xs HGE.out).1
            rw [Bool.not_not] at h9
            exact h9
          have HSG : Hid (val xs < LIM ∧ val ys < LIM → (m && decide (0 < val ys - val xs)) = decide (wv n xs + wv m ys < 0)) := fun _ => by
            rw [HMN.out, Int.add_comm (wv n xs)]
            have h9 := (sub_across (!n) ys xs HGE.out).2
            rw [Bool.not_not] at h9
            exact h9
          go_wp2_with fail
          clear c0 c1 c2 c3 f0 f1 f2 f3 HS2
          generalize ((((w2.drewN nd).setCell ⟨w.heap.size, 0, none⟩ (.bool m)).setCell ⟨w.heap.size, 1, none⟩ (.slice b lb cb)).setCell ⟨w.heap.size + 1, 0, none⟩ (.bool n)).setCell ⟨w.heap.size + 1, 1, none⟩ (.slice a la ca) = W4 at *
          go_region_held3 (fun W => W.cell? ⟨w.heap.size, 0, none⟩ = some (.bool m) ∧ W.cell? ⟨w.heap.size, 1, none⟩ = some (.slice b lb cb) ∧ W.cell? ⟨w.heap.size + 1, 0, none⟩ = some (.bool n) ∧ W.cell? ⟨w.heap.size + 1, 1, none⟩ = some (.slice a la ca) ∧ W.cell? ⟨0, i * 3 + j, none⟩ = some (.int .i64 t) ∧ Held W (w.heap.size + 1 + 1) ∧ Below w.heap.size w W)
            (first
            | exact hS0.out
            | exact HKB.out _ _ (by assumption) hb3
            | exact HKA.out _ _ (by assumption)
            | exact HKS.out _ _ _ _ _ (by assumption))
            (first
            | (go_at_call 71; (with_reducible refine (maker_any m _).mono ?_); rintro e w3 ⟨rfl, rfl⟩)
            | (go_at_call 45; (refine (sub_any b a lb la cb ca ys xs _ hlb hla hbb hba hcb hca HNB0.out (HB.out _ (HKW.out _ (by assumption))) (HA.out _ (HKW.out _ (by assumption))) HBY.out HBX.out).mono ?_); intro e w3 hor
               have hb3 := hor.1
               obtain ⟨v, k, rfl, hor3⟩ := sub_told (Nat.le_trans (lim_fl HBY.out H2.out) (by decide)) (Nat.le_trans (lim_fl HBX.out H1.out) (by decide)) H2.out H1.out HGE.out H2.out rfl hor (HKO.out _ (by assumption))
               have hor2 := and_swap_told hor3
               clear hor3
               have HOR := Lib.hid hor2
               have HCL := Lib.hid (below_cell hb3 ⟨W4.heap.size, 0, none⟩ (.bool m) (by show (World.alloc W4 _).cell? _ = _; simp))
               clear hor hor2)
            | (go_at_call 104; (refine (made_any m (wv n xs + wv m ys) (val xs < LIM ∧ val ys < LIM) _ (val ys - val xs) w _ _ _ HCL.out (HKW.out _ (by assumption)) HAB.out HSG.out HOR.out).mono ?_); rintro e w4 ⟨hb3, hW⟩
               obtain ⟨n', a', l', c', k', rfl⟩ := hW.told
               have HHE := Lib.hid ((HKH.out _ (by assumption)).below hb3)
               obtain ⟨_, _, _, _, c0, c1, f0, f1⟩ := HHE.out.cells
               have HW := Lib.hid hW.wtold
               clear hW))
          go_wp2
          refine bodyPost_ret (results_held rfl rfl rfl HHE.out) rfl ?_
          exact HW.out.seth HHE.out (by omega) _ _
        · have hc := (cmpI_of_le (show val ys ≤ val xs by omega)).1
          have hqc : decide (cmpI (val xs) (val ys) < 0) = false := by rw [decide_eq_false_iff_not]; omega
          have HGE : Hid (val ys ≤ val xs) := by show _ ≤ _; omega
          generalize cmpI (val xs) (val ys) = cv at *
          clear hc hlt
          have hS0 : Hid (Reg2 w.heap.size n a la ca m b lb cb 0 (i * 3 + j) t w (World.drew (w2.drewN nd))) := ⟨x0, x1, x2, x3, x4, HR2.out.2.2.2.2.2.1, (Below.drewM HR2.out.2.2.2.2.2.2 nd).drew⟩
          have HKB : Hid (∀ W W', Reg2 w.heap.size n a la ca m b lb cb 0 (i * 3 + j) t w W → Below W.heap.size W W' → Reg2 w.heap.size n a la ca m b lb cb 0 (i * 3 + j) t w W') := fun W W' h hb => reg2_below h rfl hb
          have hG : 0 < w.heap.size := World.block_lt_of_cell? w _ (HT.out.sums 0 0 (by decide) (by decide))
          have HKS : Hid (∀ W x y ly cy, Reg2 w.heap.size n a la ca m b lb cb 0 (i * 3 + j) t w W → Reg2 w.heap.size n a la ca m b lb cb 0 (i * 3 + j) t w ((W.setCell ⟨w.heap.size + 1 + 1, 0, none⟩ (.bool x)).setCell ⟨w.heap.size + 1 + 1, 1, none⟩ (.slice y ly cy))) := fun W x y ly cy h => reg2_set h hG x y ly cy
          have HKA : Hid (∀ W o, Reg2 w.heap.size n a la ca m b lb cb 0 (i * 3 + j) t w W → Reg2 w.heap.size n a la ca m b lb cb 0 (i * 3 + j) t w (W.alloc o)) := fun W o h => reg2_below h rfl ((Below.refl _ _).alloc (Nat.le_refl _) _)
          have HKW : Hid (∀ W, Reg2 w.heap.size n a la ca m b lb cb 0 (i * 3 + j) t w W → Below w.heap.size w W) := fun W h => h.2.2.2.2.2.2
          have HKO : Hid (∀ W, Reg2 w.heap.size n a la ca m b lb cb 0 (i * 3 + j) t w W → w.heap.size ≤ W.heap.size) := fun W h => h.2.2.2.2.2.2.size
          have HKH : Hid (∀ W, Reg2 w.heap.size n a la ca m b lb cb 0 (i * 3 + j) t w W → Held W (w.heap.size + 1 + 1)) := fun W h => h.2.2.2.2.2.1
          clear hG
          have HAB : Hid ((wv n xs + wv m ys).natAbs = val xs - val ys) := by show _ = _; rw [HMN.out]; exact (sub_across n xs ys HGE.out).1
          have HSG : Hid (val xs < LIM ∧ val ys < LIM → (n && decide (0 < val xs - val ys)) = decide (wv n xs + wv m ys < 0)) := fun _ => by rw [HMN.out]; exact (sub_across n xs ys HGE.out).2
          clear x0 x1 x2 x3 x4
          go_wp2_with fail
          go_region_held3 (fun W => W.cell? ⟨w.heap.size, 0, none⟩ = some (.bool n) ∧ W.cell? ⟨w.heap.size, 1, none⟩ = some (.slice a la ca) ∧ W.cell? ⟨w.heap.size + 1, 0, none⟩ = some (.bool m) ∧ W.cell? ⟨w.heap.size + 1, 1, none⟩ = some (.slice b lb cb) ∧ W.cell? ⟨0, i * 3 + j, none⟩ = some (.int .i64 t) ∧ Held W (w.heap.size + 1 + 1) ∧ Below w.heap.size w W)
            (first
            | exact hS0.out
            | exact HKB.out _ _ (by assumption) hb3
            | exact HKA.out _ _ (by assumption)
            | exact HKS.out _ _ _ _ _ (by assumption))
            (first
            | (go_at_call 71; (with_reducible refine (maker_any n _).mono ?_); rintro e w3 ⟨rfl, rfl⟩)
            | (go_at_call 45; (refine (sub_any a b la lb ca cb xs ys _ hla hlb hba hbb hca hcb HNA.out (HA.out _ (HKW.out _ (by assumption))) (HB.out _ (HKW.out _ (by assumption))) HBX.out HBY.out).mono ?_); intro e w3 hor
               have hb3 := hor.1
               obtain ⟨v, k, rfl, hor2⟩ := sub_told (Nat.le_trans (lim_fl HBX.out H1.out) (by decide)) (Nat.le_trans (lim_fl HBY.out H2.out) (by decide)) H1.out H2.out HGE.out H1.out rfl hor (HKO.out _ (by assumption))
               have HOR := Lib.hid hor2
               have HCL := Lib.hid (below_cell hb3 ⟨w2.heap.size, 0, none⟩ (.bool n) (by show (World.alloc w2 _).cell? _ = _; simp))
               clear hor hor2)
            | (go_at_call 104; (refine (made_any n (wv n xs + wv m ys) (val xs < LIM ∧ val ys < LIM) _ (val xs - val ys) w _ _ _ HCL.out (HKW.out _ (by assumption)) HAB.out HSG.out HOR.out).mono ?_); rintro e w4 ⟨hb3, hW⟩
               obtain ⟨n', a', l', c', k', rfl⟩ := hW.told
               have HHE := Lib.hid ((HKH.out _ (by assumption)).below hb3)
               obtain ⟨_, _, _, _, c0, c1, f0, f1⟩ := HHE.out.cells
               have HW := Lib.hid hW.wtold
               clear hW))
          go_wp2
          refine bodyPost_ret (results_held rfl rfl rfl HHE.out) rfl ?_
          exact HW.out.seth HHE.out (by omega) _ _
      · have hq : (t != 2) = true := by rw [bne_iff_ne]; exact ht2
        obtain ⟨nb, hnb⟩ : ∃ nb, decide (t < 0) = nb := ⟨_, rfl⟩
        have hss := sum_same n m xs ys i j nb HEI.out HEJ.out (HTE.out ▸ ht2) (HTE.out ▸ hnb)
        have HAB := Lib.hid hss.1
        have HSG : Hid (val xs < LIM ∧ val ys < LIM → (nb && decide (0 < val xs + val ys)) = decide (wv n xs + wv m ys < 0)) := fun _ => hss.2
        have HFL : Hid (fl xs ≤ 128 ∧ fl ys ≤ 128 ∧ val xs + val ys < 18446744073709551616 ^ 128 ∧ val xs < LIM ∧ val ys < LIM) := ⟨Nat.le_trans (lim_fl HBX.out H1.out) (by decide), Nat.le_trans (lim_fl HBY.out H2.out) (by decide), lim_add H1.out H2.out, H1.out, H2.out⟩
        have hS0 : Hid (Reg2 w.heap.size n a la ca m b lb cb 0 (i * 3 + j) t w (World.drew w2)) := ⟨x0, x1, x2, x3, x4, HR2.out.2.2.2.2.2.1, HR2.out.2.2.2.2.2.2.drew⟩
        clear hss ht2
        have HKB : Hid (∀ W W', Reg2 w.heap.size n a la ca m b lb cb 0 (i * 3 + j) t w W → Below W.heap.size W W' → Reg2 w.heap.size n a la ca m b lb cb 0 (i * 3 + j) t w W') := fun W W' h hb => reg2_below h rfl hb
        have hG : 0 < w.heap.size := World.block_lt_of_cell? w _ (HT.out.sums 0 0 (by decide) (by decide))
        have HKS : Hid (∀ W x y ly cy, Reg2 w.heap.size n a la ca m b lb cb 0 (i * 3 + j) t w W → Reg2 w.heap.size n a la ca m b lb cb 0 (i * 3 + j) t w ((W.setCell ⟨w.heap.size + 1 + 1, 0, none⟩ (.bool x)).setCell ⟨w.heap.size + 1 + 1, 1, none⟩ (.slice y ly cy))) := fun W x y ly cy h => reg2_set h hG x y ly cy
        have HKA : Hid (∀ W o, Reg2 w.heap.size n a la ca m b lb cb 0 (i * 3 + j) t w W → Reg2 w.heap.size n a la ca m b lb cb 0 (i * 3 + j) t w (W.alloc o)) := fun W o h => reg2_below h rfl ((Below.refl _ _).alloc (Nat.le_refl _) _)
        have HKW : Hid (∀ W, Reg2 w.heap.size n a la ca m b lb cb 0 (i * 3 + j) t w W → Below w.heap.size w W) := fun W h => h.2.2.2.2.2.2
        have HKO : Hid (∀ W, Reg2 w.heap.size n a la ca m b lb cb 0 (i * 3 + j) t w W → w.heap.size ≤ W.heap.size) := fun W h => h.2.2.2.2.2.2.size
        have HKH : Hid (∀ W, Reg2 w.heap.size n a la ca m b lb cb 0 (i * 3 + j) t w W → Held W (w.heap.size + 1 + 1)) := fun W h => h.2.2.2.2.2.1
        clear hG
        go_wp2_with fail
        go_region_held3 (fun W => W.cell? ⟨w.heap.size, 0, none⟩ = some (.bool n) ∧ W.cell? ⟨w.heap.size, 1, none⟩ = some (.slice a la ca) ∧ W.cell? ⟨w.heap.size + 1, 0, none⟩ = some (.bool m) ∧ W.cell? ⟨w.heap.size + 1, 1, none⟩ = some (.slice b lb cb) ∧ W.cell? ⟨0, i * 3 + j, none⟩ = some (.int .i64 t) ∧ Held W (w.heap.size + 1 + 1) ∧ Below w.heap.size w W)
          (first
          | exact hS0.out
          | exact HKB.out _ _ (by assumption) hb3
          | exact HKA.out _ _ (by assumption)
          | exact HKS.out _ _ _ _ _ (by assumption))
          (first
          | (go_at_call 71; (with_reducible refine (maker_any nb _).mono ?_); rintro e w3 ⟨rfl, rfl⟩)
          | (go_at_call 44; (refine (add_any a b la lb ca cb xs ys _ hla hlb hba hbb hca hcb (HA.out _ (HKW.out _ (by assumption))) (HB.out _ (HKW.out _ (by assumption))) HBX.out HBY.out).mono ?_); rintro e w3 ⟨hb3, hor⟩
             obtain ⟨v, k, rfl, hor2⟩ := num_told HFL.out hor (HKO.out _ (by assumption))
             have HOR := Lib.hid hor2
             have HCL := Lib.hid (below_cell hb3 ⟨w2.heap.size, 0, none⟩ (.bool nb) (by show (World.alloc w2 _).cell? _ = _; simp))
             clear hor hor2)
          | (go_at_call 104; (refine (made_any nb (wv n xs + wv m ys) (val xs < LIM ∧ val ys < LIM) _ (val xs + val ys) w _ _ _ HCL.out (HKW.out _ (by assumption)) HAB.out HSG.out HOR.out).mono ?_); rintro e w4 ⟨hb3, hW⟩
             obtain ⟨n', a', l', c', k', rfl⟩ := hW.told
             have HHE := Lib.hid ((HKH.out _ (by assumption)).below hb3)
             obtain ⟨_, _, _, _, c0, c1, f0, f1⟩ := HHE.out.cells
             have HW := Lib.hid hW.wtold
             clear hW))
        go_wp2
        refine bodyPost_ret (results_held rfl rfl rfl HHE.out) rfl ?_
        exact HW.out.seth HHE.out (by omega) _ _
    · have H2 := Lib.hid h2
      rw [decide_eq_false h2]
      clear h1 h2
      go_wp2
      refine bodyPost_ret (results_WO2 rfl rfl rfl (heap_kept (heap_kept (heap_third _ _ _ _) _) _)) rfl ?_
      exact ⟨((((Below.refl _ _).alloc (Nat.le_refl _) _).alloc (by simp) _).alloc (by simp <;> omega) _).alloc (by simp <;> omega) _ |>.alloc (by simp <;> omega) _, false, none, 0, 3, [], rfl, own64_nil _ _, .inl ⟨fun h => H2.out h.1.2, rfl, rfl, rfl⟩⟩
  · have H1 := Lib.hid h1
    rw [decide_eq_false h1]
    clear h1
    go_wp2
    refine bodyPost_ret (results_WO2 rfl rfl rfl (heap_kept (heap_third _ _ _ _) _)) rfl ?_
    exact ⟨(((Below.refl _ _).alloc (Nat.le_refl _) _).alloc (by simp) _).alloc (by simp <;> omega) _ |>.alloc (by simp <;> omega) _, false, none, 0, 3, [], rfl, own64_nil _ _, .inl ⟨fun h => H1.out h.1.1, rfl, rfl, rfl⟩⟩

end Go.Proofs.YtfjhmnbbjknflaaGreatDoor
