import Derived.Test.YthccccpcjafdcaaDoorHeadW
import Derived.Test.YthccccpcjafdcaaDoorBt
namespace Go.Proofs.YthccccpcjafdcaaDoor
open Go.RowKit

theorem sg_zero {z : Int} : sg z = 0 ↔ z = 0 := by unfold sg; split <;> (try split) <;> omega
theorem sg_tmod {x y : Int} (h : Int.tmod x y ≠ 0) : sg (Int.tmod x y) = sg x := by
  rcases Int.le_total 0 x with h1 | h1
  · have := Int.tmod_nonneg y h1
    have hx : x ≠ 0 := fun e => h (by rw [e, Int.zero_tmod])
    unfold sg
    rw [if_neg h, if_neg (by omega), if_neg hx, if_neg (by omega)]
  · obtain ⟨z, rfl⟩ : ∃ z, x = -z := ⟨-x, by omega⟩
    rw [Int.neg_tmod] at h ⊢
    have := Int.tmod_nonneg y (show 0 ≤ z by omega)
    have hx : -z ≠ 0 := fun e => h (by rw [show z = 0 by omega, Int.zero_tmod]; rfl)
    unfold sg
    rw [if_neg h, if_pos (by omega), if_neg hx, if_pos (by omega)]
theorem sg_below {x y : Int} (h : y ≠ 0) : sg (((Int.tmod x y).natAbs : Int) - ((y.natAbs : Nat) : Int)) = -1 := by
  have h1 : (Int.tmod x y).natAbs < y.natAbs := by rw [Int.natAbs_tmod]; exact Nat.mod_lt _ (by omega)
  unfold sg
  rw [if_neg (by omega), if_pos (by omega)]

set_option maxHeartbeats 16000000 in
set_option maxRecDepth 100000 in
theorem wholeparts_any (nx : Bool) (ax : Option Addr) (lx cx : Nat) (xsx : List Nat) (ny : Bool) (ay : Option Addr) (ly cy : Nat) (xsy : List Nat)  (w : World) (hlx : xsx.length = lx) (hbx : lx ≤ 9223372036854775807) (hrx : Rd .u64 w ax xsx) (bxx : Bd xsx) (hly : xsy.length = ly) (hby : ly ≤ 9223372036854775807) (hry : Rd .u64 w ay xsy) (bxy : Bd xsy) (ht : Tabs w) (hts : TabSum w) (hT : Trig w) :
    Calls Tryd.prog 5 #[.agg #[.bool nx, .slice ax lx cx], .agg #[.bool ny, .slice ay ly cy]] w fun e w' => e = .returned (.bool true) ∧ Below w.heap.size w w' := by
  have HT := Lib.hid (fun (W : World) (h : Below w.heap.size w W) => ht.below h)
  have HTS := Lib.hid (fun (W : World) (h : Below w.heap.size w W) => hts.below h)
  have HTR := Lib.hid (fun (W : World) (h : Below w.heap.size w W) => hT.below h)
  have HS0 : Hid (∀ (L : List (Value × Int)) (GG : List (Nat × Bool × Option Addr × Nat × Nat)) (W : World) (_ : St w L GG W), Calls Tryd.prog 21 #[.agg #[.bool nx, .slice ax lx cx], .int .i64 64] W fun e W' => SV w L GG (SW nx xsx 64) e W') := (fun L GG W h => s_some h nx ax lx cx 64 xsx hlx hbx (by decide) (hrx.below h.bel) bxx)
  have HL0 := Lib.hid (bt_sw nx xsx 64 bxx)
  have HLM0 := Lib.hid (sw_lim nx xsx 64 bxx (by decide))
  have HI0 : Hid (∀ (W : World) (_ : Below w.heap.size w W), Calls Tryd.prog 21 #[.agg #[.bool nx, .slice ax lx cx], .int .i64 64] W (IPost (SW nx xsx 64) W)) := (fun W h => wsome_any nx ax lx cx 64 xsx W hlx hbx (by decide) (hrx.below h) bxx)
  have HS1 : Hid (∀ (L : List (Value × Int)) (GG : List (Nat × Bool × Option Addr × Nat × Nat)) (W : World) (_ : St w L GG W), Calls Tryd.prog 21 #[.agg #[.bool ny, .slice ay ly cy], .int .i64 64] W fun e W' => SV w L GG (SW ny xsy 64) e W') := (fun L GG W h => s_some h ny ay ly cy 64 xsy hly hby (by decide) (hry.below h.bel) bxy)
  have HL1 := Lib.hid (bt_sw ny xsy 64 bxy)
  have HLM1 := Lib.hid (sw_lim ny xsy 64 bxy (by decide))
  have HI1 : Hid (∀ (W : World) (_ : Below w.heap.size w W), Calls Tryd.prog 21 #[.agg #[.bool ny, .slice ay ly cy], .int .i64 64] W (IPost (SW ny xsy 64) W)) := (fun W h => wsome_any ny ay ly cy 64 xsy W hly hby (by decide) (hry.below h) bxy)
  clear ht hts hT hlx hbx hrx bxx hly hby hry bxy
  generalize SW nx xsx 64 = Zx at *
  generalize SW ny xsy 64 = Zy at *
  go_enter Tryd.func5, Tryd.ntmps5
  have HE := Lib.hid (((St.init w).new (w.heap.size) rfl nx ax lx cx).new (w.heap.size + 1) (by simp) ny ay ly cy)
  go_wp2_with fail
  have HE0 := HE
  refine wp_region_inv (by kernel_rfl) (by kernel_rfl) (fun L val W => Ph1 w [((w.heap.size + 1), ny, ay, ly, cy), (w.heap.size, nx, ax, lx, cx)] 2 (fun k : Nat => if k = 0 then Value.agg #[.bool nx, .slice ax lx cx] else (Value.agg #[.bool ny, .slice ay ly cy])) (fun k : Nat => if k = 0 then Zx else (Zy)) L val W ∨ Ful21 w [((w.heap.size + 1), ny, ay, ly, cy), (w.heap.size, nx, ax, lx, cx)] (fun k : Nat => if k = 0 then Zx else (Zy)) L val W ∨ Ful22 w [((w.heap.size + 1), ny, ay, ly, cy), (w.heap.size, nx, ax, lx, cx)] (fun k : Nat => if k = 0 then Zx else (Zy)) L val W) (.inl (Ph1.init 2 _ _ HE.out.drew)) (fun L L' val W h => by have e : L = L' := funext h; rw [e]; exact id) ?step ?fin
  case step =>
    intro i o L val a W ho hLi hdep hH hΦ K' hK'
    have hi : i < 8 := (Array.getElem?_eq_some_iff.1 ho).1
    have hcs : i = 0 ∨ i = 1 ∨ i = 2 ∨ i = 3 ∨ i = 4 ∨ i = 5 ∨ i = 6 ∨ i = 7 := by omega
    rcases hcs with rfl | rfl | rfl | rfl | rfl | rfl | rfl | rfl
    · obtain rfl := Option.some.inj ho
      have h1 : Ph1 w [((w.heap.size + 1), ny, ay, ly, cy), (w.heap.size, nx, ax, lx, cx)] 2 (fun k : Nat => if k = 0 then Value.agg #[.bool nx, .slice ax lx cx] else (Value.agg #[.bool ny, .slice ay ly cy])) (fun k : Nat => if k = 0 then Zx else (Zy)) L val W := by
        rcases hΦ with h | h | h
        · exact h
        · exact absurd (h.1 0 (by decide)) (by rw [hLi]; decide)
        · exact absurd (h.1 0 (by decide)) (by rw [hLi]; decide)
      have e0 := (hH.rest 2 (fun j hj _ => (of_decide_eq_true (by kernel_rfl) : ∀ j, j < 8 → dstAt _ j ≠ some 2) j hj)).trans (rfl : _ = some (Value.pointer (some ⟨w.heap.size, 0, none⟩)))
      obtain ⟨x0, x1, -, -⟩ := h1.st.cells (g := w.heap.size) (n := nx) (a := ax) (l := lx) (c := cx) (by repeat first | exact List.mem_cons_self | apply List.mem_cons_of_mem)
      go_simp
      exact hK'.out _ _ (.inl (h1.step 0 (by decide) _ (Below.refl _ _) rfl (fun h => absurd h (by decide)) (fun k hk h => by omega) (fun k hk h => by omega)))
    · obtain rfl := Option.some.inj ho
      have h1 : Ph1 w [((w.heap.size + 1), ny, ay, ly, cy), (w.heap.size, nx, ax, lx, cx)] 2 (fun k : Nat => if k = 0 then Value.agg #[.bool nx, .slice ax lx cx] else (Value.agg #[.bool ny, .slice ay ly cy])) (fun k : Nat => if k = 0 then Zx else (Zy)) L val W := by
        rcases hΦ with h | h | h
        · exact h
        · exact absurd (h.1 1 (by decide)) (by rw [hLi]; decide)
        · exact absurd (h.1 1 (by decide)) (by rw [hLi]; decide)
      have hL0 : L 0 = true := hdep ⟨0, .data⟩ (by simp) rfl
      have e0 := hH.own 0 _ (by decide) rfl hL0 (of_decide_eq_true (by kernel_rfl))
      have e1 : val 0 = Value.agg #[.bool nx, .slice ax lx cx] := h1.sp 0 (by decide) hL0
      rw [e1] at e0
      go_simp
      refine (HI0.out _ h1.st.bel).mono ?_
      rintro e w' ⟨hb, a1, c1, zs, rfl, ho1, hN1⟩
      exact hK'.out _ _ (.inl (h1.step 1 (by decide) _ hb ⟨a1, c1, zs, rfl, owns_base ho1 h1.st.bel.size, hN1, HLM0.out⟩ (fun h => absurd h (by decide)) (fun j hj h => by obtain rfl : j = 0 := (by omega); exact hL0) (fun j hj h => by omega)))
    · obtain rfl := Option.some.inj ho
      have h1 : Ph1 w [((w.heap.size + 1), ny, ay, ly, cy), (w.heap.size, nx, ax, lx, cx)] 2 (fun k : Nat => if k = 0 then Value.agg #[.bool nx, .slice ax lx cx] else (Value.agg #[.bool ny, .slice ay ly cy])) (fun k : Nat => if k = 0 then Zx else (Zy)) L val W := by
        rcases hΦ with h | h | h
        · exact h
        · exact absurd (h.1 2 (by decide)) (by rw [hLi]; decide)
        · exact absurd (h.1 2 (by decide)) (by rw [hLi]; decide)
      have e0 := (hH.rest 3 (fun j hj _ => (of_decide_eq_true (by kernel_rfl) : ∀ j, j < 8 → dstAt _ j ≠ some 3) j hj)).trans (rfl : _ = some (Value.pointer (some ⟨(w.heap.size + 1), 0, none⟩)))
      obtain ⟨x0, x1, -, -⟩ := h1.st.cells (g := (w.heap.size + 1)) (n := ny) (a := ay) (l := ly) (c := cy) (by repeat first | exact List.mem_cons_self | apply List.mem_cons_of_mem)
      go_simp
      exact hK'.out _ _ (.inl (h1.step 2 (by decide) _ (Below.refl _ _) rfl (fun h => absurd h (by decide)) (fun k hk h => by omega) (fun k hk h => by omega)))
    · obtain rfl := Option.some.inj ho
      have h1 : Ph1 w [((w.heap.size + 1), ny, ay, ly, cy), (w.heap.size, nx, ax, lx, cx)] 2 (fun k : Nat => if k = 0 then Value.agg #[.bool nx, .slice ax lx cx] else (Value.agg #[.bool ny, .slice ay ly cy])) (fun k : Nat => if k = 0 then Zx else (Zy)) L val W := by
        rcases hΦ with h | h | h
        · exact h
        · exact absurd (h.1 3 (by decide)) (by rw [hLi]; decide)
        · exact absurd (h.1 3 (by decide)) (by rw [hLi]; decide)
      have hL0 : L 2 = true := hdep ⟨2, .data⟩ (by simp) rfl
      have e0 := hH.own 2 _ (by decide) rfl hL0 (of_decide_eq_true (by kernel_rfl))
      have e1 : val 2 = Value.agg #[.bool ny, .slice ay ly cy] := h1.sp 2 (by decide) hL0
      rw [e1] at e0
      go_simp
      refine (HI1.out _ h1.st.bel).mono ?_
      rintro e w' ⟨hb, a1, c1, zs, rfl, ho1, hN1⟩
      exact hK'.out _ _ (.inl (h1.step 3 (by decide) _ hb ⟨a1, c1, zs, rfl, owns_base ho1 h1.st.bel.size, hN1, HLM1.out⟩ (fun h => absurd h (by decide)) (fun j hj h => by obtain rfl : j = 1 := (by omega); exact hL0) (fun j hj h => by obtain rfl : j = 0 := (by omega); exact (by first | (refine hdep ⟨1, .data⟩ ?_ rfl; simp; done) | (refine hdep ⟨1, .chain⟩ ?_ rfl; simp; done) | (refine hdep ⟨1, .phase⟩ ?_ rfl; simp; done)))))
    · obtain rfl := Option.some.inj ho
      have h1 : Ph1 w [((w.heap.size + 1), ny, ay, ly, cy), (w.heap.size, nx, ax, lx, cx)] 2 (fun k : Nat => if k = 0 then Value.agg #[.bool nx, .slice ax lx cx] else (Value.agg #[.bool ny, .slice ay ly cy])) (fun k : Nat => if k = 0 then Zx else (Zy)) L val W := by
        rcases hΦ with h | h | h
        · exact h
        · exact absurd (h.1 4 (by decide)) (by rw [hLi]; decide)
        · exact absurd (h.1 4 (by decide)) (by rw [hLi]; decide)
      go_simp
      exact hK'.out _ _ (.inl (h1.step 4 (by decide) _ ((Below.refl _ _).alloc (Nat.le_refl _) _) ⟨_, rfl, heap_new _ _, h1.st.bel.size, fun p hp => lt_of_block (h1.st.boxes p hp)⟩ (fun _ => rfl) (fun k hk h => by omega) (fun k hk h => by omega)))
    · obtain rfl := Option.some.inj ho
      have h1 : Ph1 w [((w.heap.size + 1), ny, ay, ly, cy), (w.heap.size, nx, ax, lx, cx)] 2 (fun k : Nat => if k = 0 then Value.agg #[.bool nx, .slice ax lx cx] else (Value.agg #[.bool ny, .slice ay ly cy])) (fun k : Nat => if k = 0 then Zx else (Zy)) L val W := by
        rcases hΦ with h | h | h
        · exact h
        · exact absurd (h.1 5 (by decide)) (by rw [hLi]; decide)
        · exact absurd (h.1 5 (by decide)) (by rw [hLi]; decide)
      go_simp
      exact hK'.out _ _ (.inl (h1.step 5 (by decide) _ ((Below.refl _ _).alloc (Nat.le_refl _) _) ⟨_, rfl, heap_new _ _, h1.st.bel.size, fun p hp => lt_of_block (h1.st.boxes p hp)⟩ (fun _ => rfl) (fun k hk h => by omega) (fun k hk h => by omega)))
    · obtain rfl := Option.some.inj ho
      have h1 : Ph1 w [((w.heap.size + 1), ny, ay, ly, cy), (w.heap.size, nx, ax, lx, cx)] 2 (fun k : Nat => if k = 0 then Value.agg #[.bool nx, .slice ax lx cx] else (Value.agg #[.bool ny, .slice ay ly cy])) (fun k : Nat => if k = 0 then Zx else (Zy)) L val W := by
        rcases hΦ with h | h | h
        · exact h
        · exact absurd h.2.1.1 (by rw [hLi]; decide)
        · exact absurd h.2.1.1 (by rw [hLi]; decide)
      have hall : ∀ j, j < 6 → L j = true := by
        intro j hj
        have hc : j = 0 ∨ j = 1 ∨ j = 2 ∨ j = 3 ∨ j = 4 ∨ j = 5 := by omega
        rcases hc with rfl | rfl | rfl | rfl | rfl | rfl
        · exact (h1.cl 0 (by decide) (h1.ch 0 (by decide) (by first | (refine hdep ⟨3, .data⟩ ?_ rfl; simp; done) | (refine hdep ⟨3, .chain⟩ ?_ rfl; simp; done) | (refine hdep ⟨3, .phase⟩ ?_ rfl; simp; done))))
        · exact (h1.ch 0 (by decide) (by first | (refine hdep ⟨3, .data⟩ ?_ rfl; simp; done) | (refine hdep ⟨3, .chain⟩ ?_ rfl; simp; done) | (refine hdep ⟨3, .phase⟩ ?_ rfl; simp; done)))
        · exact (h1.cl 1 (by decide) (by first | (refine hdep ⟨3, .data⟩ ?_ rfl; simp; done) | (refine hdep ⟨3, .chain⟩ ?_ rfl; simp; done) | (refine hdep ⟨3, .phase⟩ ?_ rfl; simp; done)))
        · exact (by first | (refine hdep ⟨3, .data⟩ ?_ rfl; simp; done) | (refine hdep ⟨3, .chain⟩ ?_ rfl; simp; done) | (refine hdep ⟨3, .phase⟩ ?_ rfl; simp; done))
        · exact (by first | (refine hdep ⟨4, .data⟩ ?_ rfl; simp; done) | (refine hdep ⟨4, .chain⟩ ?_ rfl; simp; done) | (refine hdep ⟨4, .phase⟩ ?_ rfl; simp; done))
        · exact (by first | (refine hdep ⟨5, .data⟩ ?_ rfl; simp; done) | (refine hdep ⟨5, .chain⟩ ?_ rfl; simp; done) | (refine hdep ⟨5, .phase⟩ ?_ rfl; simp; done))
      have hF := h1.full2 hall
      obtain ⟨hA, hst, nA, aA, lA, cA, gA, nB, aB, lB, cB, gB, eA, pA, eB, pB, hS, dAB, qA, qB⟩ := hF
      have e0 := hH.own 4 _ (by decide) rfl (hA _ (by decide)) (of_decide_eq_true (by kernel_rfl))
      rw [pA] at e0
      have e1 := hH.own 1 _ (by decide) rfl (hA _ (by decide)) (of_decide_eq_true (by kernel_rfl))
      rw [eA] at e1
      obtain ⟨x0, x1, x2, x3⟩ := hS.cells (g := gA) (n := false) (a := none) (l := 0) (c := 0) (by repeat first | exact List.mem_cons_self | apply List.mem_cons_of_mem)
      go_simp
      have hS2 := St.setAt (G1 := []) hS (fun p hp => by cases hp) (fun p hp => by rcases List.mem_cons.1 hp with rfl | hp; (first | assumption | exact Ne.symm (by assumption)); exact Nat.ne_of_lt (qA.2 _ hp)) qA.1 nA aA lA cA
      exact hK'.out undef _ (.inr (.inl ⟨fun j hj => by have hne : j ≠ 6 := (by omega); simpa [upB, hne] using hA j hj, ⟨by simp [upB], by simpa [upB] using hst.2⟩, nA, aA, lA, cA, gA, nB, aB, lB, cB, gB, by simpa [upV] using eA, by simpa [upV] using pA, by simpa [upV] using eB, by simpa [upV] using pB, hS2, dAB, qA, qB⟩))
    · obtain rfl := Option.some.inj ho
      have hF : Ful21 w [((w.heap.size + 1), ny, ay, ly, cy), (w.heap.size, nx, ax, lx, cx)] (fun k : Nat => if k = 0 then Zx else (Zy)) L val W := by
        rcases hΦ with h | h | h
        · exact absurd (h.no 6 (by decide)) (by rw [show L 6 = true from (by first | (refine hdep ⟨6, .data⟩ ?_ rfl; simp; done) | (refine hdep ⟨6, .chain⟩ ?_ rfl; simp; done) | (refine hdep ⟨6, .phase⟩ ?_ rfl; simp; done))]; decide)
        · exact h
        · exact absurd (h.2.1.2) (by rw [hLi]; decide)
      obtain ⟨hA, hst, nA, aA, lA, cA, gA, nB, aB, lB, cB, gB, eA, pA, eB, pB, hS, dAB, qA, qB⟩ := hF
      have e0 := hH.own 5 _ (by decide) rfl (hA _ (by decide)) (of_decide_eq_true (by kernel_rfl))
      rw [pB] at e0
      have e1 := hH.own 3 _ (by decide) rfl (hA _ (by decide)) (of_decide_eq_true (by kernel_rfl))
      rw [eB] at e1
      obtain ⟨x0, x1, x2, x3⟩ := hS.cells (g := gB) (n := false) (a := none) (l := 0) (c := 0) (by repeat first | exact List.mem_cons_self | apply List.mem_cons_of_mem)
      go_simp
      have hS2 := St.setAt (G1 := [(gA, nA, aA, lA, cA)]) hS (fun p hp => by rcases List.mem_cons.1 hp with rfl | hp; (first | assumption | exact Ne.symm (by assumption)); cases hp) (fun p hp => by exact Nat.ne_of_lt (qB.2 _ hp)) qB.1 nB aB lB cB
      exact hK'.out undef _ (.inr (.inr ⟨fun j hj => by have hne : j ≠ 7 := (by omega); simpa [upB, hne] using hA j hj, ⟨by simpa [upB] using hst.1, by simp [upB]⟩, nA, aA, lA, cA, gA, nB, aB, lB, cB, gB, by simpa [upV] using eA, by simpa [upV] using pA, by simpa [upV] using eB, by simpa [upV] using pB, hS2, dAB, qA, qB⟩))
  case fin =>
    intro L val wH hL hΦ
    have hF : Ful22 w [((w.heap.size + 1), ny, ay, ly, cy), (w.heap.size, nx, ax, lx, cx)] (fun k : Nat => if k = 0 then Zx else (Zy)) L val wH := by
      rcases hΦ with h | h | h
      · exact absurd (h.no 7 (by decide)) (by rw [hL 7 (of_decide_eq_true (by kernel_rfl))]; decide)
      · exact absurd (h.2.1.2) (by rw [hL 7 (of_decide_eq_true (by kernel_rfl))]; decide)
      · exact h
    obtain ⟨hA, hst, nA, aA, lA, cA, gA, nB, aB, lB, cB, gB, eA, pA, eB, pB, hS, dAB, qA, qB⟩ := hF
    simp only [List.size_toArray, List.length_cons, List.length_nil, Nat.zero_add, Nat.reduceAdd, putAll, dstAt, Act.put, List.getElem?_toArray, List.getElem?_cons_zero, List.getElem?_cons_succ, Option.bind_some, List.setIfInBounds_toArray, List.set_cons_zero, List.set_cons_succ]
    rw [eA, pA, eB, pB]
    generalize val 0 = s0
    generalize val 2 = s1
    have hS : St w [(.agg #[.bool nB, .slice aB lB cB], Zy), (.agg #[.bool nA, .slice aA lA cA], Zx)] [(gA, nA, aA, lA, cA), (gB, nB, aB, lB, cB)] wH := St.sub hS (fun p hp => hp) (fun p hp => by simp only [List.mem_cons, List.mem_nil_iff, or_false] at hp ⊢; rcases hp with h | h <;> simp [h])
    have HE := Lib.hid hS
    clear hΦ hL hA hst hS eA pA qA eB pB qB dAB HE0
    by_cases hz : Zy = 0
    · have HZ := Lib.hid hz
      have hsg : sg Zy = 0 := sg_zero.2 hz
      clear hz
      obtain ⟨xA0, xA1, -, -⟩ := HE.out.cells (g := gA) (n := nA) (a := aA) (l := lA) (c := cA) (by repeat first | exact List.mem_cons_self | apply List.mem_cons_of_mem)
      obtain ⟨xB0, xB1, -, -⟩ := HE.out.cells (g := gB) (n := nB) (a := aB) (l := lB) (c := cB) (by repeat first | exact List.mem_cons_self | apply List.mem_cons_of_mem)
      go_wp2_with fail
      refine (s_quo0 (v1 := .agg #[.bool nA, .slice aA lA cA]) (v2 := .agg #[.bool nB, .slice aB lB cB]) HE.out (HT.out _ HE.out.bel) (by repeat first | exact List.mem_cons_self | apply List.mem_cons_of_mem) (by repeat first | exact List.mem_cons_self | apply List.mem_cons_of_mem) HZ.out).mono ?_
      rintro e w1 ⟨nQ, aQ, lQ, cQ, rfl, hS⟩
      clear xA0 xA1 xB0 xB1
      have HE := Lib.hid hS
      clear hS
      have HE := Lib.hid (HE.out.new (w1.heap.size) rfl nQ aQ lQ cQ)
      obtain ⟨xA0, xA1, -, -⟩ := HE.out.cells (g := gA) (n := nA) (a := aA) (l := lA) (c := cA) (by repeat first | exact List.mem_cons_self | apply List.mem_cons_of_mem)
      obtain ⟨xB0, xB1, -, -⟩ := HE.out.cells (g := gB) (n := nB) (a := aB) (l := lB) (c := cB) (by repeat first | exact List.mem_cons_self | apply List.mem_cons_of_mem)
      go_wp2_with fail
      generalize hWk : (w1.alloc (Obj.cells #[.bool nQ, .slice aQ lQ cQ] 44)) = W2 at *
      clear hWk
      generalize w1.heap.size = gQ at *
      refine (s_rem0 (v1 := .agg #[.bool nA, .slice aA lA cA]) (v2 := .agg #[.bool nB, .slice aB lB cB]) HE.out (by repeat first | exact List.mem_cons_self | apply List.mem_cons_of_mem) (by repeat first | exact List.mem_cons_self | apply List.mem_cons_of_mem) HZ.out).mono ?_
      rintro e w3 ⟨nR, aR, lR, cR, rfl, hS⟩
      clear xA0 xA1 xB0 xB1
      have HE := Lib.hid hS
      clear hS
      have HE := Lib.hid (HE.out.new (w3.heap.size) rfl nR aR lR cR)
      obtain ⟨xB0, xB1, -, -⟩ := HE.out.cells (g := gB) (n := nB) (a := aB) (l := lB) (c := cB) (by repeat first | exact List.mem_cons_self | apply List.mem_cons_of_mem)
      go_wp2_with fail
      generalize hWk : (w3.alloc (Obj.cells #[.bool nR, .slice aR lR cR] 44)) = W4 at *
      clear hWk
      generalize w3.heap.size = gR at *
      refine (s_sign (v := .agg #[.bool nB, .slice aB lB cB]) HE.out (by repeat first | exact List.mem_cons_self | apply List.mem_cons_of_mem)).mono ?_
      rintro e w5 ⟨rfl, hS⟩
      clear xB0 xB1
      have HE := Lib.hid hS
      clear hS
      have HE := Lib.hid (HE.out.push (isw_zero _ _))
      obtain ⟨xQ0, xQ1, -, -⟩ := HE.out.cells (g := gQ) (n := nQ) (a := aQ) (l := lQ) (c := cQ) (by repeat first | exact List.mem_cons_self | apply List.mem_cons_of_mem)
      go_wp2_with fail
      refine (s_sameT (v1 := .agg #[.bool nQ, .slice aQ lQ cQ]) (v2 := .agg #[.bool false, .slice none 0 0]) HE.out (by repeat first | exact List.mem_cons_self | apply List.mem_cons_of_mem) (by repeat first | exact List.mem_cons_self | apply List.mem_cons_of_mem) rfl).mono ?_
      rintro e w6 ⟨rfl, hS⟩
      clear xQ0 xQ1
      have HE := Lib.hid hS
      clear hS
      obtain ⟨xR0, xR1, -, -⟩ := HE.out.cells (g := gR) (n := nR) (a := aR) (l := lR) (c := cR) (by repeat first | exact List.mem_cons_self | apply List.mem_cons_of_mem)
      go_wp2_with fail
      refine (s_sameT (v1 := .agg #[.bool nR, .slice aR lR cR]) (v2 := .agg #[.bool false, .slice none 0 0]) HE.out (by repeat first | exact List.mem_cons_self | apply List.mem_cons_of_mem) (by repeat first | exact List.mem_cons_self | apply List.mem_cons_of_mem) rfl).mono ?_
      rintro e w7 ⟨rfl, hS⟩
      clear xR0 xR1
      have HE := Lib.hid hS
      clear hS
      go_wp2_with fail
      refine (s_works HE.out (HT.out _ HE.out.bel)).mono ?_
      rintro e w8 ⟨rfl, hS⟩
      have HE := Lib.hid hS
      clear hS
      go_wp2
      go_ret
      exact ⟨rfl, HE.out.bel⟩
    · have HZ := Lib.hid hz
      have hsg : (sg Zy == 0) = false := by rw [beq_eq_false_iff_ne]; exact fun h => hz (sg_zero.1 h)
      clear hz
      obtain ⟨xA0, xA1, -, -⟩ := HE.out.cells (g := gA) (n := nA) (a := aA) (l := lA) (c := cA) (by repeat first | exact List.mem_cons_self | apply List.mem_cons_of_mem)
      obtain ⟨xB0, xB1, -, -⟩ := HE.out.cells (g := gB) (n := nB) (a := aB) (l := lB) (c := cB) (by repeat first | exact List.mem_cons_self | apply List.mem_cons_of_mem)
      go_wp2_with fail
      refine (s_quo (v1 := .agg #[.bool nA, .slice aA lA cA]) (v2 := .agg #[.bool nB, .slice aB lB cB]) HE.out (HT.out _ HE.out.bel) (by repeat first | exact List.mem_cons_self | apply List.mem_cons_of_mem) (by repeat first | exact List.mem_cons_self | apply List.mem_cons_of_mem) HZ.out).mono ?_
      rintro e w9 ⟨nQ, aQ, lQ, cQ, rfl, hS⟩
      clear xA0 xA1 xB0 xB1
      have HE := Lib.hid hS
      clear hS
      have HE := Lib.hid (HE.out.new (w9.heap.size) rfl nQ aQ lQ cQ)
      obtain ⟨xA0, xA1, -, -⟩ := HE.out.cells (g := gA) (n := nA) (a := aA) (l := lA) (c := cA) (by repeat first | exact List.mem_cons_self | apply List.mem_cons_of_mem)
      obtain ⟨xB0, xB1, -, -⟩ := HE.out.cells (g := gB) (n := nB) (a := aB) (l := lB) (c := cB) (by repeat first | exact List.mem_cons_self | apply List.mem_cons_of_mem)
      go_wp2_with fail
      generalize hWk : (w9.alloc (Obj.cells #[.bool nQ, .slice aQ lQ cQ] 44)) = W10 at *
      clear hWk
      generalize w9.heap.size = gQ at *
      refine (s_rem (v1 := .agg #[.bool nA, .slice aA lA cA]) (v2 := .agg #[.bool nB, .slice aB lB cB]) HE.out (by repeat first | exact List.mem_cons_self | apply List.mem_cons_of_mem) (by repeat first | exact List.mem_cons_self | apply List.mem_cons_of_mem) HZ.out).mono ?_
      rintro e w11 ⟨nR, aR, lR, cR, rfl, hS⟩
      clear xA0 xA1 xB0 xB1
      have HE := Lib.hid hS
      clear hS
      have HE := Lib.hid (HE.out.new (w11.heap.size) rfl nR aR lR cR)
      obtain ⟨xB0, xB1, -, -⟩ := HE.out.cells (g := gB) (n := nB) (a := aB) (l := lB) (c := cB) (by repeat first | exact List.mem_cons_self | apply List.mem_cons_of_mem)
      go_wp2_with fail
      generalize hWk : (w11.alloc (Obj.cells #[.bool nR, .slice aR lR cR] 44)) = W12 at *
      clear hWk
      generalize w11.heap.size = gR at *
      refine (s_sign (v := .agg #[.bool nB, .slice aB lB cB]) HE.out (by repeat first | exact List.mem_cons_self | apply List.mem_cons_of_mem)).mono ?_
      rintro e w13 ⟨rfl, hS⟩
      clear xB0 xB1
      have HE := Lib.hid hS
      clear hS
      have HE := Lib.hid ((HE.out.push (IsW.worth (HE.out.val (v := .agg #[.bool nB, .slice aB lB cB]) (Z := Zy) (by repeat first | exact List.mem_cons_self | apply List.mem_cons_of_mem)))).push (IsW.worth (HE.out.val (v := .agg #[.bool nR, .slice aR lR cR]) (Z := Zx.tmod Zy) (by repeat first | exact List.mem_cons_self | apply List.mem_cons_of_mem))))
      obtain ⟨yB0, yB1, -, -⟩ := HE.out.cells (g := gB) (n := nB) (a := aB) (l := lB) (c := cB) (by repeat first | exact List.mem_cons_self | apply List.mem_cons_of_mem)
      have HU := Lib.hid (HE.out.new w13.heap.size rfl false aB lB cB)
      obtain ⟨zR0, zR1, -, -⟩ := HU.out.cells (g := gR) (n := nR) (a := aR) (l := lR) (c := cR) (by repeat first | exact List.mem_cons_self | apply List.mem_cons_of_mem)
      have HE := Lib.hid ((HE.out.new (w13.heap.size) rfl false aB lB cB).new (w13.heap.size + 1) (by simp) false aR lR cR)
      obtain ⟨xB0, xB1, -, -⟩ := HE.out.cells (g := gB) (n := nB) (a := aB) (l := lB) (c := cB) (by repeat first | exact List.mem_cons_self | apply List.mem_cons_of_mem)
      obtain ⟨xR0, xR1, -, -⟩ := HE.out.cells (g := gR) (n := nR) (a := aR) (l := lR) (c := cR) (by repeat first | exact List.mem_cons_self | apply List.mem_cons_of_mem)
      go_wp2_with fail
      generalize hWk : ((w13.alloc (Obj.cells #[.bool false, .slice aB lB cB] 44)).alloc (Obj.cells #[.bool false, .slice aR lR cR] 44)) = W14 at *
      clear hWk
      generalize w13.heap.size = gU at *
      clear yB0 yB1 zR0 zR1 xB0 xB1 xR0 xR1
      have HLA : Hid ((Zy * Zx.tdiv Zy).natAbs < LIM) := by
        show _ < _
        rw [Int.natAbs_mul, Int.natAbs_tdiv]
        exact Nat.lt_of_le_of_lt (Nat.mul_div_le _ _) HLM0.out
      have HLB : Hid ((Zy * Zx.tdiv Zy + Zx.tmod Zy).natAbs < LIM) := by
        show _ < _
        rw [Int.mul_tdiv_add_tmod]
        exact HLM0.out
      have hcmp := sg_below (x := Zx) HZ.out
      by_cases hr0 : Zx.tmod Zy = 0
      · have hsr : sg (Zx.tmod Zy) = 0 := sg_zero.2 hr0
        clear hr0
        have HE := Lib.hid HE.out.drew
        refine wp_region_held_drew (S := fun W => W.cell? ⟨gA, 0, none⟩ = some (.bool nA) ∧ W.cell? ⟨gA, 1, none⟩ = some (.slice aA lA cA) ∧ W.cell? ⟨gB, 0, none⟩ = some (.bool nB) ∧ W.cell? ⟨gB, 1, none⟩ = some (.slice aB lB cB) ∧ W.cell? ⟨gQ, 0, none⟩ = some (.bool nQ) ∧ W.cell? ⟨gQ, 1, none⟩ = some (.slice aQ lQ cQ) ∧ W.cell? ⟨gR, 0, none⟩ = some (.bool nR) ∧ W.cell? ⟨gR, 1, none⟩ = some (.slice aR lR cR) ∧ W.cell? ⟨gU, 0, none⟩ = some (.bool false) ∧ W.cell? ⟨gU, 1, none⟩ = some (.slice aB lB cB) ∧ W.cell? ⟨(gU + 1), 0, none⟩ = some (.bool false) ∧ W.cell? ⟨(gU + 1), 1, none⟩ = some (.slice aR lR cR)) (by kernel_rfl) ⟨(HE.out.cells (g := gA) (n := nA) (a := aA) (l := lA) (c := cA) (by repeat first | exact List.mem_cons_self | apply List.mem_cons_of_mem)).1, (HE.out.cells (g := gA) (n := nA) (a := aA) (l := lA) (c := cA) (by repeat first | exact List.mem_cons_self | apply List.mem_cons_of_mem)).2.1, (HE.out.cells (g := gB) (n := nB) (a := aB) (l := lB) (c := cB) (by repeat first | exact List.mem_cons_self | apply List.mem_cons_of_mem)).1, (HE.out.cells (g := gB) (n := nB) (a := aB) (l := lB) (c := cB) (by repeat first | exact List.mem_cons_self | apply List.mem_cons_of_mem)).2.1, (HE.out.cells (g := gQ) (n := nQ) (a := aQ) (l := lQ) (c := cQ) (by repeat first | exact List.mem_cons_self | apply List.mem_cons_of_mem)).1, (HE.out.cells (g := gQ) (n := nQ) (a := aQ) (l := lQ) (c := cQ) (by repeat first | exact List.mem_cons_self | apply List.mem_cons_of_mem)).2.1, (HE.out.cells (g := gR) (n := nR) (a := aR) (l := lR) (c := cR) (by repeat first | exact List.mem_cons_self | apply List.mem_cons_of_mem)).1, (HE.out.cells (g := gR) (n := nR) (a := aR) (l := lR) (c := cR) (by repeat first | exact List.mem_cons_self | apply List.mem_cons_of_mem)).2.1, (HE.out.cells (g := gU) (n := false) (a := aB) (l := lB) (c := cB) (by repeat first | exact List.mem_cons_self | apply List.mem_cons_of_mem)).1, (HE.out.cells (g := gU) (n := false) (a := aB) (l := lB) (c := cB) (by repeat first | exact List.mem_cons_self | apply List.mem_cons_of_mem)).2.1, (HE.out.cells (g := (gU + 1)) (n := false) (a := aR) (l := lR) (c := cR) (by repeat first | exact List.mem_cons_self | apply List.mem_cons_of_mem)).1, (HE.out.cells (g := (gU + 1)) (n := false) (a := aR) (l := lR) (c := cR) (by repeat first | exact List.mem_cons_self | apply List.mem_cons_of_mem)).2.1⟩ (fun hHeld => ?_)
        refine wpAnyH_take (i := 0) (oi := { dst := some 57, op := Op.move (Operand.tmp 8), type := 24, pos := "outright.go:64", after := #[], guard := none }) (v := ?_) rfl (by kernel_rfl) (by kernel_rfl) (by kernel_rfl) (fun _ _ _ h => h) (Or.inl ⟨by rfl, ?_⟩) (by assumption) ?_
        rotate_left
        · (intro w hSw; (try dsimp only at hSw); go_simp; all_goals (with_reducible rfl))
        (try simp only [Act.put, List.setIfInBounds_toArray, List.set_cons_zero, List.set_cons_succ])
        refine wpAnyH_take (i := 1) (oi := { dst := some 58, op := Op.binOp BinOp.eql 24 (Operand.tmp 57) (Operand.const (Value.int IntKind.i64 0)) 24, type := 4, pos := "outright.go:64", after := #[{ on := 0, ground := Ground.data }], guard := none }) (v := ?_) rfl (by kernel_rfl) (by kernel_rfl) (by kernel_rfl) (fun _ _ _ h => h) (Or.inl ⟨by rfl, ?_⟩) (by assumption) ?_
        rotate_left
        · (intro w hSw; (try dsimp only at hSw); go_simp; all_goals (with_reducible rfl))
        (try simp only [Act.put, List.setIfInBounds_toArray, List.set_cons_zero, List.set_cons_succ])
        refine wpAnyH_take (i := 2) (oi := { dst := some 59, op := Op.move (Operand.tmp 58), type := 4, pos := "outright.go:64", after := #[{ on := 1, ground := Ground.data }], guard := none }) (v := ?_) rfl (by kernel_rfl) (by kernel_rfl) (by kernel_rfl) (fun _ _ _ h => h) (Or.inl ⟨by rfl, ?_⟩) (by assumption) ?_
        rotate_left
        · (intro w hSw; (try dsimp only at hSw); go_simp; all_goals (with_reducible rfl))
        (try simp only [Act.put, List.setIfInBounds_toArray, List.set_cons_zero, List.set_cons_succ])
        refine wpAnyH_take (i := 3) (oi := { dst := some 60, op := Op.move (Operand.tmp 10), type := 24, pos := "outright.go:64", after := #[{ on := 2, ground := Ground.guard }], guard := some (2, true) }) (v := ?_) rfl (by kernel_rfl) (by kernel_rfl) (by kernel_rfl) (fun _ _ _ h => h) (Or.inl ⟨by rfl, ?_⟩) (by assumption) ?_
        rotate_left
        · (intro w hSw; (try dsimp only at hSw); go_simp; all_goals (with_reducible rfl))
        (try simp only [Act.put, List.setIfInBounds_toArray, List.set_cons_zero, List.set_cons_succ])
        refine wpAnyH_take (i := 4) (oi := { dst := some 61, op := Op.binOp BinOp.eql 24 (Operand.tmp 60) (Operand.const (Value.int IntKind.i64 0)) 24, type := 4, pos := "outright.go:64", after := #[{ on := 3, ground := Ground.data }, { on := 2, ground := Ground.guard }], guard := some (2, true) }) (v := ?_) rfl (by kernel_rfl) (by kernel_rfl) (by kernel_rfl) (fun _ _ _ h => h) (Or.inl ⟨by rfl, ?_⟩) (by assumption) ?_
        rotate_left
        · (intro w hSw; (try dsimp only at hSw); go_simp; all_goals (with_reducible rfl))
        (try simp only [Act.put, List.setIfInBounds_toArray, List.set_cons_zero, List.set_cons_succ])
        refine wpAnyH_take (i := 5) (oi := { dst := some 62, op := Op.pick (Operand.tmp 59) (Operand.tmp 61) (Operand.const (Value.bool false)), type := 4, pos := "outright.go:64", after := #[{ on := 2, ground := Ground.data }, { on := 4, ground := Ground.data }], guard := none }) (v := ?_) rfl (by kernel_rfl) (by kernel_rfl) (by kernel_rfl) (fun _ _ _ h => h) (Or.inl ⟨by rfl, ?_⟩) (by assumption) ?_
        rotate_left
        · (intro w hSw; (try dsimp only at hSw); go_simp; all_goals (with_reducible rfl))
        (try simp only [Act.put, List.setIfInBounds_toArray, List.set_cons_zero, List.set_cons_succ])
        refine wpAnyH_take (i := 6) (oi := { dst := some 63, op := Op.move (Operand.tmp 62), type := 4, pos := "outright.go:64", after := #[{ on := 5, ground := Ground.data }, { on := 2, ground := Ground.chain }], guard := none }) (v := ?_) rfl (by kernel_rfl) (by kernel_rfl) (by kernel_rfl) (fun _ _ _ h => h) (Or.inl ⟨by rfl, ?_⟩) (by assumption) ?_
        rotate_left
        · (intro w hSw; (try dsimp only at hSw); go_simp; all_goals (with_reducible rfl))
        (try simp only [Act.put, List.setIfInBounds_toArray, List.set_cons_zero, List.set_cons_succ])
        refine wpAnyH_take (i := 7) (oi := { dst := some 64, op := Op.load 44 (Operand.tmp 6), type := 44, pos := "outright.go:64", after := #[{ on := 6, ground := Ground.guard }], guard := some (6, true) }) (v := ?_) rfl (by kernel_rfl) (by kernel_rfl) (by kernel_rfl) (fun _ _ _ h => h) (Or.inl ⟨by rfl, ?_⟩) (by assumption) ?_
        rotate_left
        · (intro w hSw; (try dsimp only at hSw); go_simp; all_goals (with_reducible rfl))
        (try simp only [Act.put, List.setIfInBounds_toArray, List.set_cons_zero, List.set_cons_succ])
        refine wpAnyH_take (i := 8) (oi := { dst := some 65, op := Op.load 44 (Operand.tmp 7), type := 44, pos := "outright.go:64", after := #[{ on := 6, ground := Ground.guard }], guard := some (6, true) }) (v := ?_) rfl (by kernel_rfl) (by kernel_rfl) (by kernel_rfl) (fun _ _ _ h => h) (Or.inl ⟨by rfl, ?_⟩) (by assumption) ?_
        rotate_left
        · (intro w hSw; (try dsimp only at hSw); go_simp; all_goals (with_reducible rfl))
        (try simp only [Act.put, List.setIfInBounds_toArray, List.set_cons_zero, List.set_cons_succ])
        refine wpAnyH_take (i := 10) (oi := { dst := some 67, op := Op.load 44 (Operand.tmp 9), type := 44, pos := "outright.go:64", after := #[{ on := 6, ground := Ground.guard }], guard := some (6, true) }) (v := ?_) rfl (by kernel_rfl) (by kernel_rfl) (by kernel_rfl) (fun _ _ _ h => h) (Or.inl ⟨by rfl, ?_⟩) (by assumption) ?_
        rotate_left
        · (intro w hSw; (try dsimp only at hSw); go_simp; all_goals (with_reducible rfl))
        (try simp only [Act.put, List.setIfInBounds_toArray, List.set_cons_zero, List.set_cons_succ])
        refine wpAnyH_take (i := 12) (oi := { dst := some 69, op := Op.load 44 (Operand.tmp 5), type := 44, pos := "outright.go:64", after := #[{ on := 6, ground := Ground.guard }], guard := some (6, true) }) (v := ?_) rfl (by kernel_rfl) (by kernel_rfl) (by kernel_rfl) (fun _ _ _ h => h) (Or.inl ⟨by rfl, ?_⟩) (by assumption) ?_
        rotate_left
        · (intro w hSw; (try dsimp only at hSw); go_simp; all_goals (with_reducible rfl))
        (try simp only [Act.put, List.setIfInBounds_toArray, List.set_cons_zero, List.set_cons_succ])
        refine wpAnyH_ready (rs := [9]) (by kernel_rfl) (by simp) ?_
        refine AllReadyH.cons (o := { dst := some 66, op := Op.call { callee := Callee.value (Operand.func 27), args := #[Operand.tmp 64, Operand.tmp 65], argTypes := #[44, 44] }, type := 44, pos := "outright.go:64", after := #[{ on := 7, ground := Ground.data }, { on := 8, ground := Ground.data }, { on := 6, ground := Ground.chain }, { on := 6, ground := Ground.guard }], guard := some (6, true) }) rfl (fun K hK => ?_) AllReadyH.nil
        go_simp
        refine (s_product HE.out (HT.out _ HE.out.bel) (HTR.out _ HE.out.bel) (v1 := .agg #[.bool nB, .slice aB lB cB]) (v2 := .agg #[.bool nQ, .slice aQ lQ cQ]) (by repeat first | exact List.mem_cons_self | apply List.mem_cons_of_mem) (by repeat first | exact List.mem_cons_self | apply List.mem_cons_of_mem) HLA.out).mono ?_
        rintro e wZZ ⟨nZZ, aZZ, lZZ, cZZ, rfl, hS⟩
        have HE := Lib.hid hS
        clear hS
        go_simp
        refine hK.out _ _ (⟨(HE.out.cells (g := gA) (n := nA) (a := aA) (l := lA) (c := cA) (by repeat first | exact List.mem_cons_self | apply List.mem_cons_of_mem)).1, (HE.out.cells (g := gA) (n := nA) (a := aA) (l := lA) (c := cA) (by repeat first | exact List.mem_cons_self | apply List.mem_cons_of_mem)).2.1, (HE.out.cells (g := gB) (n := nB) (a := aB) (l := lB) (c := cB) (by repeat first | exact List.mem_cons_self | apply List.mem_cons_of_mem)).1, (HE.out.cells (g := gB) (n := nB) (a := aB) (l := lB) (c := cB) (by repeat first | exact List.mem_cons_self | apply List.mem_cons_of_mem)).2.1, (HE.out.cells (g := gQ) (n := nQ) (a := aQ) (l := lQ) (c := cQ) (by repeat first | exact List.mem_cons_self | apply List.mem_cons_of_mem)).1, (HE.out.cells (g := gQ) (n := nQ) (a := aQ) (l := lQ) (c := cQ) (by repeat first | exact List.mem_cons_self | apply List.mem_cons_of_mem)).2.1, (HE.out.cells (g := gR) (n := nR) (a := aR) (l := lR) (c := cR) (by repeat first | exact List.mem_cons_self | apply List.mem_cons_of_mem)).1, (HE.out.cells (g := gR) (n := nR) (a := aR) (l := lR) (c := cR) (by repeat first | exact List.mem_cons_self | apply List.mem_cons_of_mem)).2.1, (HE.out.cells (g := gU) (n := false) (a := aB) (l := lB) (c := cB) (by repeat first | exact List.mem_cons_self | apply List.mem_cons_of_mem)).1, (HE.out.cells (g := gU) (n := false) (a := aB) (l := lB) (c := cB) (by repeat first | exact List.mem_cons_self | apply List.mem_cons_of_mem)).2.1, (HE.out.cells (g := (gU + 1)) (n := false) (a := aR) (l := lR) (c := cR) (by repeat first | exact List.mem_cons_self | apply List.mem_cons_of_mem)).1, (HE.out.cells (g := (gU + 1)) (n := false) (a := aR) (l := lR) (c := cR) (by repeat first | exact List.mem_cons_self | apply List.mem_cons_of_mem)).2.1⟩) (fun hHeld => ?_)
        clear hK K
        (try simp only [Act.put, List.setIfInBounds_toArray, List.set_cons_zero, List.set_cons_succ])
        refine wpAnyH_ready (rs := [11]) (by kernel_rfl) (by simp) ?_
        refine AllReadyH.cons (o := { dst := some 68, op := Op.call { callee := Callee.value (Operand.func 23), args := #[Operand.tmp 66, Operand.tmp 67], argTypes := #[44, 44] }, type := 44, pos := "outright.go:64", after := #[{ on := 9, ground := Ground.data }, { on := 10, ground := Ground.data }, { on := 9, ground := Ground.chain }, { on := 6, ground := Ground.guard }], guard := some (6, true) }) rfl (fun K hK => ?_) AllReadyH.nil
        go_simp
        refine (s_sum HE.out (HTS.out _ HE.out.bel) (by repeat first | exact List.mem_cons_self | apply List.mem_cons_of_mem) (v2 := .agg #[.bool nR, .slice aR lR cR]) (by repeat first | exact List.mem_cons_self | apply List.mem_cons_of_mem) HLB.out).mono ?_
        rintro e wZZ ⟨nZZ, aZZ, lZZ, cZZ, rfl, hS⟩
        have HE := Lib.hid hS
        clear hS
        go_simp
        refine hK.out _ _ (⟨(HE.out.cells (g := gA) (n := nA) (a := aA) (l := lA) (c := cA) (by repeat first | exact List.mem_cons_self | apply List.mem_cons_of_mem)).1, (HE.out.cells (g := gA) (n := nA) (a := aA) (l := lA) (c := cA) (by repeat first | exact List.mem_cons_self | apply List.mem_cons_of_mem)).2.1, (HE.out.cells (g := gB) (n := nB) (a := aB) (l := lB) (c := cB) (by repeat first | exact List.mem_cons_self | apply List.mem_cons_of_mem)).1, (HE.out.cells (g := gB) (n := nB) (a := aB) (l := lB) (c := cB) (by repeat first | exact List.mem_cons_self | apply List.mem_cons_of_mem)).2.1, (HE.out.cells (g := gQ) (n := nQ) (a := aQ) (l := lQ) (c := cQ) (by repeat first | exact List.mem_cons_self | apply List.mem_cons_of_mem)).1, (HE.out.cells (g := gQ) (n := nQ) (a := aQ) (l := lQ) (c := cQ) (by repeat first | exact List.mem_cons_self | apply List.mem_cons_of_mem)).2.1, (HE.out.cells (g := gR) (n := nR) (a := aR) (l := lR) (c := cR) (by repeat first | exact List.mem_cons_self | apply List.mem_cons_of_mem)).1, (HE.out.cells (g := gR) (n := nR) (a := aR) (l := lR) (c := cR) (by repeat first | exact List.mem_cons_self | apply List.mem_cons_of_mem)).2.1, (HE.out.cells (g := gU) (n := false) (a := aB) (l := lB) (c := cB) (by repeat first | exact List.mem_cons_self | apply List.mem_cons_of_mem)).1, (HE.out.cells (g := gU) (n := false) (a := aB) (l := lB) (c := cB) (by repeat first | exact List.mem_cons_self | apply List.mem_cons_of_mem)).2.1, (HE.out.cells (g := (gU + 1)) (n := false) (a := aR) (l := lR) (c := cR) (by repeat first | exact List.mem_cons_self | apply List.mem_cons_of_mem)).1, (HE.out.cells (g := (gU + 1)) (n := false) (a := aR) (l := lR) (c := cR) (by repeat first | exact List.mem_cons_self | apply List.mem_cons_of_mem)).2.1⟩) (fun hHeld => ?_)
        clear hK K
        (try simp only [Act.put, List.setIfInBounds_toArray, List.set_cons_zero, List.set_cons_succ])
        refine wpAnyH_ready (rs := [13]) (by kernel_rfl) (by simp) ?_
        refine AllReadyH.cons (o := { dst := some 70, op := Op.call { callee := Callee.value (Operand.func 25), args := #[Operand.tmp 68, Operand.tmp 69], argTypes := #[44, 44] }, type := 4, pos := "outright.go:64", after := #[{ on := 11, ground := Ground.data }, { on := 12, ground := Ground.data }, { on := 11, ground := Ground.chain }, { on := 6, ground := Ground.guard }], guard := some (6, true) }) rfl (fun K hK => ?_) AllReadyH.nil
        go_simp
        refine (s_sameT HE.out (by repeat first | exact List.mem_cons_self | apply List.mem_cons_of_mem) (v2 := .agg #[.bool nA, .slice aA lA cA]) (by repeat first | exact List.mem_cons_self | apply List.mem_cons_of_mem) (Int.mul_tdiv_add_tmod _ _)).mono ?_
        rintro e wZZ ⟨rfl, hS⟩
        have HE := Lib.hid hS
        clear hS
        go_simp
        refine hK.out _ _ (⟨(HE.out.cells (g := gA) (n := nA) (a := aA) (l := lA) (c := cA) (by repeat first | exact List.mem_cons_self | apply List.mem_cons_of_mem)).1, (HE.out.cells (g := gA) (n := nA) (a := aA) (l := lA) (c := cA) (by repeat first | exact List.mem_cons_self | apply List.mem_cons_of_mem)).2.1, (HE.out.cells (g := gB) (n := nB) (a := aB) (l := lB) (c := cB) (by repeat first | exact List.mem_cons_self | apply List.mem_cons_of_mem)).1, (HE.out.cells (g := gB) (n := nB) (a := aB) (l := lB) (c := cB) (by repeat first | exact List.mem_cons_self | apply List.mem_cons_of_mem)).2.1, (HE.out.cells (g := gQ) (n := nQ) (a := aQ) (l := lQ) (c := cQ) (by repeat first | exact List.mem_cons_self | apply List.mem_cons_of_mem)).1, (HE.out.cells (g := gQ) (n := nQ) (a := aQ) (l := lQ) (c := cQ) (by repeat first | exact List.mem_cons_self | apply List.mem_cons_of_mem)).2.1, (HE.out.cells (g := gR) (n := nR) (a := aR) (l := lR) (c := cR) (by repeat first | exact List.mem_cons_self | apply List.mem_cons_of_mem)).1, (HE.out.cells (g := gR) (n := nR) (a := aR) (l := lR) (c := cR) (by repeat first | exact List.mem_cons_self | apply List.mem_cons_of_mem)).2.1, (HE.out.cells (g := gU) (n := false) (a := aB) (l := lB) (c := cB) (by repeat first | exact List.mem_cons_self | apply List.mem_cons_of_mem)).1, (HE.out.cells (g := gU) (n := false) (a := aB) (l := lB) (c := cB) (by repeat first | exact List.mem_cons_self | apply List.mem_cons_of_mem)).2.1, (HE.out.cells (g := (gU + 1)) (n := false) (a := aR) (l := lR) (c := cR) (by repeat first | exact List.mem_cons_self | apply List.mem_cons_of_mem)).1, (HE.out.cells (g := (gU + 1)) (n := false) (a := aR) (l := lR) (c := cR) (by repeat first | exact List.mem_cons_self | apply List.mem_cons_of_mem)).2.1⟩) (fun hHeld => ?_)
        clear hK K
        (try simp only [Act.put, List.setIfInBounds_toArray, List.set_cons_zero, List.set_cons_succ])
        refine wpAnyH_take (i := 14) (oi := { dst := some 71, op := Op.pick (Operand.tmp 63) (Operand.tmp 70) (Operand.const (Value.bool false)), type := 4, pos := "outright.go:64", after := #[{ on := 6, ground := Ground.data }, { on := 13, ground := Ground.data }], guard := none }) (v := ?_) rfl (by kernel_rfl) (by kernel_rfl) (by kernel_rfl) (fun _ _ _ h => h) (Or.inl ⟨by rfl, ?_⟩) (by assumption) ?_
        rotate_left
        · (intro w hSw; (try dsimp only at hSw); go_simp; all_goals (with_reducible rfl))
        (try simp only [Act.put, List.setIfInBounds_toArray, List.set_cons_zero, List.set_cons_succ])
        refine wpAnyH_take (i := 15) (oi := { dst := some 72, op := Op.move (Operand.tmp 71), type := 4, pos := "outright.go:64", after := #[{ on := 14, ground := Ground.data }, { on := 13, ground := Ground.chain }], guard := none }) (v := ?_) rfl (by kernel_rfl) (by kernel_rfl) (by kernel_rfl) (fun _ _ _ h => h) (Or.inl ⟨by rfl, ?_⟩) (by assumption) ?_
        rotate_left
        · (intro w hSw; (try dsimp only at hSw); go_simp; all_goals (with_reducible rfl))
        (try simp only [Act.put, List.setIfInBounds_toArray, List.set_cons_zero, List.set_cons_succ])
        refine wpAnyH_take (i := 16) (oi := { dst := some 73, op := Op.load 44 (Operand.tmp 9), type := 44, pos := "outright.go:64", after := #[{ on := 15, ground := Ground.guard }], guard := some (15, true) }) (v := ?_) rfl (by kernel_rfl) (by kernel_rfl) (by kernel_rfl) (fun _ _ _ h => h) (Or.inl ⟨by rfl, ?_⟩) (by assumption) ?_
        rotate_left
        · (intro w hSw; (try dsimp only at hSw); go_simp; all_goals (with_reducible rfl))
        (try simp only [Act.put, List.setIfInBounds_toArray, List.set_cons_zero, List.set_cons_succ])
        refine wpAnyH_ready (rs := [17]) (by kernel_rfl) (by simp) ?_
        refine AllReadyH.cons (o := { dst := some 74, op := Op.call { callee := Callee.value (Operand.func 26), args := #[Operand.tmp 73], argTypes := #[44] }, type := 3, pos := "outright.go:64", after := #[{ on := 16, ground := Ground.data }, { on := 15, ground := Ground.chain }, { on := 15, ground := Ground.guard }], guard := some (15, true) }) rfl (fun K hK => ?_) AllReadyH.nil
        go_simp
        refine (s_sign HE.out (v := .agg #[.bool nR, .slice aR lR cR]) (by repeat first | exact List.mem_cons_self | apply List.mem_cons_of_mem)).mono ?_
        rintro e wZZ ⟨rfl, hS⟩
        have HE := Lib.hid hS
        clear hS
        rw [hsr]
        go_simp
        refine hK.out _ _ (⟨(HE.out.cells (g := gA) (n := nA) (a := aA) (l := lA) (c := cA) (by repeat first | exact List.mem_cons_self | apply List.mem_cons_of_mem)).1, (HE.out.cells (g := gA) (n := nA) (a := aA) (l := lA) (c := cA) (by repeat first | exact List.mem_cons_self | apply List.mem_cons_of_mem)).2.1, (HE.out.cells (g := gB) (n := nB) (a := aB) (l := lB) (c := cB) (by repeat first | exact List.mem_cons_self | apply List.mem_cons_of_mem)).1, (HE.out.cells (g := gB) (n := nB) (a := aB) (l := lB) (c := cB) (by repeat first | exact List.mem_cons_self | apply List.mem_cons_of_mem)).2.1, (HE.out.cells (g := gQ) (n := nQ) (a := aQ) (l := lQ) (c := cQ) (by repeat first | exact List.mem_cons_self | apply List.mem_cons_of_mem)).1, (HE.out.cells (g := gQ) (n := nQ) (a := aQ) (l := lQ) (c := cQ) (by repeat first | exact List.mem_cons_self | apply List.mem_cons_of_mem)).2.1, (HE.out.cells (g := gR) (n := nR) (a := aR) (l := lR) (c := cR) (by repeat first | exact List.mem_cons_self | apply List.mem_cons_of_mem)).1, (HE.out.cells (g := gR) (n := nR) (a := aR) (l := lR) (c := cR) (by repeat first | exact List.mem_cons_self | apply List.mem_cons_of_mem)).2.1, (HE.out.cells (g := gU) (n := false) (a := aB) (l := lB) (c := cB) (by repeat first | exact List.mem_cons_self | apply List.mem_cons_of_mem)).1, (HE.out.cells (g := gU) (n := false) (a := aB) (l := lB) (c := cB) (by repeat first | exact List.mem_cons_self | apply List.mem_cons_of_mem)).2.1, (HE.out.cells (g := (gU + 1)) (n := false) (a := aR) (l := lR) (c := cR) (by repeat first | exact List.mem_cons_self | apply List.mem_cons_of_mem)).1, (HE.out.cells (g := (gU + 1)) (n := false) (a := aR) (l := lR) (c := cR) (by repeat first | exact List.mem_cons_self | apply List.mem_cons_of_mem)).2.1⟩) (fun hHeld => ?_)
        clear hK K
        (try simp only [Act.put, List.setIfInBounds_toArray, List.set_cons_zero, List.set_cons_succ])
        refine wpAnyH_take (i := 18) (oi := { dst := some 75, op := Op.binOp BinOp.eql 3 (Operand.tmp 74) (Operand.const (Value.int IntKind.i64 0)) 3, type := 4, pos := "outright.go:64", after := #[{ on := 17, ground := Ground.data }, { on := 15, ground := Ground.guard }], guard := some (15, true) }) (v := ?_) rfl (by kernel_rfl) (by kernel_rfl) (by kernel_rfl) (fun _ _ _ h => h) (Or.inl ⟨by rfl, ?_⟩) (by assumption) ?_
        rotate_left
        · (intro w hSw; (try dsimp only at hSw); go_simp; all_goals (with_reducible rfl))
        (try simp only [Act.put, List.setIfInBounds_toArray, List.set_cons_zero, List.set_cons_succ])
        refine wpAnyH_take (i := 19) (oi := { dst := some 76, op := Op.move (Operand.tmp 75), type := 4, pos := "outright.go:64", after := #[{ on := 18, ground := Ground.data }, { on := 17, ground := Ground.chain }, { on := 15, ground := Ground.guard }], guard := some (15, true) }) (v := ?_) rfl (by kernel_rfl) (by kernel_rfl) (by kernel_rfl) (fun _ _ _ h => h) (Or.inl ⟨by rfl, ?_⟩) (by assumption) ?_
        rotate_left
        · (intro w hSw; (try dsimp only at hSw); go_simp; all_goals (with_reducible rfl))
        (try simp only [Act.put, List.setIfInBounds_toArray, List.set_cons_zero, List.set_cons_succ])
        refine wpAnyH_take (i := 20) (oi := { dst := some 77, op := Op.load 44 (Operand.tmp 9), type := 44, pos := "outright.go:64", after := #[{ on := 19, ground := Ground.guard }], guard := some (19, false) }) (v := undef) rfl (by kernel_rfl) (by kernel_rfl) (by kernel_rfl) (fun _ _ _ h => h) (Or.inr ⟨by rfl, rfl⟩) (by assumption) ?_
        (try simp only [Act.put, List.setIfInBounds_toArray, List.set_cons_zero, List.set_cons_succ])
        refine wpAnyH_take (i := 21) (oi := { dst := some 78, op := Op.call { callee := Callee.value (Operand.func 26), args := #[Operand.tmp 77], argTypes := #[44] }, type := 3, pos := "outright.go:64", after := #[{ on := 20, ground := Ground.data }, { on := 19, ground := Ground.chain }, { on := 19, ground := Ground.guard }], guard := some (19, false) }) (v := undef) rfl (by kernel_rfl) (by kernel_rfl) (by kernel_rfl) (fun _ _ _ h => h) (Or.inr ⟨by rfl, rfl⟩) (by assumption) ?_
        (try simp only [Act.put, List.setIfInBounds_toArray, List.set_cons_zero, List.set_cons_succ])
        refine wpAnyH_take (i := 22) (oi := { dst := some 79, op := Op.load 44 (Operand.tmp 5), type := 44, pos := "outright.go:64", after := #[{ on := 19, ground := Ground.guard }], guard := some (19, false) }) (v := undef) rfl (by kernel_rfl) (by kernel_rfl) (by kernel_rfl) (fun _ _ _ h => h) (Or.inr ⟨by rfl, rfl⟩) (by assumption) ?_
        (try simp only [Act.put, List.setIfInBounds_toArray, List.set_cons_zero, List.set_cons_succ])
        refine wpAnyH_take (i := 23) (oi := { dst := some 80, op := Op.call { callee := Callee.value (Operand.func 26), args := #[Operand.tmp 79], argTypes := #[44] }, type := 3, pos := "outright.go:64", after := #[{ on := 22, ground := Ground.data }, { on := 21, ground := Ground.chain }, { on := 19, ground := Ground.guard }], guard := some (19, false) }) (v := undef) rfl (by kernel_rfl) (by kernel_rfl) (by kernel_rfl) (fun _ _ _ h => h) (Or.inr ⟨by rfl, rfl⟩) (by assumption) ?_
        (try simp only [Act.put, List.setIfInBounds_toArray, List.set_cons_zero, List.set_cons_succ])
        refine wpAnyH_take (i := 24) (oi := { dst := some 81, op := Op.binOp BinOp.eql 3 (Operand.tmp 78) (Operand.tmp 80) 3, type := 4, pos := "outright.go:64", after := #[{ on := 21, ground := Ground.data }, { on := 23, ground := Ground.data }, { on := 19, ground := Ground.guard }], guard := some (19, false) }) (v := undef) rfl (by kernel_rfl) (by kernel_rfl) (by kernel_rfl) (fun _ _ _ h => h) (Or.inr ⟨by rfl, rfl⟩) (by assumption) ?_
        (try simp only [Act.put, List.setIfInBounds_toArray, List.set_cons_zero, List.set_cons_succ])
        refine wpAnyH_take (i := 25) (oi := { dst := some 82, op := Op.pick (Operand.tmp 76) (Operand.const (Value.bool true)) (Operand.tmp 81), type := 4, pos := "outright.go:64", after := #[{ on := 19, ground := Ground.data }, { on := 24, ground := Ground.data }, { on := 15, ground := Ground.guard }], guard := some (15, true) }) (v := ?_) rfl (by kernel_rfl) (by kernel_rfl) (by kernel_rfl) (fun _ _ _ h => h) (Or.inl ⟨by rfl, ?_⟩) (by assumption) ?_
        rotate_left
        · (intro w hSw; (try dsimp only at hSw); go_simp; all_goals (with_reducible rfl))
        (try simp only [Act.put, List.setIfInBounds_toArray, List.set_cons_zero, List.set_cons_succ])
        refine wpAnyH_take (i := 26) (oi := { dst := some 83, op := Op.pick (Operand.tmp 72) (Operand.tmp 82) (Operand.const (Value.bool false)), type := 4, pos := "outright.go:64", after := #[{ on := 15, ground := Ground.data }, { on := 25, ground := Ground.data }], guard := none }) (v := ?_) rfl (by kernel_rfl) (by kernel_rfl) (by kernel_rfl) (fun _ _ _ h => h) (Or.inl ⟨by rfl, ?_⟩) (by assumption) ?_
        rotate_left
        · (intro w hSw; (try dsimp only at hSw); go_simp; all_goals (with_reducible rfl))
        (try simp only [Act.put, List.setIfInBounds_toArray, List.set_cons_zero, List.set_cons_succ])
        refine wpAnyH_take (i := 27) (oi := { dst := some 84, op := Op.move (Operand.tmp 83), type := 4, pos := "outright.go:64", after := #[{ on := 26, ground := Ground.data }, { on := 23, ground := Ground.chain }], guard := none }) (v := ?_) rfl (by kernel_rfl) (by kernel_rfl) (by kernel_rfl) (fun _ _ _ h => h) (Or.inl ⟨by rfl, ?_⟩) (by assumption) ?_
        rotate_left
        · (intro w hSw; (try dsimp only at hSw); go_simp; all_goals (with_reducible rfl))
        (try simp only [Act.put, List.setIfInBounds_toArray, List.set_cons_zero, List.set_cons_succ])
        refine wpAnyH_take (i := 28) (oi := { dst := some 85, op := Op.load 44 (Operand.tmp 12), type := 44, pos := "outright.go:64", after := #[{ on := 27, ground := Ground.guard }], guard := some (27, true) }) (v := ?_) rfl (by kernel_rfl) (by kernel_rfl) (by kernel_rfl) (fun _ _ _ h => h) (Or.inl ⟨by rfl, ?_⟩) (by assumption) ?_
        rotate_left
        · (intro w hSw; (try dsimp only at hSw); go_simp; all_goals (with_reducible rfl))
        (try simp only [Act.put, List.setIfInBounds_toArray, List.set_cons_zero, List.set_cons_succ])
        refine wpAnyH_take (i := 29) (oi := { dst := some 86, op := Op.load 44 (Operand.tmp 11), type := 44, pos := "outright.go:64", after := #[{ on := 27, ground := Ground.guard }], guard := some (27, true) }) (v := ?_) rfl (by kernel_rfl) (by kernel_rfl) (by kernel_rfl) (fun _ _ _ h => h) (Or.inl ⟨by rfl, ?_⟩) (by assumption) ?_
        rotate_left
        · (intro w hSw; (try dsimp only at hSw); go_simp; all_goals (with_reducible rfl))
        (try simp only [Act.put, List.setIfInBounds_toArray, List.set_cons_zero, List.set_cons_succ])
        refine wpAnyH_ready (rs := [30]) (by kernel_rfl) (by simp) ?_
        refine AllReadyH.cons (o := { dst := some 87, op := Op.call { callee := Callee.value (Operand.func 28), args := #[Operand.tmp 85, Operand.tmp 86], argTypes := #[44, 44] }, type := 3, pos := "outright.go:64", after := #[{ on := 28, ground := Ground.data }, { on := 29, ground := Ground.data }, { on := 27, ground := Ground.chain }, { on := 27, ground := Ground.guard }], guard := some (27, true) }) rfl (fun K hK => ?_) AllReadyH.nil
        go_simp
        refine (s_cmp HE.out (HT.out _ HE.out.bel) (v1 := .agg #[.bool false, .slice aR lR cR]) (v2 := .agg #[.bool false, .slice aB lB cB]) (by repeat first | exact List.mem_cons_self | apply List.mem_cons_of_mem) (by repeat first | exact List.mem_cons_self | apply List.mem_cons_of_mem)).mono ?_
        rintro e wZZ ⟨rfl, hS⟩
        have HE := Lib.hid hS
        clear hS
        rw [hcmp]
        go_simp
        refine hK.out _ _ (⟨(HE.out.cells (g := gA) (n := nA) (a := aA) (l := lA) (c := cA) (by repeat first | exact List.mem_cons_self | apply List.mem_cons_of_mem)).1, (HE.out.cells (g := gA) (n := nA) (a := aA) (l := lA) (c := cA) (by repeat first | exact List.mem_cons_self | apply List.mem_cons_of_mem)).2.1, (HE.out.cells (g := gB) (n := nB) (a := aB) (l := lB) (c := cB) (by repeat first | exact List.mem_cons_self | apply List.mem_cons_of_mem)).1, (HE.out.cells (g := gB) (n := nB) (a := aB) (l := lB) (c := cB) (by repeat first | exact List.mem_cons_self | apply List.mem_cons_of_mem)).2.1, (HE.out.cells (g := gQ) (n := nQ) (a := aQ) (l := lQ) (c := cQ) (by repeat first | exact List.mem_cons_self | apply List.mem_cons_of_mem)).1, (HE.out.cells (g := gQ) (n := nQ) (a := aQ) (l := lQ) (c := cQ) (by repeat first | exact List.mem_cons_self | apply List.mem_cons_of_mem)).2.1, (HE.out.cells (g := gR) (n := nR) (a := aR) (l := lR) (c := cR) (by repeat first | exact List.mem_cons_self | apply List.mem_cons_of_mem)).1, (HE.out.cells (g := gR) (n := nR) (a := aR) (l := lR) (c := cR) (by repeat first | exact List.mem_cons_self | apply List.mem_cons_of_mem)).2.1, (HE.out.cells (g := gU) (n := false) (a := aB) (l := lB) (c := cB) (by repeat first | exact List.mem_cons_self | apply List.mem_cons_of_mem)).1, (HE.out.cells (g := gU) (n := false) (a := aB) (l := lB) (c := cB) (by repeat first | exact List.mem_cons_self | apply List.mem_cons_of_mem)).2.1, (HE.out.cells (g := (gU + 1)) (n := false) (a := aR) (l := lR) (c := cR) (by repeat first | exact List.mem_cons_self | apply List.mem_cons_of_mem)).1, (HE.out.cells (g := (gU + 1)) (n := false) (a := aR) (l := lR) (c := cR) (by repeat first | exact List.mem_cons_self | apply List.mem_cons_of_mem)).2.1⟩) (fun hHeld => ?_)
        clear hK K
        (try simp only [Act.put, List.setIfInBounds_toArray, List.set_cons_zero, List.set_cons_succ])
        refine wpAnyH_take (i := 31) (oi := { dst := some 88, op := Op.binOp BinOp.lss 3 (Operand.tmp 87) (Operand.const (Value.int IntKind.i64 0)) 3, type := 4, pos := "outright.go:64", after := #[{ on := 30, ground := Ground.data }, { on := 27, ground := Ground.guard }], guard := some (27, true) }) (v := ?_) rfl (by kernel_rfl) (by kernel_rfl) (by kernel_rfl) (fun _ _ _ h => h) (Or.inl ⟨by rfl, ?_⟩) (by assumption) ?_
        rotate_left
        · (intro w hSw; (try dsimp only at hSw); go_simp; all_goals (with_reducible rfl))
        (try simp only [Act.put, List.setIfInBounds_toArray, List.set_cons_zero, List.set_cons_succ])
        refine wpAnyH_take (i := 32) (oi := { dst := some 89, op := Op.pick (Operand.tmp 84) (Operand.tmp 88) (Operand.const (Value.bool false)), type := 4, pos := "outright.go:64", after := #[{ on := 27, ground := Ground.data }, { on := 31, ground := Ground.data }], guard := none }) (v := ?_) rfl (by kernel_rfl) (by kernel_rfl) (by kernel_rfl) (fun _ _ _ h => h) (Or.inl ⟨by rfl, ?_⟩) (by assumption) ?_
        rotate_left
        · (intro w hSw; (try dsimp only at hSw); go_simp; all_goals (with_reducible rfl))
        (try simp only [Act.put, List.setIfInBounds_toArray, List.set_cons_zero, List.set_cons_succ])
        refine wpAnyH_take (i := 33) (oi := { dst := some 90, op := Op.move (Operand.tmp 89), type := 4, pos := "outright.go:64", after := #[{ on := 32, ground := Ground.data }, { on := 30, ground := Ground.chain }], guard := none }) (v := ?_) rfl (by kernel_rfl) (by kernel_rfl) (by kernel_rfl) (fun _ _ _ h => h) (Or.inl ⟨by rfl, ?_⟩) (by assumption) ?_
        rotate_left
        · (intro w hSw; (try dsimp only at hSw); go_simp; all_goals (with_reducible rfl))
        (try simp only [Act.put, List.setIfInBounds_toArray, List.set_cons_zero, List.set_cons_succ])
        refine wpAnyH_ready (rs := [34]) (by kernel_rfl) (by simp) ?_
        refine AllReadyH.cons (o := { dst := some 91, op := Op.call { callee := Callee.value (Operand.func 29), args := #[], argTypes := #[] }, type := 4, pos := "outright.go:64", after := #[{ on := 33, ground := Ground.chain }, { on := 33, ground := Ground.guard }], guard := some (33, true) }) rfl (fun K hK => ?_) AllReadyH.nil
        go_simp
        refine (s_works HE.out (HT.out _ HE.out.bel)).mono ?_
        rintro e wZZ ⟨rfl, hS⟩
        have HE := Lib.hid hS
        clear hS
        go_simp
        refine hK.out _ _ (⟨(HE.out.cells (g := gA) (n := nA) (a := aA) (l := lA) (c := cA) (by repeat first | exact List.mem_cons_self | apply List.mem_cons_of_mem)).1, (HE.out.cells (g := gA) (n := nA) (a := aA) (l := lA) (c := cA) (by repeat first | exact List.mem_cons_self | apply List.mem_cons_of_mem)).2.1, (HE.out.cells (g := gB) (n := nB) (a := aB) (l := lB) (c := cB) (by repeat first | exact List.mem_cons_self | apply List.mem_cons_of_mem)).1, (HE.out.cells (g := gB) (n := nB) (a := aB) (l := lB) (c := cB) (by repeat first | exact List.mem_cons_self | apply List.mem_cons_of_mem)).2.1, (HE.out.cells (g := gQ) (n := nQ) (a := aQ) (l := lQ) (c := cQ) (by repeat first | exact List.mem_cons_self | apply List.mem_cons_of_mem)).1, (HE.out.cells (g := gQ) (n := nQ) (a := aQ) (l := lQ) (c := cQ) (by repeat first | exact List.mem_cons_self | apply List.mem_cons_of_mem)).2.1, (HE.out.cells (g := gR) (n := nR) (a := aR) (l := lR) (c := cR) (by repeat first | exact List.mem_cons_self | apply List.mem_cons_of_mem)).1, (HE.out.cells (g := gR) (n := nR) (a := aR) (l := lR) (c := cR) (by repeat first | exact List.mem_cons_self | apply List.mem_cons_of_mem)).2.1, (HE.out.cells (g := gU) (n := false) (a := aB) (l := lB) (c := cB) (by repeat first | exact List.mem_cons_self | apply List.mem_cons_of_mem)).1, (HE.out.cells (g := gU) (n := false) (a := aB) (l := lB) (c := cB) (by repeat first | exact List.mem_cons_self | apply List.mem_cons_of_mem)).2.1, (HE.out.cells (g := (gU + 1)) (n := false) (a := aR) (l := lR) (c := cR) (by repeat first | exact List.mem_cons_self | apply List.mem_cons_of_mem)).1, (HE.out.cells (g := (gU + 1)) (n := false) (a := aR) (l := lR) (c := cR) (by repeat first | exact List.mem_cons_self | apply List.mem_cons_of_mem)).2.1⟩) (fun hHeld => ?_)
        clear hK K
        (try simp only [Act.put, List.setIfInBounds_toArray, List.set_cons_zero, List.set_cons_succ])
        refine wpAnyH_take (i := 35) (oi := { dst := some 92, op := Op.pick (Operand.tmp 90) (Operand.tmp 91) (Operand.const (Value.bool false)), type := 4, pos := "outright.go:64", after := #[{ on := 33, ground := Ground.data }, { on := 34, ground := Ground.data }], guard := none }) (v := ?_) rfl (by kernel_rfl) (by kernel_rfl) (by kernel_rfl) (fun _ _ _ h => h) (Or.inl ⟨by rfl, ?_⟩) (by assumption) ?_
        rotate_left
        · (intro w hSw; (try dsimp only at hSw); go_simp; all_goals (with_reducible rfl))
        (try simp only [Act.put, List.setIfInBounds_toArray, List.set_cons_zero, List.set_cons_succ])
        refine wpAnyH_take (i := 36) (oi := { dst := some 4, op := Op.assign (Operand.tmp 92), type := 4, pos := "outright.go:64", after := #[{ on := 35, ground := Ground.data }, { on := 34, ground := Ground.chain }, { on := 0, ground := Ground.phase }, { on := 1, ground := Ground.phase }, { on := 2, ground := Ground.phase }, { on := 3, ground := Ground.phase }, { on := 4, ground := Ground.phase }, { on := 5, ground := Ground.phase }, { on := 6, ground := Ground.phase }, { on := 7, ground := Ground.phase }, { on := 8, ground := Ground.phase }, { on := 9, ground := Ground.phase }, { on := 10, ground := Ground.phase }, { on := 11, ground := Ground.phase }, { on := 12, ground := Ground.phase }, { on := 13, ground := Ground.phase }, { on := 14, ground := Ground.phase }, { on := 15, ground := Ground.phase }, { on := 16, ground := Ground.phase }, { on := 17, ground := Ground.phase }, { on := 18, ground := Ground.phase }, { on := 19, ground := Ground.phase }, { on := 20, ground := Ground.phase }, { on := 21, ground := Ground.phase }, { on := 22, ground := Ground.phase }, { on := 23, ground := Ground.phase }, { on := 24, ground := Ground.phase }, { on := 25, ground := Ground.phase }, { on := 26, ground := Ground.phase }, { on := 27, ground := Ground.phase }, { on := 28, ground := Ground.phase }, { on := 29, ground := Ground.phase }, { on := 30, ground := Ground.phase }, { on := 31, ground := Ground.phase }, { on := 32, ground := Ground.phase }, { on := 33, ground := Ground.phase }, { on := 34, ground := Ground.phase }, { on := 35, ground := Ground.phase }], guard := none }) (v := ?_) rfl (by kernel_rfl) (by kernel_rfl) (by kernel_rfl) (fun _ _ _ h => h) (Or.inl ⟨by rfl, ?_⟩) (by assumption) ?_
        rotate_left
        · (intro w hSw; (try dsimp only at hSw); go_simp; all_goals (with_reducible rfl))
        (try simp only [Act.put, List.setIfInBounds_toArray, List.set_cons_zero, List.set_cons_succ])
        refine wpAnyH_done (by kernel_rfl) ?_ _
        all_goals (go_wp2; go_ret; exact ⟨rfl, HE.out.bel⟩)
      · have hsr : sg (Zx.tmod Zy) = sg Zx := sg_tmod hr0
        have hs0 : (sg Zx == 0) = false := by rw [beq_eq_false_iff_ne, ← hsr]; exact fun h => hr0 (sg_zero.1 h)
        have hs1 : (sg Zx == sg Zx) = true := by simp
        clear hr0
        have HE := Lib.hid HE.out.drew
        first | (go_region_held3 (fun W => W.cell? ⟨gA, 0, none⟩ = some (.bool nA) ∧ W.cell? ⟨gA, 1, none⟩ = some (.slice aA lA cA) ∧ W.cell? ⟨gB, 0, none⟩ = some (.bool nB) ∧ W.cell? ⟨gB, 1, none⟩ = some (.slice aB lB cB) ∧ W.cell? ⟨gQ, 0, none⟩ = some (.bool nQ) ∧ W.cell? ⟨gQ, 1, none⟩ = some (.slice aQ lQ cQ) ∧ W.cell? ⟨gR, 0, none⟩ = some (.bool nR) ∧ W.cell? ⟨gR, 1, none⟩ = some (.slice aR lR cR) ∧ W.cell? ⟨gU, 0, none⟩ = some (.bool false) ∧ W.cell? ⟨gU, 1, none⟩ = some (.slice aB lB cB) ∧ W.cell? ⟨(gU + 1), 0, none⟩ = some (.bool false) ∧ W.cell? ⟨(gU + 1), 1, none⟩ = some (.slice aR lR cR))
          (exact ⟨(HE.out.cells (g := gA) (n := nA) (a := aA) (l := lA) (c := cA) (by repeat first | exact List.mem_cons_self | apply List.mem_cons_of_mem)).1, (HE.out.cells (g := gA) (n := nA) (a := aA) (l := lA) (c := cA) (by repeat first | exact List.mem_cons_self | apply List.mem_cons_of_mem)).2.1, (HE.out.cells (g := gB) (n := nB) (a := aB) (l := lB) (c := cB) (by repeat first | exact List.mem_cons_self | apply List.mem_cons_of_mem)).1, (HE.out.cells (g := gB) (n := nB) (a := aB) (l := lB) (c := cB) (by repeat first | exact List.mem_cons_self | apply List.mem_cons_of_mem)).2.1, (HE.out.cells (g := gQ) (n := nQ) (a := aQ) (l := lQ) (c := cQ) (by repeat first | exact List.mem_cons_self | apply List.mem_cons_of_mem)).1, (HE.out.cells (g := gQ) (n := nQ) (a := aQ) (l := lQ) (c := cQ) (by repeat first | exact List.mem_cons_self | apply List.mem_cons_of_mem)).2.1, (HE.out.cells (g := gR) (n := nR) (a := aR) (l := lR) (c := cR) (by repeat first | exact List.mem_cons_self | apply List.mem_cons_of_mem)).1, (HE.out.cells (g := gR) (n := nR) (a := aR) (l := lR) (c := cR) (by repeat first | exact List.mem_cons_self | apply List.mem_cons_of_mem)).2.1, (HE.out.cells (g := gU) (n := false) (a := aB) (l := lB) (c := cB) (by repeat first | exact List.mem_cons_self | apply List.mem_cons_of_mem)).1, (HE.out.cells (g := gU) (n := false) (a := aB) (l := lB) (c := cB) (by repeat first | exact List.mem_cons_self | apply List.mem_cons_of_mem)).2.1, (HE.out.cells (g := (gU + 1)) (n := false) (a := aR) (l := lR) (c := cR) (by repeat first | exact List.mem_cons_self | apply List.mem_cons_of_mem)).1, (HE.out.cells (g := (gU + 1)) (n := false) (a := aR) (l := lR) (c := cR) (by repeat first | exact List.mem_cons_self | apply List.mem_cons_of_mem)).2.1⟩)
          (first
          | (go_at_call 27; (with_reducible refine (s_product HE.out (HT.out _ HE.out.bel) (HTR.out _ HE.out.bel) (by repeat first | exact List.mem_cons_self | apply List.mem_cons_of_mem) (by repeat first | exact List.mem_cons_self | apply List.mem_cons_of_mem) ?hl).mono ?_)
             (case hl => exact HLA.out)
             rintro e wZZ ⟨nZZ, aZZ, lZZ, cZZ, rfl, hS⟩
             have HE := Lib.hid hS
             clear hS)
          | (go_at_call 23; (with_reducible refine (s_sum HE.out (HTS.out _ HE.out.bel) (by repeat first | exact List.mem_cons_self | apply List.mem_cons_of_mem) (by repeat first | exact List.mem_cons_self | apply List.mem_cons_of_mem) ?hl).mono ?_)
             (case hl => exact HLB.out)
             rintro e wZZ ⟨nZZ, aZZ, lZZ, cZZ, rfl, hS⟩
             have HE := Lib.hid hS
             clear hS)
          | (go_at_call 25; (with_reducible refine (s_sameT HE.out (by repeat first | exact List.mem_cons_self | apply List.mem_cons_of_mem) (by repeat first | exact List.mem_cons_self | apply List.mem_cons_of_mem) ?hl).mono ?_)
             (case hl => exact Int.mul_tdiv_add_tmod _ _)
             rintro e wZZ ⟨rfl, hS⟩
             have HE := Lib.hid hS
             clear hS)
          | (go_at_call 26; (with_reducible refine (s_sign HE.out (by repeat first | exact List.mem_cons_self | apply List.mem_cons_of_mem)).mono ?_)
             rintro e wZZ ⟨rfl, hS⟩
             have HE := Lib.hid hS
             clear hS
             (try rw [hsr]))
          | (go_at_call 28; (with_reducible refine (s_cmp HE.out (HT.out _ HE.out.bel) (by repeat first | exact List.mem_cons_self | apply List.mem_cons_of_mem) (by repeat first | exact List.mem_cons_self | apply List.mem_cons_of_mem)).mono ?_)
             rintro e wZZ ⟨rfl, hS⟩
             have HE := Lib.hid hS
             clear hS
             (try rw [hcmp]))
          | (go_at_call 29; (with_reducible refine (s_works HE.out (HT.out _ HE.out.bel)).mono ?_)
             rintro e wZZ ⟨rfl, hS⟩
             have HE := Lib.hid hS
             clear hS))) | fail "region"
        all_goals (go_wp2; go_ret; exact ⟨rfl, HE.out.bel⟩)
end Go.Proofs.YthccccpcjafdcaaDoor
