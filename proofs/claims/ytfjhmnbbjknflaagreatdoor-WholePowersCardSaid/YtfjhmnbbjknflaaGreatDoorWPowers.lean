import Derived.Test.YtfjhmnbbjknflaaGreatDoorHeadL
import Derived.Test.YtfjhmnbbjknflaaGreatDoorWPow
import Derived.Test.YtfjhmnbbjknflaaGreatDoorMoves
namespace Go.Proofs.YtfjhmnbbjknflaaGreatDoor
open Go.RowKit

theorem PowTells.one {P : Prop} {A N k k' : Int} {s s' : Bool} {zs zs' : List Nat} (h : PowTells P A N k s zs) (h' : PowTells P A N k' s' zs') : k = k' ∧ s = s' ∧ zs = zs' := by
  rcases h with ⟨p, rfl, rfl, rfl⟩ | ⟨p, q, rfl, rfl, rfl⟩ | ⟨p, q, r, rfl, rfl, rfl⟩ | ⟨p, q, r, rfl, rfl, t⟩ <;>
  rcases h' with ⟨p', rfl, rfl, rfl⟩ | ⟨p', q', rfl, rfl, rfl⟩ | ⟨p', q', r', rfl, rfl, rfl⟩ | ⟨p', q', r', rfl, rfl, t'⟩
  all_goals first | exact ⟨rfl, rfl, rfl⟩ | exact ⟨rfl, rfl, t.unique t'⟩ | exact absurd p' p | exact absurd p p' | exact absurd q (Int.not_lt.2 q') | exact absurd q' (Int.not_lt.2 q) | exact absurd r' (Nat.not_lt.2 r) | exact absurd r (Nat.not_lt.2 r')
theorem rdl_of {w : World} {B g n c : Nat} {xs : List Nat} {L : List Value} (h : w.ownsRow B 61 1 (.slice (some ⟨g, 0, none⟩) n c) n L) (hL : L.take xs.length = u64s xs) (hn : xs.length ≤ n) : Rd .u64 w (some ⟨g, 0, none⟩) xs := by
  intro j hj
  refine ⟨g, 0, rfl, fun i hi => ?_⟩
  rw [Nat.zero_add, World.ownsRow.cellAt h i (by omega)]
  have h1 := u64s_get xs i hi
  rw [← hL, List.getElem?_take, if_pos hi] at h1
  exact h1
set_option maxHeartbeats 16000000 in
set_option maxRecDepth 100000 in
theorem wholepowers_of (nx ny : Bool) (ax ay : Option Addr) (lx cx ly cy : Nat) (xsx xsy : List Nat) (w : World) (hlx : xsx.length = lx) (hly : xsy.length = ly) (hbx : lx ≤ 9223372036854775807) (hby : ly ≤ 9223372036854775807) (hrx : Rd .u64 w ax xsx) (hry : Rd .u64 w ay xsy) (bxx : Bd xsx) (bxy : Bd xsy) (ht : Tabs w) (hT : Trig w)
    (hR : lx ≤ 200 → ly ≤ 200 → ∀ W : World, Below w.heap.size w W → Calls Tryz.prog 9 #[.agg #[.bool nx, .slice ax lx cx], .agg #[.bool ny, .slice ay ly cy]] W (WTold (PowTells (val xsx < LIM ∧ val xsy < LIM) (wv nx xsx) (wv ny xsy)) W)) :
    Calls Tryz.prog 3 #[.agg #[.bool nx, .slice ax lx cx], .agg #[.bool ny, .slice ay ly cy]] w fun e w' => e = .returned (.bool true) ∧ Below w.heap.size w w' := by
  have HT := Lib.hid (fun (W : World) (h : Below w.heap.size w W) => ht.below h)
  have HTR := Lib.hid (fun (W : World) (h : Below w.heap.size w W) => hT.below h)
  have HRX := Lib.hid (fun (W : World) (h : Below w.heap.size w W) => hrx.below h)
  have HRY := Lib.hid (fun (W : World) (h : Below w.heap.size w W) => hry.below h)
  have HBX := Lib.hid bxx
  have HBY := Lib.hid bxy
  have HLX := Lib.hid hlx
  have HLY := Lib.hid hly
  clear ht hT hrx hry bxx bxy
  go_enter Tryz.func3, Tryz.ntmps3
  have HW2 := Lib.hid (show Below w.heap.size w ((w.alloc (WO nx ax lx cx)).alloc (WO ny ay ly cy)) from ((Below.refl _ _).alloc (Nat.le_refl _) _).alloc (by simp) _)
  by_cases h1 : 200 < lx
  · have hq : decide ((200 : Int) < (lx : Int)) = true := by rw [decide_eq_true_iff]; omega
    clear h1 hR
    go_wp2
    go_ret
    exact ⟨rfl, HW2.out⟩
  by_cases h2 : 200 < ly
  · have hq : decide ((200 : Int) < (lx : Int)) = false := by rw [decide_eq_false_iff_not]; omega
    have hq2 : decide ((200 : Int) < (ly : Int)) = true := by rw [decide_eq_true_iff]; omega
    clear h1 h2 hR
    go_wp2
    go_ret
    exact ⟨rfl, HW2.out⟩
  have hq : decide ((200 : Int) < (lx : Int)) = false := by rw [decide_eq_false_iff_not]; omega
  have hq2 : decide ((200 : Int) < (ly : Int)) = false := by rw [decide_eq_false_iff_not]; omega
  have HR := Lib.hid (hR (by omega) (by omega))
  have hx2 : lx ≤ 200 := by omega
  have hy2 : ly ≤ 200 := by omega
  have HI0 : Hid (∀ (W : World) (_ : Below w.heap.size w W), Calls Tryz.prog 7 #[.agg #[.bool nx, .slice ax lx cx]] W fun e w' => Below W.heap.size W w' ∧ ∃ v, e = .returned v ∧ IsL w.heap.size w' v (nx, xsx)) := fun W h => (lentWhole_any nx ax lx cx xsx W HLX.out (by omega) (HRX.out _ h)).mono (by
    rintro e w' ⟨g, c, rfl, ho, hg, hb⟩
    exact ⟨hb, _, rfl, g, c, by rw [HLX.out], by rw [HLX.out]; exact owns_base ho h.size⟩)
  have HI1 : Hid (∀ (W : World) (_ : Below w.heap.size w W), Calls Tryz.prog 7 #[.agg #[.bool ny, .slice ay ly cy]] W fun e w' => Below W.heap.size W w' ∧ ∃ v, e = .returned v ∧ IsL w.heap.size w' v (ny, xsy)) := fun W h => (lentWhole_any ny ay ly cy xsy W HLY.out (by omega) (HRY.out _ h)).mono (by
    rintro e w' ⟨g, c, rfl, ho, hg, hb⟩
    exact ⟨hb, _, rfl, g, c, by rw [HLY.out], by rw [HLY.out]; exact owns_base ho h.size⟩)
  clear h1 h2 hR hlx hly
  have HE := Lib.hid (((SL.init w).new (w.heap.size) rfl nx ax lx cx).new (w.heap.size + 1) (by simp) ny ay ly cy)
  go_wp2_with fail
  have HE0 := HE
  refine wp_region_inv (by kernel_rfl) (by kernel_rfl) (fun L val W => PhL w [((w.heap.size + 1), ny, ay, ly, cy), (w.heap.size, nx, ax, lx, cx)] 2 (fun k : Nat => if k = 0 then Value.agg #[.bool nx, .slice ax lx cx] else (Value.agg #[.bool ny, .slice ay ly cy])) (fun k : Nat => if k = 0 then (nx, xsx) else ((ny, xsy))) L val W ∨ FuL21 w [((w.heap.size + 1), ny, ay, ly, cy), (w.heap.size, nx, ax, lx, cx)] (fun k : Nat => if k = 0 then (nx, xsx) else ((ny, xsy))) L val W ∨ FuL22 w [((w.heap.size + 1), ny, ay, ly, cy), (w.heap.size, nx, ax, lx, cx)] (fun k : Nat => if k = 0 then (nx, xsx) else ((ny, xsy))) L val W) (.inl (PhL.init 2 _ _ HE.out.drew)) (fun L L' val W h => by have e : L = L' := funext h; rw [e]; exact id) ?step ?fin
  case step =>
    intro i o L val a W ho hLi hdep hH hΦ K' hK'
    have hi : i < 8 := (Array.getElem?_eq_some_iff.1 ho).1
    have hcs : i = 0 ∨ i = 1 ∨ i = 2 ∨ i = 3 ∨ i = 4 ∨ i = 5 ∨ i = 6 ∨ i = 7 := by omega
    rcases hcs with rfl | rfl | rfl | rfl | rfl | rfl | rfl | rfl
    · obtain rfl := Option.some.inj ho
      have h1 : PhL w [((w.heap.size + 1), ny, ay, ly, cy), (w.heap.size, nx, ax, lx, cx)] 2 (fun k : Nat => if k = 0 then Value.agg #[.bool nx, .slice ax lx cx] else (Value.agg #[.bool ny, .slice ay ly cy])) (fun k : Nat => if k = 0 then (nx, xsx) else ((ny, xsy))) L val W := by
        rcases hΦ with h | h | h
        · exact h
        · exact absurd (h.1 0 (by decide)) (by rw [hLi]; decide)
        · exact absurd (h.1 0 (by decide)) (by rw [hLi]; decide)
      have e0 := (hH.rest 2 (fun j hj _ => (of_decide_eq_true (by kernel_rfl) : ∀ j, j < 8 → dstAt _ j ≠ some 2) j hj)).trans (rfl : _ = some (Value.pointer (some ⟨w.heap.size, 0, none⟩)))
      obtain ⟨x0, x1, -, -⟩ := h1.st.cells (g := w.heap.size) (n := nx) (a := ax) (l := lx) (c := cx) (by repeat first | exact List.mem_cons_self | apply List.mem_cons_of_mem)
      go_simp
      exact hK'.out _ _ (.inl (h1.step 0 (by decide) _ (Below.refl _ _) rfl (fun h => absurd h (by decide)) (fun k hk h => by omega) (fun k hk h => by omega)))
    · obtain rfl := Option.some.inj ho
      have h1 : PhL w [((w.heap.size + 1), ny, ay, ly, cy), (w.heap.size, nx, ax, lx, cx)] 2 (fun k : Nat => if k = 0 then Value.agg #[.bool nx, .slice ax lx cx] else (Value.agg #[.bool ny, .slice ay ly cy])) (fun k : Nat => if k = 0 then (nx, xsx) else ((ny, xsy))) L val W := by
        rcases hΦ with h | h | h
        · exact h
        · exact absurd (h.1 1 (by decide)) (by rw [hLi]; decide)
        · exact absurd (h.1 1 (by decide)) (by rw [hLi]; decide)
      have hL0 : L 0 = true := hdep ⟨0, .data⟩ (by simp) rfl
      have e0 := hH.own 0 _ (by decide) rfl hL0 (of_decide_eq_true (by kernel_rfl))
      have e1 : val 0 = Value.agg #[.bool nx, .slice ax lx cx] := h1.sp 0 (by decide) hL0
      rw [e1] at e0
      go_simp
      refine (HI0.out _ h1.st.bel).mono ?_
      rintro e w' ⟨hb, v1, rfl, ho1⟩
      exact hK'.out _ _ (.inl (h1.step 1 (by decide) _ hb ho1 (fun h => absurd h (by decide)) (fun j hj h => by obtain rfl : j = 0 := (by omega); exact hL0) (fun j hj h => by omega)))
    · obtain rfl := Option.some.inj ho
      have h1 : PhL w [((w.heap.size + 1), ny, ay, ly, cy), (w.heap.size, nx, ax, lx, cx)] 2 (fun k : Nat => if k = 0 then Value.agg #[.bool nx, .slice ax lx cx] else (Value.agg #[.bool ny, .slice ay ly cy])) (fun k : Nat => if k = 0 then (nx, xsx) else ((ny, xsy))) L val W := by
        rcases hΦ with h | h | h
        · exact h
        · exact absurd (h.1 2 (by decide)) (by rw [hLi]; decide)
        · exact absurd (h.1 2 (by decide)) (by rw [hLi]; decide)
      have e0 := (hH.rest 3 (fun j hj _ => (of_decide_eq_true (by kernel_rfl) : ∀ j, j < 8 → dstAt _ j ≠ some 3) j hj)).trans (rfl : _ = some (Value.pointer (some ⟨(w.heap.size + 1), 0, none⟩)))
      obtain ⟨x0, x1, -, -⟩ := h1.st.cells (g := (w.heap.size + 1)) (n := ny) (a := ay) (l := ly) (c := cy) (by repeat first | exact List.mem_cons_self | apply List.mem_cons_of_mem)
      go_simp
      exact hK'.out _ _ (.inl (h1.step 2 (by decide) _ (Below.refl _ _) rfl (fun h => absurd h (by decide)) (fun k hk h => by omega) (fun k hk h => by omega)))
    · obtain rfl := Option.some.inj ho
      have h1 : PhL w [((w.heap.size + 1), ny, ay, ly, cy), (w.heap.size, nx, ax, lx, cx)] 2 (fun k : Nat => if k = 0 then Value.agg #[.bool nx, .slice ax lx cx] else (Value.agg #[.bool ny, .slice ay ly cy])) (fun k : Nat => if k = 0 then (nx, xsx) else ((ny, xsy))) L val W := by
        rcases hΦ with h | h | h
        · exact h
        · exact absurd (h.1 3 (by decide)) (by rw [hLi]; decide)
        · exact absurd (h.1 3 (by decide)) (by rw [hLi]; decide)
      have hL0 : L 2 = true := hdep ⟨2, .data⟩ (by simp) rfl
      have e0 := hH.own 2 _ (by decide) rfl hL0 (of_decide_eq_true (by kernel_rfl))
      have e1 : val 2 = Value.agg #[.bool ny, .slice ay ly cy] := h1.sp 2 (by decide) hL0
      rw [e1] at e0
      go_simp
      refine (HI1.out _ h1.st.bel).mono ?_
      rintro e w' ⟨hb, v1, rfl, ho1⟩
      exact hK'.out _ _ (.inl (h1.step 3 (by decide) _ hb ho1 (fun h => absurd h (by decide)) (fun j hj h => by obtain rfl : j = 1 := (by omega); exact hL0) (fun j hj h => by obtain rfl : j = 0 := (by omega); exact (by first | (refine hdep ⟨1, .data⟩ ?_ rfl; simp; done) | (refine hdep ⟨1, .chain⟩ ?_ rfl; simp; done) | (refine hdep ⟨1, .phase⟩ ?_ rfl; simp; done)))))
    · obtain rfl := Option.some.inj ho
      have h1 : PhL w [((w.heap.size + 1), ny, ay, ly, cy), (w.heap.size, nx, ax, lx, cx)] 2 (fun k : Nat => if k = 0 then Value.agg #[.bool nx, .slice ax lx cx] else (Value.agg #[.bool ny, .slice ay ly cy])) (fun k : Nat => if k = 0 then (nx, xsx) else ((ny, xsy))) L val W := by
        rcases hΦ with h | h | h
        · exact h
        · exact absurd (h.1 4 (by decide)) (by rw [hLi]; decide)
        · exact absurd (h.1 4 (by decide)) (by rw [hLi]; decide)
      go_simp
      exact hK'.out _ _ (.inl (h1.step 4 (by decide) _ ((Below.refl _ _).alloc (Nat.le_refl _) _) ⟨_, rfl, heap_new _ _, h1.st.bel.size, fun p hp => lt_of_block (h1.st.boxes p hp)⟩ (fun _ => rfl) (fun k hk h => by omega) (fun k hk h => by omega)))
    · obtain rfl := Option.some.inj ho
      have h1 : PhL w [((w.heap.size + 1), ny, ay, ly, cy), (w.heap.size, nx, ax, lx, cx)] 2 (fun k : Nat => if k = 0 then Value.agg #[.bool nx, .slice ax lx cx] else (Value.agg #[.bool ny, .slice ay ly cy])) (fun k : Nat => if k = 0 then (nx, xsx) else ((ny, xsy))) L val W := by
        rcases hΦ with h | h | h
        · exact h
        · exact absurd (h.1 5 (by decide)) (by rw [hLi]; decide)
        · exact absurd (h.1 5 (by decide)) (by rw [hLi]; decide)
      go_simp
      exact hK'.out _ _ (.inl (h1.step 5 (by decide) _ ((Below.refl _ _).alloc (Nat.le_refl _) _) ⟨_, rfl, heap_new _ _, h1.st.bel.size, fun p hp => lt_of_block (h1.st.boxes p hp)⟩ (fun _ => rfl) (fun k hk h => by omega) (fun k hk h => by omega)))
    · obtain rfl := Option.some.inj ho
      have h1 : PhL w [((w.heap.size + 1), ny, ay, ly, cy), (w.heap.size, nx, ax, lx, cx)] 2 (fun k : Nat => if k = 0 then Value.agg #[.bool nx, .slice ax lx cx] else (Value.agg #[.bool ny, .slice ay ly cy])) (fun k : Nat => if k = 0 then (nx, xsx) else ((ny, xsy))) L val W := by
        rcases hΦ with h | h | h
        · exact h
        · exact absurd h.2.1.1 (by rw [hLi]; decide)
        · exact absurd h.2.1.1 (by rw [hLi]; decide)
      have hall : ∀ j, j < 6 → L j = true := by
        intro j hj
        have hc : j = 0 ∨ j = 1 ∨ j = 2 ∨ j = 3 ∨ j = 4 ∨ j = 5 := by omega
        rcases hc with rfl | rfl | rfl | rfl | rfl | rfl
        · exact (h1.cl 0 (by decide) (h1.ch 0 (by decide) (by first | (refine hdep ⟨3, .data⟩ ?_ rfl; simp; done) | (refine hdep ⟨3, .chain⟩ ?_ rfl; simp; done) | (refine hdep ⟨3, .phase⟩ ?_ rfl; simp; done))))
        · exact (h1.ch 0 (by decide) (by first | (refine hdep ⟨3, .data⟩ ?_ rfl; simp; done) | (refine hdep ⟨3, .chain⟩ ?_ rfl; simp; done) | (refine hdep ⟨3, .phase⟩ ?_ rfl; simp; done)))
        · exact (h1.cl 1 (by decide) (by first | (refine hdep ⟨3, .data⟩ ?_ rfl; simp; done) | (refine hdep ⟨3, .chain⟩ ?_ rfl; simp; done) | (refine hdep ⟨3, .phase⟩ ?_ rfl; simp; done)))
        · exact (by first | (refine hdep ⟨3, .data⟩ ?_ rfl; simp; done) | (refine hdep ⟨3, .chain⟩ ?_ rfl; simp; done) | (refine hdep ⟨3, .phase⟩ ?_ rfl; simp; done))
        · exact (by first | (refine hdep ⟨4, .data⟩ ?_ rfl; simp; done) | (refine hdep ⟨4, .chain⟩ ?_ rfl; simp; done) | (refine hdep ⟨4, .phase⟩ ?_ rfl; simp; done))
        · exact (by first | (refine hdep ⟨5, .data⟩ ?_ rfl; simp; done) | (refine hdep ⟨5, .chain⟩ ?_ rfl; simp; done) | (refine hdep ⟨5, .phase⟩ ?_ rfl; simp; done))
      have hF := h1.full2 hall
      obtain ⟨hA, hst, nA, aA, lA, cA, gA, nB, aB, lB, cB, gB, eA, pA, eB, pB, hS, dAB, qA, qB⟩ := hF
      have e0 := hH.own 4 _ (by decide) rfl (hA _ (by decide)) (of_decide_eq_true (by kernel_rfl))
      rw [pA] at e0
      have e1 := hH.own 1 _ (by decide) rfl (hA _ (by decide)) (of_decide_eq_true (by kernel_rfl))
      rw [eA] at e1
      obtain ⟨x0, x1, x2, x3⟩ := hS.cells (g := gA) (n := false) (a := none) (l := 0) (c := 0) (by repeat first | exact List.mem_cons_self | apply List.mem_cons_of_mem)
      go_simp
      have hS2 := SL.setAt (G1 := []) hS (fun p hp => by cases hp) (fun p hp => by rcases List.mem_cons.1 hp with rfl | hp; (first | assumption | exact Ne.symm (by assumption)); exact Nat.ne_of_lt (qA.2 _ hp)) qA.1 nA aA lA cA
      exact hK'.out undef _ (.inr (.inl ⟨fun j hj => by have hne : j ≠ 6 := (by omega); simpa [upB, hne] using hA j hj, ⟨by simp [upB], by simpa [upB] using hst.2⟩, nA, aA, lA, cA, gA, nB, aB, lB, cB, gB, by simpa [upV] using eA, by simpa [upV] using pA, by simpa [upV] using eB, by simpa [upV] using pB, hS2, dAB, qA, qB⟩))
    · obtain rfl := Option.some.inj ho
      have hF : FuL21 w [((w.heap.size + 1), ny, ay, ly, cy), (w.heap.size, nx, ax, lx, cx)] (fun k : Nat => if k = 0 then (nx, xsx) else ((ny, xsy))) L val W := by
        rcases hΦ with h | h | h
        · exact absurd (h.no 6 (by decide)) (by rw [show L 6 = true from (by first | (refine hdep ⟨6, .data⟩ ?_ rfl; simp; done) | (refine hdep ⟨6, .chain⟩ ?_ rfl; simp; done) | (refine hdep ⟨6, .phase⟩ ?_ rfl; simp; done))]; decide)
        · exact h
        · exact absurd (h.2.1.2) (by rw [hLi]; decide)
      obtain ⟨hA, hst, nA, aA, lA, cA, gA, nB, aB, lB, cB, gB, eA, pA, eB, pB, hS, dAB, qA, qB⟩ := hF
      have e0 := hH.own 5 _ (by decide) rfl (hA _ (by decide)) (of_decide_eq_true (by kernel_rfl))
      rw [pB] at e0
      have e1 := hH.own 3 _ (by decide) rfl (hA _ (by decide)) (of_decide_eq_true (by kernel_rfl))
      rw [eB] at e1
      obtain ⟨x0, x1, x2, x3⟩ := hS.cells (g := gB) (n := false) (a := none) (l := 0) (c := 0) (by repeat first | exact List.mem_cons_self | apply List.mem_cons_of_mem)
      go_simp
      have hS2 := SL.setAt (G1 := [(gA, nA, aA, lA, cA)]) hS (fun p hp => by rcases List.mem_cons.1 hp with rfl | hp; (first | assumption | exact Ne.symm (by assumption)); cases hp) (fun p hp => by exact Nat.ne_of_lt (qB.2 _ hp)) qB.1 nB aB lB cB
      exact hK'.out undef _ (.inr (.inr ⟨fun j hj => by have hne : j ≠ 7 := (by omega); simpa [upB, hne] using hA j hj, ⟨by simpa [upB] using hst.1, by simp [upB]⟩, nA, aA, lA, cA, gA, nB, aB, lB, cB, gB, by simpa [upV] using eA, by simpa [upV] using pA, by simpa [upV] using eB, by simpa [upV] using pB, hS2, dAB, qA, qB⟩))
  case fin =>
    intro L val wH hL hΦ
    have hF : FuL22 w [((w.heap.size + 1), ny, ay, ly, cy), (w.heap.size, nx, ax, lx, cx)] (fun k : Nat => if k = 0 then (nx, xsx) else ((ny, xsy))) L val wH := by
      rcases hΦ with h | h | h
      · exact absurd (h.no 7 (by decide)) (by rw [hL 7 (of_decide_eq_true (by kernel_rfl))]; decide)
      · exact absurd (h.2.1.2) (by rw [hL 7 (of_decide_eq_true (by kernel_rfl))]; decide)
      · exact h
    obtain ⟨hA, hst, nA, aA, lA, cA, gA, nB, aB, lB, cB, gB, eA, pA, eB, pB, hS, dAB, qA, qB⟩ := hF
    simp only [List.size_toArray, List.length_cons, List.length_nil, Nat.zero_add, Nat.reduceAdd, putAll, dstAt, Act.put, List.getElem?_toArray, List.getElem?_cons_zero, List.getElem?_cons_succ, Option.bind_some, List.setIfInBounds_toArray, List.set_cons_zero, List.set_cons_succ]
    rw [eA, pA, eB, pB]
    generalize val 0 = s0
    generalize val 2 = s1
    have hS : SL w [(.agg #[.bool nB, .slice aB lB cB], (ny, xsy)), (.agg #[.bool nA, .slice aA lA cA], (nx, xsx))] [(gA, nA, aA, lA, cA), (gB, nB, aB, lB, cB), ((w.heap.size + 1), ny, ay, ly, cy), (w.heap.size, nx, ax, lx, cx)] wH := hS
    obtain ⟨gx, c1, hvx, hox⟩ := hS.vals _ (List.mem_cons_of_mem _ List.mem_cons_self)
    obtain ⟨gy, c2, hvy, hoy⟩ := hS.vals _ List.mem_cons_self
    have hvx' : nx = nA ∧ some ⟨gx, 0, none⟩ = aA ∧ lx = lA ∧ c1 = cA := by
      simp only [Value.agg.injEq, Array.mk.injEq, List.cons.injEq, Value.bool.injEq, Value.slice.injEq, and_true] at hvx
      have := HLX.out
      exact ⟨hvx.1.symm, hvx.2.1.symm, by omega, hvx.2.2.2.symm⟩
    have hvy' : ny = nB ∧ some ⟨gy, 0, none⟩ = aB ∧ ly = lB ∧ c2 = cB := by
      simp only [Value.agg.injEq, Array.mk.injEq, List.cons.injEq, Value.bool.injEq, Value.slice.injEq, and_true] at hvy
      have := HLY.out
      exact ⟨hvy.1.symm, hvy.2.1.symm, by omega, hvy.2.2.2.symm⟩
    clear hvx hvy
    obtain ⟨rfl, rfl, rfl, rfl⟩ := hvx'
    obtain ⟨rfl, rfl, rfl, rfl⟩ := hvy'
    simp only [HLX.out] at hox
    simp only [HLY.out] at hoy
    have HS := Lib.hid hS
    have HOX := Lib.hid hox
    have HOY := Lib.hid hoy
    have hcx : lx + 16 ≤ c1 := own_room hox
    have hcy : ly + 16 ≤ c2 := own_room hoy
    have HK := Lib.hid (Below.refl wH.heap.size wH)
    have HWH := Lib.hid hS.bel
    clear hΦ hL hA hst hS eA pA qA eB pB qB dAB HE0 hox hoy HE
    obtain ⟨x0, x1, -, -⟩ := HS.out.cells (g := gA) (n := nx) (a := (some ⟨gx, 0, none⟩)) (l := lx) (c := c1) (by repeat first | exact List.mem_cons_self | apply List.mem_cons_of_mem)
    obtain ⟨y0, y1, -, -⟩ := HS.out.cells (g := gB) (n := ny) (a := (some ⟨gy, 0, none⟩)) (l := ly) (c := c2) (by repeat first | exact List.mem_cons_self | apply List.mem_cons_of_mem)
    go_wp2_with fail
    clear x0 x1 y0 y1
    refine (wpow_any nx ny (some ⟨gx, 0, none⟩) (some ⟨gy, 0, none⟩) lx c1 ly c2 xsx xsy _ HLX.out HLY.out (by omega) (by omega) (by omega) (by omega) (rdl_of HOX.out (List.take_left' (u64s_len xsx)) (by have := HLX.out; omega)) (rdl_of HOY.out (List.take_left' (u64s_len xsy)) (by have := HLY.out; omega)) HBX.out HBY.out (HT.out _ HWH.out) (HTR.out _ HWH.out)).mono ?_
    rintro e w1 ⟨hb1, sa, a1, c3, k1, zs, rfl, hO1, hT1⟩
    have HT1 := Lib.hid hT1
    have HO1 := Lib.hid hO1
    have HK1 := Lib.hid hb1
    have HKa := Lib.hid (show Below wH.heap.size wH (w1.alloc (.cells #[.bool sa, .slice a1 zs.length c3] 24)) from hb1.alloc hb1.size _)
    have HQ1 := Lib.hid (show (w1.alloc (.cells #[.bool sa, .slice a1 zs.length c3] 24)).heap[w1.heap.size]? = some (WO sa a1 zs.length c3) from heap_new w1 _)
    clear hT1 hO1 hb1
    have HSa := HS.out.below HKa.out
    obtain ⟨x0, x1, -, -⟩ := HSa.cells (g := w.heap.size) (n := nx) (a := ax) (l := lx) (c := cx) (by repeat first | exact List.mem_cons_self | apply List.mem_cons_of_mem)
    obtain ⟨y0, y1, -, -⟩ := HSa.cells (g := (w.heap.size + 1)) (n := ny) (a := ay) (l := ly) (c := cy) (by repeat first | exact List.mem_cons_self | apply List.mem_cons_of_mem)
    clear HSa
    go_wp2_with fail
    clear x0 x1 y0 y1
    refine (HR.out _ (HWH.out.trans (HKa.out.mono HWH.out.size))).mono ?_
    rintro e w2 ⟨hb2, sb, a2, c4, k2, zs2, rfl, hO2, hT2⟩
    obtain ⟨rfl, rfl, rfl⟩ := HT1.out.one hT2
    have hkk := Lib.hid (HKa.out.trans (hb2.mono HKa.out.size))
    have hqq : Hid (w2.heap[w1.heap.size]? = some (WO sa a1 zs.length c3)) := by show _ = _; rw [hb2.block _ (lt_of_block HQ1.out)]; exact HQ1.out
    have HKb := Lib.hid (show Below wH.heap.size wH (w2.alloc (.cells #[.bool sa, .slice a2 zs.length c4] 24)) from hkk.out.alloc hkk.out.size _)
    have HQb := Lib.hid (show (w2.alloc (.cells #[.bool sa, .slice a2 zs.length c4] 24)).heap[w1.heap.size]? = some (WO sa a1 zs.length c3) from heap_kept hqq.out _)
    have HOa := Lib.hid (own64.under (own64.under (own64.under HO1.out ((Below.refl _ _).alloc (Nat.le_refl _) (.cells #[.bool sa, .slice a1 zs.length c3] 24))) hb2) ((Below.refl _ _).alloc (Nat.le_refl _) (.cells #[.bool sa, .slice a2 zs.length c4] 24)))
    have HOb := Lib.hid (own64.under hO2 ((Below.refl _ _).alloc (Nat.le_refl _) (.cells #[.bool sa, .slice a2 zs.length c4] 24)))
    have HZL : Hid (zs.length ≤ 64) := by
      show _ ≤ _
      rcases hT2 with ⟨_, _, _, rfl⟩ | ⟨_, _, _, _, rfl⟩ | ⟨_, _, _, _, _, rfl⟩ | ⟨_, _, hl, _, _, hN⟩
      · exact Nat.zero_le _
      · exact Nat.zero_le _
      · exact Nat.zero_le _
      · exact (hN.len_le (k := 64)).2 hl
    clear hT2 hO2 hb2 HT1 HO1 HK1 HKa HQ1 hkk hqq
    obtain ⟨x0, x1, -, -⟩ := wo_cells HQb.out
    go_wp2_with fail
    clear x0 x1
    refine (lsame2_any sa sa a1 a2 zs.length c3 zs.length c4 k1 k1 zs zs _ rfl rfl (by have := HZL.out; omega) (own64.rd HOa.out).2 (own64.rd HOb.out).2 rfl rfl rfl).mono ?_
    rintro e w3 ⟨rfl, hb3⟩
    have HKc := Lib.hid (HKb.out.trans (hb3.mono HKb.out.size))
    have HQc : Hid (w3.heap[w1.heap.size]? = some (WO sa a1 zs.length c3)) := by show _ = _; rw [hb3.block _ (lt_of_block HQb.out)]; exact HQb.out
    have HOc := Lib.hid (own64.under HOa.out hb3)
    clear hb3 HOa HOb HKb HQb
    have hsep : Sep w3 wH.heap.size (rwNo :: rwNo8 :: ([rw64 (.slice a1 zs.length c3) zs] ++ [])) := by
      refine (Sep.nilRow ?_ _).nilRow _
      refine ⟨fun r hr => ?_, List.pairwise_cons.2 ⟨(fun r hr => by cases hr), List.Pairwise.nil⟩⟩
      obtain rfl : r = rw64 (.slice a1 zs.length c3) zs := by simpa using hr
      exact HOc.out
    have hbok := Bok.start (T := 33) hsep HKc.out.size rfl
    have HKd := Lib.hid (show Below wH.heap.size wH (w3.alloc (.cells #[.slice none 0 0, .slice none 0 0] 33)) from HKc.out.alloc HKc.out.size _)
    obtain ⟨x0, x1, -, -⟩ := wo_cells (heap_kept HQc.out (.cells #[.slice none 0 0, .slice none 0 0] 33))
    go_wp2_with fail
    clear x0 x1
    refine (hbok.whole sa a1 zs.length c3 (by simp)).mono ?_
    rintro e w4 ⟨rfl, ⟨vw, hbok4⟩, hb4⟩
    have HB4 := Lib.hid hbok4
    have HKe := Lib.hid (HKd.out.trans (hb4.mono HKc.out.size))
    clear hbok hbok4 hb4 hsep
    go_wp2_with fail
    refine (Bok.apart (WL := [rw64 (.slice a1 zs.length c3) zs]) (BL := []) HB4.out ?_ (fun s hs => by cases hs) (by simp) (by simp)).mono ?_
    · intro s hs
      obtain rfl : s = rw64 (.slice a1 zs.length c3) zs := by simpa using hs
      exact ⟨rfl, by show zs.length ≤ _; have := HZL.out; omega⟩
    rintro e w5 ⟨rfl, hb5⟩
    have HKf := Lib.hid (HKe.out.trans hb5)
    clear hb5 HB4
    have HSf := HS.out.below HKf.out
    obtain ⟨x0, x1, -, -⟩ := HSf.cells (g := w.heap.size) (n := nx) (a := ax) (l := lx) (c := cx) (by repeat first | exact List.mem_cons_self | apply List.mem_cons_of_mem)
    obtain ⟨y0, y1, -, -⟩ := HSf.cells (g := gA) (n := nx) (a := (some ⟨gx, 0, none⟩)) (l := lx) (c := c1) (by repeat first | exact List.mem_cons_self | apply List.mem_cons_of_mem)
    clear HSf
    go_wp2_with fail
    clear x0 x1 y0 y1
    refine (keptWhole_any nx ax w.heap.size gx lx cx c1 xsx _ HLX.out (by omega) (HRX.out _ (HWH.out.trans (HKf.out.mono HWH.out.size))) (owns_below HOX.out HKf.out)).mono ?_
    rintro e w6 ⟨rfl, hb6⟩
    have HKg := Lib.hid (HKf.out.trans (hb6.mono HKf.out.size))
    clear hb6
    have HSf := HS.out.below HKg.out
    obtain ⟨x0, x1, -, -⟩ := HSf.cells (g := (w.heap.size + 1)) (n := ny) (a := ay) (l := ly) (c := cy) (by repeat first | exact List.mem_cons_self | apply List.mem_cons_of_mem)
    obtain ⟨y0, y1, -, -⟩ := HSf.cells (g := gB) (n := ny) (a := (some ⟨gy, 0, none⟩)) (l := ly) (c := c2) (by repeat first | exact List.mem_cons_self | apply List.mem_cons_of_mem)
    clear HSf
    go_wp2_with fail
    clear x0 x1 y0 y1
    refine (keptWhole_any ny ay w.heap.size gy ly cy c2 xsy _ HLY.out (by omega) (HRY.out _ (HWH.out.trans (HKg.out.mono HWH.out.size))) (owns_below HOY.out HKg.out)).mono ?_
    rintro e w7 ⟨rfl, hb7⟩
    have HKh := Lib.hid (HKg.out.trans (hb7.mono HKg.out.size))
    clear hb7
    go_wp2_with fail
    refine (wworks_any _ (HT.out _ (HWH.out.trans (HKh.out.mono HWH.out.size)))).mono ?_
    rintro e w8 ⟨rfl, hb8⟩
    have HKi := Lib.hid (HKh.out.trans (hb8.mono HKh.out.size))
    clear hb8
    go_wp2
    go_ret
    exact ⟨rfl, HWH.out.trans (HKi.out.mono HWH.out.size)⟩
end Go.Proofs.YtfjhmnbbjknflaaGreatDoor
