import Derived.Test.YtfjhmnbbjknflaaGreatDoorHeadL
import Derived.Test.YtfjhmnbbjknflaaGreatDoorWPow
import Derived.Test.YtfjhmnbbjknflaaGreatDoorMoves
import Derived.Test.YtfjhmnbbjknflaaGreatDoorRInt64
namespace Go.Proofs.YtfjhmnbbjknflaaGreatDoor
open Go.RowKit

theorem rdl_of' {w : World} {B g n c : Nat} {xs : List Nat} {L : List Value} (h : w.ownsRow B 61 1 (.slice (some ⟨g, 0, none⟩) n c) n L) (hL : L.take xs.length = u64s xs) (hn : xs.length ≤ n) : Rd .u64 w (some ⟨g, 0, none⟩) xs := by
  intro j hj
  refine ⟨g, 0, rfl, fun i hi => ?_⟩
  rw [Nat.zero_add, World.ownsRow.cellAt h i (by omega)]
  have h1 := u64s_get xs i hi
  rw [← hL, List.getElem?_take, if_pos hi] at h1
  exact h1
theorem wsignB_any (n : Bool) (a : Option Addr) (la ca : Nat) (xs : List Nat) (w : World) (hla : xs.length = la) (hba : la ≤ 1048576) (hca : la ≤ ca) (hra : Rd .u64 w a xs) (bx : Bd xs) :
    Calls Tryz.prog 33 #[.agg #[.bool n, .slice a la ca]] w fun e w' => e = .returned (.int .i64 (sg (wv n xs))) ∧ Below w.heap.size w w' :=
  (wsign_any n a la ca xs w hla hba hca hra bx).mono fun _ _ h => ⟨h.1, h.2 ▸ (Below.refl _ _).alloc (Nat.le_refl _) _⟩
theorem WTells.one {P P' : Prop} {W : Int} {k k' : Int} {s s' : Bool} {zs zs' : List Nat} (hP : (P ∧ W.natAbs < LIM) ↔ (P' ∧ W.natAbs < LIM)) (h : WTells P W k s zs) (h' : WTells P' W k' s' zs') : k = k' ∧ s = s' ∧ zs = zs' := by
  rcases h with ⟨p, rfl, rfl, rfl⟩ | ⟨p, q, rfl, rfl, t⟩ <;> rcases h' with ⟨p', rfl, rfl, rfl⟩ | ⟨p', q', rfl, rfl, t'⟩
  · exact ⟨rfl, rfl, rfl⟩
  · exact absurd (hP.2 ⟨p', q'⟩) p
  · exact absurd (hP.1 ⟨p, q⟩) p'
  · exact ⟨rfl, rfl, t.unique t'⟩
theorem WTells.len {P : Prop} {W : Int} {k : Int} {s : Bool} {zs : List Nat} (h : WTells P W k s zs) : zs.length ≤ 64 := by
  rcases h with ⟨_, _, _, rfl⟩ | ⟨_, q, _, _, t⟩
  · exact Nat.zero_le _
  · exact (t.len_le (k := 64)).2 q
theorem WQuoTells.one {P : Prop} {y : Nat} {W : Int} {k k' : Int} {s s' : Bool} {zs zs' : List Nat} (h : WQuoTells P y W k s zs) (h' : WQuoTells P y W k' s' zs') : k = k' ∧ s = s' ∧ zs = zs' := by
  rcases h with ⟨p, rfl, rfl, rfl⟩ | ⟨p, q, rfl, rfl, rfl⟩ | ⟨p, q, rfl, rfl, t⟩ <;> rcases h' with ⟨p', rfl, rfl, rfl⟩ | ⟨p', q', rfl, rfl, rfl⟩ | ⟨p', q', rfl, rfl, t'⟩
  all_goals first | exact ⟨rfl, rfl, rfl⟩ | exact ⟨rfl, rfl, t.unique t'⟩ | exact absurd p' p | exact absurd p p' | (exfalso; omega)
theorem WQuoTells.len {P : Prop} {y : Nat} {W : Int} {k : Int} {s : Bool} {zs : List Nat} (h : WQuoTells P y W k s zs) (hl : P → W.natAbs < LIM) : zs.length ≤ 64 := by
  rcases h with ⟨_, _, _, rfl⟩ | ⟨_, _, _, _, rfl⟩ | ⟨p, q, _, _, t⟩
  · exact Nat.zero_le _
  · exact Nat.zero_le _
  · exact (t.len_le (k := 64)).2 (hl p)
/-- What the law knows: answers' lists, those of them that are to be apart, structs in their blocks. -/
structure Wd (w0 : World) (O : List (Value × List Nat)) (R : List Rw) (G : List (Nat × Bool × Option Addr × Nat × Nat)) (W : World) : Prop where
  own : ∀ p ∈ O, own64 W w0.heap.size p.1 p.2
  sep : Sep W w0.heap.size R
  boxes : ∀ p ∈ G, W.heap[p.1]? = some (WO p.2.1 p.2.2.1 p.2.2.2.1 p.2.2.2.2)
  bel : Below w0.heap.size w0 W
theorem Wd.below {w0 W W' : World} {O : List (Value × List Nat)} {R : List Rw} {G : List (Nat × Bool × Option Addr × Nat × Nat)} (h : Wd w0 O R G W) (hb : Below W.heap.size W W') : Wd w0 O R G W' :=
  ⟨fun p hp => own64.under (h.own p hp) hb, h.sep.chg (Chg.of_below hb) (fun r hr k hk => by have := World.ownsRow.lt (h.sep.1 r hr) k hk; omega), fun p hp => by rw [hb.block _ (lt_of_block (h.boxes p hp))]; exact h.boxes p hp, h.bel.trans (hb.mono h.bel.size)⟩
theorem Wd.drew {w0 W : World} {O : List (Value × List Nat)} {R : List Rw} {G : List (Nat × Bool × Option Addr × Nat × Nat)} (h : Wd w0 O R G W) : Wd w0 O R G W.drew := h.below ((Below.refl _ _).drew)
theorem Wd.new {w0 W : World} {O : List (Value × List Nat)} {R : List Rw} {G : List (Nat × Bool × Option Addr × Nat × Nat)} (h : Wd w0 O R G W) (g : Nat) (hg : W.heap.size = g) (n : Bool) (a : Option Addr) (l c : Nat) : Wd w0 O R ((g, n, a, l, c) :: G) (W.alloc (.cells #[.bool n, .slice a l c] 24)) := by
  have h2 := h.below ((Below.refl _ _).alloc (Nat.le_refl _) (.cells #[.bool n, .slice a l c] 24))
  refine ⟨h2.own, h2.sep, fun p hp => ?_, h2.bel⟩
  rcases List.mem_cons.1 hp with rfl | hp
  · subst hg; exact heap_new _ _
  · exact h2.boxes p hp
theorem Wd.cells {w0 W : World} {O : List (Value × List Nat)} {R : List Rw} {G : List (Nat × Bool × Option Addr × Nat × Nat)} (h : Wd w0 O R G W) {g : Nat} {n : Bool} {a : Option Addr} {l c : Nat} (hm : (g, n, a, l, c) ∈ G) :
    W.cell? ⟨g, 0, none⟩ = some (.bool n) ∧ W.cell? ⟨g, 1, none⟩ = some (.slice a l c) ∧ W.frozen? ⟨g, 0, none⟩ = false ∧ W.frozen? ⟨g, 1, none⟩ = false := wo_cells (h.boxes _ hm)
theorem Wd.rd {w0 W : World} {O : List (Value × List Nat)} {R : List Rw} {G : List (Nat × Bool × Option Addr × Nat × Nat)} (h : Wd w0 O R G W) {a : Option Addr} {l c : Nat} {zs : List Nat} (hm : (.slice a l c, zs) ∈ O) : Rd .u64 W a zs := (own64.rd (h.own _ hm)).2
theorem Wd.told2 {w0 W W' : World} {O : List (Value × List Nat)} {R : List Rw} {G : List (Nat × Bool × Option Addr × Nat × Nat)} (h : Wd w0 O R G W) {Q : Int → Bool → List Nat → Prop} {e : Ending} (hp : WTold Q W e W') :
    ∃ n a l c k zs, e = .returned (.tuple #[.agg #[.bool n, .slice a l c], .int .i64 k]) ∧ zs.length = l ∧ Q k n zs ∧ Wd w0 ((.slice a l c, zs) :: O) R G W' := by
  obtain ⟨hb, n, a, c, k, zs, rfl, ho, hQ⟩ := hp
  have h2 := h.below hb
  exact ⟨n, a, _, c, k, zs, rfl, rfl, hQ, fun p hp => by
    rcases List.mem_cons.1 hp with rfl | hp
    · exact owns_base ho h.bel.size
    · exact h2.own p hp, h2.sep, h2.boxes, h2.bel⟩
theorem Wd.told1 {w0 W W' : World} {O : List (Value × List Nat)} {R : List Rw} {G : List (Nat × Bool × Option Addr × Nat × Nat)} (h : Wd w0 O R G W) {Q : Int → Bool → List Nat → Prop} {e : Ending} (hp : WTold Q W e W') :
    ∃ n a l c k zs, e = .returned (.tuple #[.agg #[.bool n, .slice a l c], .int .i64 k]) ∧ zs.length = l ∧ Q k n zs ∧ Wd w0 ((.slice a l c, zs) :: O) (rw64 (.slice a l c) zs :: R) G W' := by
  obtain ⟨hb, n, a, c, k, zs, rfl, ho, hQ⟩ := hp
  have h2 := h.below hb
  refine ⟨n, a, _, c, k, zs, rfl, rfl, hQ, fun p hp => ?_, ⟨fun r hr => ?_, List.pairwise_cons.2 ⟨fun r hr k hk hk2 => ?_, h.sep.2⟩⟩, h2.boxes, h2.bel⟩
  · rcases List.mem_cons.1 hp with rfl | hp
    · exact owns_base ho h.bel.size
    · exact h2.own p hp
  · rcases List.mem_cons.1 hr with rfl | hr
    · exact owns_base ho h.bel.size
    · exact h2.sep.1 r hr
  · have h3 := (World.ownsRow.lt ho k hk).1
    have h4 := (World.ownsRow.lt (h.sep.1 r hr) k hk2).2
    omega
set_option maxHeartbeats 16000000 in
set_option maxRecDepth 100000 in
theorem wholereckons_of (nx ny : Bool) (ax ay : Option Addr) (lx cx ly cy : Nat) (xsx xsy : List Nat) (w : World) (hlx : xsx.length = lx) (hly : xsy.length = ly) (hbx : lx ≤ 9223372036854775807) (hby : ly ≤ 9223372036854775807) (hrx : Rd .u64 w ax xsx) (hry : Rd .u64 w ay xsy) (bxx : Bd xsx) (bxy : Bd xsy) (ht : Tabs w) (hT : Trig w)
    (hts : TabSum w) (hI64 : lx ≤ 200 → ∀ (W : World) (gx c1 : Nat), lx ≤ c1 → Rd .u64 W (some ⟨gx, 0, none⟩) xsx → Tabs W → Calls Tryz.prog 22 #[.agg #[.bool nx, .slice (some ⟨gx, 0, none⟩) lx c1]] W fun e w' => e = .returned (.tuple #[.int .i64 (if Is64 (wv nx xsx) then wv nx xsx else 0), .bool (decide (Is64 (wv nx xsx)))]) ∧ Below W.heap.size W w') :
    Calls Tryz.prog 4 #[.agg #[.bool nx, .slice ax lx cx], .agg #[.bool ny, .slice ay ly cy]] w fun e w' => e = .returned (.bool true) ∧ Below w.heap.size w w' := by
  have HT := Lib.hid (fun (W : World) (h : Below w.heap.size w W) => ht.below h)
  have HTS := Lib.hid (fun (W : World) (h : Below w.heap.size w W) => hts.below h)
  have HTR := Lib.hid (fun (W : World) (h : Below w.heap.size w W) => hT.below h)
  have HRX := Lib.hid (fun (W : World) (h : Below w.heap.size w W) => hrx.below h)
  have HRY := Lib.hid (fun (W : World) (h : Below w.heap.size w W) => hry.below h)
  have HBX := Lib.hid bxx
  have HBY := Lib.hid bxy
  have HLX := Lib.hid hlx
  have HLY := Lib.hid hly
  clear ht hT hts hrx hry bxx bxy
  go_enter Tryz.func4, Tryz.ntmps4
  have HW2 := Lib.hid (show Below w.heap.size w ((w.alloc (WO nx ax lx cx)).alloc (WO ny ay ly cy)) from ((Below.refl _ _).alloc (Nat.le_refl _) _).alloc (by simp) _)
  by_cases h1 : 200 < lx
  · have hq : decide ((200 : Int) < (lx : Int)) = true := by rw [decide_eq_true_iff]; omega
    clear h1 hI64
    go_wp2
    go_ret
    exact ⟨rfl, HW2.out⟩
  by_cases h2 : 200 < ly
  · have hq : decide ((200 : Int) < (lx : Int)) = false := by rw [decide_eq_false_iff_not]; omega
    have hq2 : decide ((200 : Int) < (ly : Int)) = true := by rw [decide_eq_true_iff]; omega
    clear h1 h2 hI64
    go_wp2
    go_ret
    exact ⟨rfl, HW2.out⟩
  have hq : decide ((200 : Int) < (lx : Int)) = false := by rw [decide_eq_false_iff_not]; omega
  have hq2 : decide ((200 : Int) < (ly : Int)) = false := by rw [decide_eq_false_iff_not]; omega
  have HI64 := Lib.hid (hI64 (by omega))
  have hx2 : lx ≤ 200 := by omega
  have hy2 : ly ≤ 200 := by omega
  have HI0 : Hid (∀ (W : World) (_ : Below w.heap.size w W), Calls Tryz.prog 7 #[.agg #[.bool nx, .slice ax lx cx]] W fun e w' => Below W.heap.size W w' ∧ ∃ v, e = .returned v ∧ IsL w.heap.size w' v (nx, xsx)) := fun W h => (lentWhole_any nx ax lx cx xsx W HLX.out (by omega) (HRX.out _ h)).mono (by
    rintro e w' ⟨g, c, rfl, ho, hg, hb⟩
    exact ⟨hb, _, rfl, g, c, by rw [HLX.out], by rw [HLX.out]; exact owns_base ho h.size⟩)
  have HI1 : Hid (∀ (W : World) (_ : Below w.heap.size w W), Calls Tryz.prog 7 #[.agg #[.bool ny, .slice ay ly cy]] W fun e w' => Below W.heap.size W w' ∧ ∃ v, e = .returned v ∧ IsL w.heap.size w' v (ny, xsy)) := fun W h => (lentWhole_any ny ay ly cy xsy W HLY.out (by omega) (HRY.out _ h)).mono (by
    rintro e w' ⟨g, c, rfl, ho, hg, hb⟩
    exact ⟨hb, _, rfl, g, c, by rw [HLY.out], by rw [HLY.out]; exact owns_base ho h.size⟩)
  clear h1 h2 hI64 hlx hly
  have HE := Lib.hid (((SL.init w).new (w.heap.size) rfl nx ax lx cx).new (w.heap.size + 1) (by simp) ny ay ly cy)
  go_wp2_with fail
  have HE0 := HE
  refine wp_region_inv (by kernel_rfl) (by kernel_rfl) (fun L val W => PhL w [((w.heap.size + 1), ny, ay, ly, cy), (w.heap.size, nx, ax, lx, cx)] 2 (fun k : Nat => if k = 0 then Value.agg #[.bool nx, .slice ax lx cx] else (Value.agg #[.bool ny, .slice ay ly cy])) (fun k : Nat => if k = 0 then (nx, xsx) else ((ny, xsy))) L val W ∨ FuL21 w [((w.heap.size + 1), ny, ay, ly, cy), (w.heap.size, nx, ax, lx, cx)] (fun k : Nat => if k = 0 then (nx, xsx) else ((ny, xsy))) L val W ∨ FuL22 w [((w.heap.size + 1), ny, ay, ly, cy), (w.heap.size, nx, ax, lx, cx)] (fun k : Nat => if k = 0 then (nx, xsx) else ((ny, xsy))) L val W) (.inl (PhL.init 2 _ _ HE.out.drew)) (fun L L' val W h => by have e : L = L' := funext h; rw [e]; exact id) ?step ?fin
  case step =>
    intro i o L val a W ho hLi hdep hH hΦ K' hK'
    have hi : i < 8 := (Array.getElem?_eq_some_iff.1 ho).1
    have hcs : i = 0 ∨ i = 1 ∨ i = 2 ∨ i = 3 ∨ i = 4 ∨ i = 5 ∨ i = 6 ∨ i = 7 := by omega
    rcases hcs with rfl | rfl | rfl | rfl | rfl | rfl | rfl | rfl
    · obtain rfl := Option.some.inj ho
      have h1 : PhL w [((w.heap.size + 1), ny, ay, ly, cy), (w.heap.size, nx, ax, lx, cx)] 2 (fun k : Nat => if k = 0 then Value.agg #[.bool nx, .slice ax lx cx] else (Value.agg #[.bool ny, .slice ay ly cy])) (fun k : Nat => if k = 0 then (nx, xsx) else ((ny, xsy))) L val W := by
        rcases hΦ with h | h | h
        · exact h
        · exact absurd (h.1 0 (by decide)) (by rw [hLi]; decide)
        · exact absurd (h.1 0 (by decide)) (by rw [hLi]; decide)
      have e0 := (hH.rest 2 (fun j hj _ => (of_decide_eq_true (by kernel_rfl) : ∀ j, j < 8 → dstAt _ j ≠ some 2) j hj)).trans (rfl : _ = some (Value.pointer (some ⟨w.heap.size, 0, none⟩)))
      obtain ⟨x0, x1, -, -⟩ := h1.st.cells (g := w.heap.size) (n := nx) (a := ax) (l := lx) (c := cx) (by repeat first | exact List.mem_cons_self | apply List.mem_cons_of_mem)
      go_simp
      exact hK'.out _ _ (.inl (h1.step 0 (by decide) _ (Below.refl _ _) rfl (fun h => absurd h (by decide)) (fun k hk h => by omega) (fun k hk h => by omega)))
    · obtain rfl := Option.some.inj ho
      have h1 : PhL w [((w.heap.size + 1), ny, ay, ly, cy), (w.heap.size, nx, ax, lx, cx)] 2 (fun k : Nat => if k = 0 then Value.agg #[.bool nx, .slice ax lx cx] else (Value.agg #[.bool ny, .slice ay ly cy])) (fun k : Nat => if k = 0 then (nx, xsx) else ((ny, xsy))) L val W := by
        rcases hΦ with h | h | h
        · exact h
        · exact absurd (h.1 1 (by decide)) (by rw [hLi]; decide)
        · exact absurd (h.1 1 (by decide)) (by rw [hLi]; decide)
      have hL0 : L 0 = true := hdep ⟨0, .data⟩ (by simp) rfl
      have e0 := hH.own 0 _ (by decide) rfl hL0 (of_decide_eq_true (by kernel_rfl))
      have e1 : val 0 = Value.agg #[.bool nx, .slice ax lx cx] := h1.sp 0 (by decide) hL0
      rw [e1] at e0
      go_simp
      refine (HI0.out _ h1.st.bel).mono ?_
      rintro e w' ⟨hb, v1, rfl, ho1⟩
      exact hK'.out _ _ (.inl (h1.step 1 (by decide) _ hb ho1 (fun h => absurd h (by decide)) (fun j hj h => by obtain rfl : j = 0 := (by omega); exact hL0) (fun j hj h => by omega)))
    · obtain rfl := Option.some.inj ho
      have h1 : PhL w [((w.heap.size + 1), ny, ay, ly, cy), (w.heap.size, nx, ax, lx, cx)] 2 (fun k : Nat => if k = 0 then Value.agg #[.bool nx, .slice ax lx cx] else (Value.agg #[.bool ny, .slice ay ly cy])) (fun k : Nat => if k = 0 then (nx, xsx) else ((ny, xsy))) L val W := by
        rcases hΦ with h | h | h
        · exact h
        · exact absurd (h.1 2 (by decide)) (by rw [hLi]; decide)
        · exact absurd (h.1 2 (by decide)) (by rw [hLi]; decide)
      have e0 := (hH.rest 3 (fun j hj _ => (of_decide_eq_true (by kernel_rfl) : ∀ j, j < 8 → dstAt _ j ≠ some 3) j hj)).trans (rfl : _ = some (Value.pointer (some ⟨(w.heap.size + 1), 0, none⟩)))
      obtain ⟨x0, x1, -, -⟩ := h1.st.cells (g := (w.heap.size + 1)) (n := ny) (a := ay) (l := ly) (c := cy) (by repeat first | exact List.mem_cons_self | apply List.mem_cons_of_mem)
      go_simp
      exact hK'.out _ _ (.inl (h1.step 2 (by decide) _ (Below.refl _ _) rfl (fun h => absurd h (by decide)) (fun k hk h => by omega) (fun k hk h => by omega)))
    · obtain rfl := Option.some.inj ho
      have h1 : PhL w [((w.heap.size + 1), ny, ay, ly, cy), (w.heap.size, nx, ax, lx, cx)] 2 (fun k : Nat => if k = 0 then Value.agg #[.bool nx, .slice ax lx cx] else (Value.agg #[.bool ny, .slice ay ly cy])) (fun k : Nat => if k = 0 then (nx, xsx) else ((ny, xsy))) L val W := by
        rcases hΦ with h | h | h
        · exact h
        · exact absurd (h.1 3 (by decide)) (by rw [hLi]; decide)
        · exact absurd (h.1 3 (by decide)) (by rw [hLi]; decide)
      have hL0 : L 2 = true := hdep ⟨2, .data⟩ (by simp) rfl
      have e0 := hH.own 2 _ (by decide) rfl hL0 (of_decide_eq_true (by kernel_rfl))
      have e1 : val 2 = Value.agg #[.bool ny, .slice ay ly cy] := h1.sp 2 (by decide) hL0
      rw [e1] at e0
      go_simp
      refine (HI1.out _ h1.st.bel).mono ?_
      rintro e w' ⟨hb, v1, rfl, ho1⟩
      exact hK'.out _ _ (.inl (h1.step 3 (by decide) _ hb ho1 (fun h => absurd h (by decide)) (fun j hj h => by obtain rfl : j = 1 := (by omega); exact hL0) (fun j hj h => by obtain rfl : j = 0 := (by omega); exact (by first | (refine hdep ⟨1, .data⟩ ?_ rfl; simp; done) | (refine hdep ⟨1, .chain⟩ ?_ rfl; simp; done) | (refine hdep ⟨1, .phase⟩ ?_ rfl; simp; done)))))
    · obtain rfl := Option.some.inj ho
      have h1 : PhL w [((w.heap.size + 1), ny, ay, ly, cy), (w.heap.size, nx, ax, lx, cx)] 2 (fun k : Nat => if k = 0 then Value.agg #[.bool nx, .slice ax lx cx] else (Value.agg #[.bool ny, .slice ay ly cy])) (fun k : Nat => if k = 0 then (nx, xsx) else ((ny, xsy))) L val W := by
        rcases hΦ with h | h | h
        · exact h
        · exact absurd (h.1 4 (by decide)) (by rw [hLi]; decide)
        · exact absurd (h.1 4 (by decide)) (by rw [hLi]; decide)
      go_simp
      exact hK'.out _ _ (.inl (h1.step 4 (by decide) _ ((Below.refl _ _).alloc (Nat.le_refl _) _) ⟨_, rfl, heap_new _ _, h1.st.bel.size, fun p hp => lt_of_block (h1.st.boxes p hp)⟩ (fun _ => rfl) (fun k hk h => by omega) (fun k hk h => by omega)))
    · obtain rfl := Option.some.inj ho
      have h1 : PhL w [((w.heap.size + 1), ny, ay, ly, cy), (w.heap.size, nx, ax, lx, cx)] 2 (fun k : Nat => if k = 0 then Value.agg #[.bool nx, .slice ax lx cx] else (Value.agg #[.bool ny, .slice ay ly cy])) (fun k : Nat => if k = 0 then (nx, xsx) else ((ny, xsy))) L val W := by
        rcases hΦ with h | h | h
        · exact h
        · exact absurd (h.1 5 (by decide)) (by rw [hLi]; decide)
        · exact absurd (h.1 5 (by decide)) (by rw [hLi]; decide)
      go_simp
      exact hK'.out _ _ (.inl (h1.step 5 (by decide) _ ((Below.refl _ _).alloc (Nat.le_refl _) _) ⟨_, rfl, heap_new _ _, h1.st.bel.size, fun p hp => lt_of_block (h1.st.boxes p hp)⟩ (fun _ => rfl) (fun k hk h => by omega) (fun k hk h => by omega)))
    · obtain rfl := Option.some.inj ho
      have h1 : PhL w [((w.heap.size + 1), ny, ay, ly, cy), (w.heap.size, nx, ax, lx, cx)] 2 (fun k : Nat => if k = 0 then Value.agg #[.bool nx, .slice ax lx cx] else (Value.agg #[.bool ny, .slice ay ly cy])) (fun k : Nat => if k = 0 then (nx, xsx) else ((ny, xsy))) L val W := by
        rcases hΦ with h | h | h
        · exact h
        · exact absurd h.2.1.1 (by rw [hLi]; decide)
        · exact absurd h.2.1.1 (by rw [hLi]; decide)
      have hall : ∀ j, j < 6 → L j = true := by
        intro j hj
        have hc : j = 0 ∨ j = 1 ∨ j = 2 ∨ j = 3 ∨ j = 4 ∨ j = 5 := by omega
        rcases hc with rfl | rfl | rfl | rfl | rfl | rfl
        · exact (h1.cl 0 (by decide) (h1.ch 0 (by decide) (by first | (refine hdep ⟨3, .data⟩ ?_ rfl; simp; done) | (refine hdep ⟨3, .chain⟩ ?_ rfl; simp; done) | (refine hdep ⟨3, .phase⟩ ?_ rfl; simp; done))))
        · exact (h1.ch 0 (by decide) (by first | (refine hdep ⟨3, .data⟩ ?_ rfl; simp; done) | (refine hdep ⟨3, .chain⟩ ?_ rfl; simp; done) | (refine hdep ⟨3, .phase⟩ ?_ rfl; simp; done)))
        · exact (h1.cl 1 (by decide) (by first | (refine hdep ⟨3, .data⟩ ?_ rfl; simp; done) | (refine hdep ⟨3, .chain⟩ ?_ rfl; simp; done) | (refine hdep ⟨3, .phase⟩ ?_ rfl; simp; done)))
        · exact (by first | (refine hdep ⟨3, .data⟩ ?_ rfl; simp; done) | (refine hdep ⟨3, .chain⟩ ?_ rfl; simp; done) | (refine hdep ⟨3, .phase⟩ ?_ rfl; simp; done))
        · exact (by first | (refine hdep ⟨4, .data⟩ ?_ rfl; simp; done) | (refine hdep ⟨4, .chain⟩ ?_ rfl; simp; done) | (refine hdep ⟨4, .phase⟩ ?_ rfl; simp; done))
        · exact (by first | (refine hdep ⟨5, .data⟩ ?_ rfl; simp; done) | (refine hdep ⟨5, .chain⟩ ?_ rfl; simp; done) | (refine hdep ⟨5, .phase⟩ ?_ rfl; simp; done))
      have hF := h1.full2 hall
      obtain ⟨hA, hst, nA, aA, lA, cA, gA, nB, aB, lB, cB, gB, eA, pA, eB, pB, hS, dAB, qA, qB⟩ := hF
      have e0 := hH.own 4 _ (by decide) rfl (hA _ (by decide)) (of_decide_eq_true (by kernel_rfl))
      rw [pA] at e0
      have e1 := hH.own 1 _ (by decide) rfl (hA _ (by decide)) (of_decide_eq_true (by kernel_rfl))
      rw [eA] at e1
      obtain ⟨x0, x1, x2, x3⟩ := hS.cells (g := gA) (n := false) (a := none) (l := 0) (c := 0) (by repeat first | exact List.mem_cons_self | apply List.mem_cons_of_mem)
      go_simp
      have hS2 := SL.setAt (G1 := []) hS (fun p hp => by cases hp) (fun p hp => by rcases List.mem_cons.1 hp with rfl | hp; (first | assumption | exact Ne.symm (by assumption)); exact Nat.ne_of_lt (qA.2 _ hp)) qA.1 nA aA lA cA
      exact hK'.out undef _ (.inr (.inl ⟨fun j hj => by have hne : j ≠ 6 := (by omega); simpa [upB, hne] using hA j hj, ⟨by simp [upB], by simpa [upB] using hst.2⟩, nA, aA, lA, cA, gA, nB, aB, lB, cB, gB, by simpa [upV] using eA, by simpa [upV] using pA, by simpa [upV] using eB, by simpa [upV] using pB, hS2, dAB, qA, qB⟩))
    · obtain rfl := Option.some.inj ho
      have hF : FuL21 w [((w.heap.size + 1), ny, ay, ly, cy), (w.heap.size, nx, ax, lx, cx)] (fun k : Nat => if k = 0 then (nx, xsx) else ((ny, xsy))) L val W := by
        rcases hΦ with h | h | h
        · exact absurd (h.no 6 (by decide)) (by rw [show L 6 = true from (by first | (refine hdep ⟨6, .data⟩ ?_ rfl; simp; done) | (refine hdep ⟨6, .chain⟩ ?_ rfl; simp; done) | (refine hdep ⟨6, .phase⟩ ?_ rfl; simp; done))]; decide)
        · exact h
        · exact absurd (h.2.1.2) (by rw [hLi]; decide)
      obtain ⟨hA, hst, nA, aA, lA, cA, gA, nB, aB, lB, cB, gB, eA, pA, eB, pB, hS, dAB, qA, qB⟩ := hF
      have e0 := hH.own 5 _ (by decide) rfl (hA _ (by decide)) (of_decide_eq_true (by kernel_rfl))
      rw [pB] at e0
      have e1 := hH.own 3 _ (by decide) rfl (hA _ (by decide)) (of_decide_eq_true (by kernel_rfl))
      rw [eB] at e1
      obtain ⟨x0, x1, x2, x3⟩ := hS.cells (g := gB) (n := false) (a := none) (l := 0) (c := 0) (by repeat first | exact List.mem_cons_self | apply List.mem_cons_of_mem)
      go_simp
      have hS2 := SL.setAt (G1 := [(gA, nA, aA, lA, cA)]) hS (fun p hp => by rcases List.mem_cons.1 hp with rfl | hp; (first | assumption | exact Ne.symm (by assumption)); cases hp) (fun p hp => by exact Nat.ne_of_lt (qB.2 _ hp)) qB.1 nB aB lB cB
      exact hK'.out undef _ (.inr (.inr ⟨fun j hj => by have hne : j ≠ 7 := (by omega); simpa [upB, hne] using hA j hj, ⟨by simpa [upB] using hst.1, by simp [upB]⟩, nA, aA, lA, cA, gA, nB, aB, lB, cB, gB, by simpa [upV] using eA, by simpa [upV] using pA, by simpa [upV] using eB, by simpa [upV] using pB, hS2, dAB, qA, qB⟩))
  case fin =>
    intro L val wH hL hΦ
    have hF : FuL22 w [((w.heap.size + 1), ny, ay, ly, cy), (w.heap.size, nx, ax, lx, cx)] (fun k : Nat => if k = 0 then (nx, xsx) else ((ny, xsy))) L val wH := by
      rcases hΦ with h | h | h
      · exact absurd (h.no 7 (by decide)) (by rw [hL 7 (of_decide_eq_true (by kernel_rfl))]; decide)
      · exact absurd (h.2.1.2) (by rw [hL 7 (of_decide_eq_true (by kernel_rfl))]; decide)
      · exact h
    obtain ⟨hA, hst, nA, aA, lA, cA, gA, nB, aB, lB, cB, gB, eA, pA, eB, pB, hS, dAB, qA, qB⟩ := hF
    simp only [List.size_toArray, List.length_cons, List.length_nil, Nat.zero_add, Nat.reduceAdd, putAll, dstAt, Act.put, List.getElem?_toArray, List.getElem?_cons_zero, List.getElem?_cons_succ, Option.bind_some, List.setIfInBounds_toArray, List.set_cons_zero, List.set_cons_succ]
    rw [eA, pA, eB, pB]
    generalize val 0 = s0
    generalize val 2 = s1
    have hS : SL w [(.agg #[.bool nB, .slice aB lB cB], (ny, xsy)), (.agg #[.bool nA, .slice aA lA cA], (nx, xsx))] [(gA, nA, aA, lA, cA), (gB, nB, aB, lB, cB), ((w.heap.size + 1), ny, ay, ly, cy), (w.heap.size, nx, ax, lx, cx)] wH := hS
    obtain ⟨gx, c1, hvx, hox⟩ := hS.vals _ (List.mem_cons_of_mem _ List.mem_cons_self)
    obtain ⟨gy, c2, hvy, hoy⟩ := hS.vals _ List.mem_cons_self
    have hvx' : nx = nA ∧ some ⟨gx, 0, none⟩ = aA ∧ lx = lA ∧ c1 = cA := by
      simp only [Value.agg.injEq, Array.mk.injEq, List.cons.injEq, Value.bool.injEq, Value.slice.injEq, and_true] at hvx
      have := HLX.out
      exact ⟨hvx.1.symm, hvx.2.1.symm, by omega, hvx.2.2.2.symm⟩
    have hvy' : ny = nB ∧ some ⟨gy, 0, none⟩ = aB ∧ ly = lB ∧ c2 = cB := by
      simp only [Value.agg.injEq, Array.mk.injEq, List.cons.injEq, Value.bool.injEq, Value.slice.injEq, and_true] at hvy
      have := HLY.out
      exact ⟨hvy.1.symm, hvy.2.1.symm, by omega, hvy.2.2.2.symm⟩
    clear hvx hvy
    obtain ⟨rfl, rfl, rfl, rfl⟩ := hvx'
    obtain ⟨rfl, rfl, rfl, rfl⟩ := hvy'
    simp only [HLX.out] at hox
    simp only [HLY.out] at hoy
    have HS := Lib.hid hS
    have HOX := Lib.hid hox
    have HOY := Lib.hid hoy
    have hcx : lx + 16 ≤ c1 := own_room hox
    have hcy : ly + 16 ≤ c2 := own_room hoy
    have HK := Lib.hid (Below.refl wH.heap.size wH)
    have HWH := Lib.hid hS.bel
    clear hΦ hL hA hst hS eA pA qA eB pB qB dAB HE0 hox hoy HE
    have HE : Hid (Wd wH [] [] [(gA, nx, (some ⟨gx, 0, none⟩), lx, c1), (gB, ny, (some ⟨gy, 0, none⟩), ly, c2), ((w.heap.size + 1), ny, ay, ly, cy), (w.heap.size, nx, ax, lx, cx)] wH) := ⟨fun _ h => (by cases h), Sep.nil _ _, HS.out.boxes, Below.refl _ _⟩
    have HXY : Hid (∀ W, Below wH.heap.size wH W → Rd .u64 W (some ⟨gx, 0, none⟩) xsx ∧ Rd .u64 W (some ⟨gy, 0, none⟩) xsy ∧ Rd .u64 W ax xsx ∧ Rd .u64 W ay xsy ∧ Tabs W ∧ TabSum W ∧ Trig W) := fun W h =>
      have h2 := HWH.out.trans (h.mono HWH.out.size)
      ⟨(rdl_of' HOX.out (List.take_left' (u64s_len xsx)) (by have := HLX.out; omega)).below h, (rdl_of' HOY.out (List.take_left' (u64s_len xsy)) (by have := HLY.out; omega)).below h, HRX.out _ h2, HRY.out _ h2, HT.out _ h2, HTS.out _ h2, HTR.out _ h2⟩
    have HCX : Hid (lx ≤ c1 ∧ ly ≤ c2) := ⟨by omega, by omega⟩
    have HL2 : Hid (lx ≤ 200 ∧ ly ≤ 200) := ⟨by assumption, by assumption⟩
    have HPP : Hid ((Go.Proofs.YtfjhmnbbjknflaaGreatDoor.val xsx < LIM ∧ (- wv nx xsx).natAbs < LIM) ↔ (True ∧ (- wv nx xsx).natAbs < LIM)) := by
      show _ ↔ _
      rw [Int.natAbs_neg, wv_abs]
      exact ⟨fun h => ⟨trivial, h.2⟩, fun h => ⟨h.2, h.2⟩⟩
    clear hcx hcy
    obtain ⟨xx0, xx1, -, -⟩ := HE.out.cells (g := gA) (n := nx) (a := (some ⟨gx, 0, none⟩)) (l := lx) (c := c1) (by repeat first | exact List.mem_cons_self | apply List.mem_cons_of_mem)
    obtain ⟨xy0, xy1, -, -⟩ := HE.out.cells (g := gB) (n := ny) (a := (some ⟨gy, 0, none⟩)) (l := ly) (c := c2) (by repeat first | exact List.mem_cons_self | apply List.mem_cons_of_mem)
    go_wp2_with fail
    refine ((wadd_any nx ny (some ⟨gx, 0, none⟩) (some ⟨gy, 0, none⟩) lx c1 ly c2 xsx xsy _ HLX.out HLY.out (by have := HL2.out; omega) (by have := HL2.out; omega) HCX.out.1 HCX.out.2 (HXY.out _ HE.out.bel).1 (HXY.out _ HE.out.bel).2.1 HBX.out HBY.out (HXY.out _ HE.out.bel).2.2.2.2.2.1 (fun h => by cases h) (fun h => by cases h)).mono fun e W' hp => HE.out.told1 hp).mono ?_
    rintro e w1 ⟨nS, aS, lS, cS, kS, zS, rfl, hl, hq, hS⟩
    clear xx0 xx1 xy0 xy1
    have HE := Lib.hid hS
    clear hS
    have HLS := Lib.hid hl
    have HQS := Lib.hid hq
    clear hl hq
    have HE := Lib.hid (HE.out.new (w1.heap.size) rfl nS aS lS cS)
    obtain ⟨xx0, xx1, -, -⟩ := HE.out.cells (g := gA) (n := nx) (a := (some ⟨gx, 0, none⟩)) (l := lx) (c := c1) (by repeat first | exact List.mem_cons_self | apply List.mem_cons_of_mem)
    obtain ⟨xy0, xy1, -, -⟩ := HE.out.cells (g := gB) (n := ny) (a := (some ⟨gy, 0, none⟩)) (l := ly) (c := c2) (by repeat first | exact List.mem_cons_self | apply List.mem_cons_of_mem)
    go_wp2_with fail
    generalize hWk : (w1.alloc (Obj.cells #[.bool nS, .slice aS lS cS] 24)) = W2 at *
    clear hWk
    generalize w1.heap.size = gS at *
    refine ((wsub_any nx ny (some ⟨gx, 0, none⟩) (some ⟨gy, 0, none⟩) lx c1 ly c2 xsx xsy _ HLX.out HLY.out (by have := HL2.out; omega) (by have := HL2.out; omega) HCX.out.1 HCX.out.2 (HXY.out _ HE.out.bel).1 (HXY.out _ HE.out.bel).2.1 HBX.out HBY.out (HXY.out _ HE.out.bel).2.2.2.2.2.1 (fun h => by cases h) (fun h => by cases h)).mono fun e W' hp => HE.out.told1 hp).mono ?_
    rintro e w3 ⟨nD, aD, lD, cD, kD, zD, rfl, hl, hq, hS⟩
    clear xx0 xx1 xy0 xy1
    have HE := Lib.hid hS
    clear hS
    have HLD := Lib.hid hl
    have HQD := Lib.hid hq
    clear hl hq
    have HE := Lib.hid (HE.out.new (w3.heap.size) rfl nD aD lD cD)
    obtain ⟨xx0, xx1, -, -⟩ := HE.out.cells (g := gA) (n := nx) (a := (some ⟨gx, 0, none⟩)) (l := lx) (c := c1) (by repeat first | exact List.mem_cons_self | apply List.mem_cons_of_mem)
    obtain ⟨xy0, xy1, -, -⟩ := HE.out.cells (g := gB) (n := ny) (a := (some ⟨gy, 0, none⟩)) (l := ly) (c := c2) (by repeat first | exact List.mem_cons_self | apply List.mem_cons_of_mem)
    go_wp2_with fail
    generalize hWk : (w3.alloc (Obj.cells #[.bool nD, .slice aD lD cD] 24)) = W4 at *
    clear hWk
    generalize w3.heap.size = gD at *
    refine ((wmul_any nx ny (some ⟨gx, 0, none⟩) (some ⟨gy, 0, none⟩) lx c1 ly c2 xsx xsy _ HLX.out HLY.out (by have := HL2.out; omega) (by have := HL2.out; omega) HCX.out.1 HCX.out.2 (HXY.out _ HE.out.bel).1 (HXY.out _ HE.out.bel).2.1 HBX.out HBY.out (HXY.out _ HE.out.bel).2.2.2.2.1 (HXY.out _ HE.out.bel).2.2.2.2.2.2).mono fun e W' hp => HE.out.told1 hp).mono ?_
    rintro e w5 ⟨nP, aP, lP, cP, kP, zP, rfl, hl, hq, hS⟩
    clear xx0 xx1 xy0 xy1
    have HE := Lib.hid hS
    clear hS
    have HLP := Lib.hid hl
    have HQP := Lib.hid hq
    clear hl hq
    have HE := Lib.hid (HE.out.new (w5.heap.size) rfl nP aP lP cP)
    obtain ⟨xx0, xx1, -, -⟩ := HE.out.cells (g := gA) (n := nx) (a := (some ⟨gx, 0, none⟩)) (l := lx) (c := c1) (by repeat first | exact List.mem_cons_self | apply List.mem_cons_of_mem)
    obtain ⟨xy0, xy1, -, -⟩ := HE.out.cells (g := gB) (n := ny) (a := (some ⟨gy, 0, none⟩)) (l := ly) (c := c2) (by repeat first | exact List.mem_cons_self | apply List.mem_cons_of_mem)
    go_wp2_with fail
    generalize hWk : (w5.alloc (Obj.cells #[.bool nP, .slice aP lP cP] 24)) = W6 at *
    clear hWk
    generalize w5.heap.size = gP at *
    refine ((wquo_any nx ny (some ⟨gx, 0, none⟩) (some ⟨gy, 0, none⟩) lx c1 ly c2 xsx xsy _ HLX.out HLY.out (by have := HL2.out; omega) (by have := HL2.out; omega) HCX.out.1 HCX.out.2 (fun h => by cases h) (HXY.out _ HE.out.bel).1 (HXY.out _ HE.out.bel).2.1 HBX.out HBY.out (HXY.out _ HE.out.bel).2.2.2.2.1).mono fun e W' hp => HE.out.told1 hp).mono ?_
    rintro e w7 ⟨nQ, aQ, lQ, cQ, kQ, zQ, rfl, hl, hq, hS⟩
    clear xx0 xx1 xy0 xy1
    have HE := Lib.hid hS
    clear hS
    have HLQ := Lib.hid hl
    have HQQ := Lib.hid hq
    clear hl hq
    have HE := Lib.hid (HE.out.new (w7.heap.size) rfl nQ aQ lQ cQ)
    obtain ⟨xx0, xx1, -, -⟩ := HE.out.cells (g := gA) (n := nx) (a := (some ⟨gx, 0, none⟩)) (l := lx) (c := c1) (by repeat first | exact List.mem_cons_self | apply List.mem_cons_of_mem)
    obtain ⟨xy0, xy1, -, -⟩ := HE.out.cells (g := gB) (n := ny) (a := (some ⟨gy, 0, none⟩)) (l := ly) (c := c2) (by repeat first | exact List.mem_cons_self | apply List.mem_cons_of_mem)
    go_wp2_with fail
    generalize hWk : (w7.alloc (Obj.cells #[.bool nQ, .slice aQ lQ cQ] 24)) = W8 at *
    clear hWk
    generalize w7.heap.size = gQ at *
    refine ((wrem_any nx ny (some ⟨gx, 0, none⟩) (some ⟨gy, 0, none⟩) lx c1 ly c2 xsx xsy _ HLX.out HLY.out (by have := HL2.out; omega) (by have := HL2.out; omega) HCX.out.1 HCX.out.2 (fun h => by cases h) (HXY.out _ HE.out.bel).1 (HXY.out _ HE.out.bel).2.1 HBX.out HBY.out).mono fun e W' hp => HE.out.told1 hp).mono ?_
    rintro e w9 ⟨nR, aR, lR, cR, kR, zR, rfl, hl, hq, hS⟩
    clear xx0 xx1 xy0 xy1
    have HE := Lib.hid hS
    clear hS
    have HLR := Lib.hid hl
    have HQR := Lib.hid hq
    clear hl hq
    have HE := Lib.hid (HE.out.new (w9.heap.size) rfl nR aR lR cR)
    obtain ⟨xx0, xx1, -, -⟩ := HE.out.cells (g := gA) (n := nx) (a := (some ⟨gx, 0, none⟩)) (l := lx) (c := c1) (by repeat first | exact List.mem_cons_self | apply List.mem_cons_of_mem)
    go_wp2_with fail
    generalize hWk : (w9.alloc (Obj.cells #[.bool nR, .slice aR lR cR] 24)) = W10 at *
    clear hWk
    generalize w9.heap.size = gR at *
    refine ((wneg_any nx (some ⟨gx, 0, none⟩) lx c1 xsx _ HLX.out (by have := HL2.out; omega) HCX.out.1 (fun h => by cases h) (HXY.out _ HE.out.bel).1 HBX.out).mono fun e W' hp => HE.out.told1 hp).mono ?_
    rintro e w11 ⟨nN, aN, lN, cN, kN, zN, rfl, hl, hq, hS⟩
    clear xx0 xx1
    have HE := Lib.hid hS
    clear hS
    have HLN := Lib.hid hl
    have HQN := Lib.hid hq
    clear hl hq
    have HE := Lib.hid (HE.out.new (w11.heap.size) rfl nN aN lN cN)
    obtain ⟨xx0, xx1, -, -⟩ := HE.out.cells (g := gA) (n := nx) (a := (some ⟨gx, 0, none⟩)) (l := lx) (c := c1) (by repeat first | exact List.mem_cons_self | apply List.mem_cons_of_mem)
    go_wp2_with fail
    generalize hWk : (w11.alloc (Obj.cells #[.bool nN, .slice aN lN cN] 24)) = W12 at *
    clear hWk
    generalize w11.heap.size = gN at *
    refine ((make_any nx (some ⟨gx, 0, none⟩) lx c1 xsx _ HLX.out (by have := HL2.out; omega) HCX.out.1 (fun h => by cases h) (HXY.out _ HE.out.bel).1 HBX.out).mono fun e W' hp => HE.out.told1 hp.wtold).mono ?_
    rintro e w13 ⟨nM, aM, lM, cM, kM, zM, rfl, hl, hq, hS⟩
    clear xx0 xx1
    have HE := Lib.hid hS
    clear hS
    have HLM := Lib.hid hl
    have HQM := Lib.hid hq
    clear hl hq
    have HE := Lib.hid (HE.out.new (w13.heap.size) rfl nM aM lM cM)
    obtain ⟨xx0, xx1, -, -⟩ := HE.out.cells (g := gA) (n := nx) (a := (some ⟨gx, 0, none⟩)) (l := lx) (c := c1) (by repeat first | exact List.mem_cons_self | apply List.mem_cons_of_mem)
    go_wp2_with fail
    generalize hWk : (w13.alloc (Obj.cells #[.bool nM, .slice aM lM cM] 24)) = W14 at *
    clear hWk
    generalize w13.heap.size = gM at *
    refine ((HI64.out _ gx c1 HCX.out.1 (HXY.out _ HE.out.bel).1 (HXY.out _ HE.out.bel).2.2.2.2.1).mono fun e W' hp => And.intro hp.1 (HE.out.below hp.2)).mono ?_
    rintro e w15 ⟨rfl, hS⟩
    clear xx0 xx1
    have HE := Lib.hid hS
    clear hS
    obtain ⟨iv, hiv⟩ : ∃ iv : Int, (if Is64 (wv nx xsx) then wv nx xsx else 0) = iv := ⟨_, rfl⟩
    obtain ⟨bv, hbv⟩ : ∃ bv : Bool, decide (Is64 (wv nx xsx)) = bv := ⟨_, rfl⟩
    rw [hiv, hbv]
    have HIV := Lib.hid (And.intro hiv hbv)
    clear hiv hbv
    obtain ⟨xa0, xa1, -, -⟩ := HE.out.cells (g := w.heap.size) (n := nx) (a := ax) (l := lx) (c := cx) (by repeat first | exact List.mem_cons_self | apply List.mem_cons_of_mem)
    obtain ⟨xb0, xb1, -, -⟩ := HE.out.cells (g := (w.heap.size + 1)) (n := ny) (a := ay) (l := ly) (c := cy) (by repeat first | exact List.mem_cons_self | apply List.mem_cons_of_mem)
    go_wp2_with fail
    refine ((r2add_any nx ny ax ay lx cx ly cy xsx xsy _ HLX.out HLY.out (by have := HL2.out; omega) (by have := HL2.out; omega) (HXY.out _ HE.out.bel).2.2.1 (HXY.out _ HE.out.bel).2.2.2.1 HBX.out HBY.out).mono fun e W' hp => HE.out.told2 hp.wtold).mono ?_
    rintro e w16 ⟨nS2, aS2, lS2, cS2, kS2, zS2, rfl, hl, hq, hS⟩
    clear xa0 xa1 xb0 xb1
    have HE := Lib.hid hS
    clear hS
    obtain ⟨rfl, rfl, rfl⟩ := WTells.one Iff.rfl HQS.out hq
    obtain rfl : lS = lS2 := by rw [← HLS.out]; exact hl
    have HZS : Hid (lS ≤ 64) := by show _ ≤ _; rw [← HLS.out]; exact HQS.out.len
    clear hl hq HQS
    have HE := Lib.hid (HE.out.new (w16.heap.size) rfl nS aS2 lS cS2)
    obtain ⟨xa0, xa1, -, -⟩ := HE.out.cells (g := w.heap.size) (n := nx) (a := ax) (l := lx) (c := cx) (by repeat first | exact List.mem_cons_self | apply List.mem_cons_of_mem)
    obtain ⟨xb0, xb1, -, -⟩ := HE.out.cells (g := (w.heap.size + 1)) (n := ny) (a := ay) (l := ly) (c := cy) (by repeat first | exact List.mem_cons_self | apply List.mem_cons_of_mem)
    go_wp2_with fail
    generalize hWk : (w16.alloc (Obj.cells #[.bool nS, .slice aS2 lS cS2] 24)) = W17 at *
    clear hWk
    generalize w16.heap.size = gS2 at *
    refine ((r2sub_any nx ny ax ay lx cx ly cy xsx xsy _ HLX.out HLY.out (by have := HL2.out; omega) (by have := HL2.out; omega) (HXY.out _ HE.out.bel).2.2.1 (HXY.out _ HE.out.bel).2.2.2.1 HBX.out HBY.out).mono fun e W' hp => HE.out.told2 hp.wtold).mono ?_
    rintro e w18 ⟨nD2, aD2, lD2, cD2, kD2, zD2, rfl, hl, hq, hS⟩
    clear xa0 xa1 xb0 xb1
    have HE := Lib.hid hS
    clear hS
    obtain ⟨rfl, rfl, rfl⟩ := WTells.one Iff.rfl HQD.out hq
    obtain rfl : lD = lD2 := by rw [← HLD.out]; exact hl
    have HZD : Hid (lD ≤ 64) := by show _ ≤ _; rw [← HLD.out]; exact HQD.out.len
    clear hl hq HQD
    have HE := Lib.hid (HE.out.new (w18.heap.size) rfl nD aD2 lD cD2)
    obtain ⟨xa0, xa1, -, -⟩ := HE.out.cells (g := w.heap.size) (n := nx) (a := ax) (l := lx) (c := cx) (by repeat first | exact List.mem_cons_self | apply List.mem_cons_of_mem)
    obtain ⟨xb0, xb1, -, -⟩ := HE.out.cells (g := (w.heap.size + 1)) (n := ny) (a := ay) (l := ly) (c := cy) (by repeat first | exact List.mem_cons_self | apply List.mem_cons_of_mem)
    go_wp2_with fail
    generalize hWk : (w18.alloc (Obj.cells #[.bool nD, .slice aD2 lD cD2] 24)) = W19 at *
    clear hWk
    generalize w18.heap.size = gD2 at *
    refine ((r2mul_any nx ny ax ay lx cx ly cy xsx xsy _ HLX.out HLY.out (by have := HL2.out; omega) (by have := HL2.out; omega) (HXY.out _ HE.out.bel).2.2.1 (HXY.out _ HE.out.bel).2.2.2.1 HBX.out HBY.out).mono fun e W' hp => HE.out.told2 hp.wtold).mono ?_
    rintro e w20 ⟨nP2, aP2, lP2, cP2, kP2, zP2, rfl, hl, hq, hS⟩
    clear xa0 xa1 xb0 xb1
    have HE := Lib.hid hS
    clear hS
    obtain ⟨rfl, rfl, rfl⟩ := WTells.one Iff.rfl HQP.out hq
    obtain rfl : lP = lP2 := by rw [← HLP.out]; exact hl
    have HZP : Hid (lP ≤ 64) := by show _ ≤ _; rw [← HLP.out]; exact HQP.out.len
    clear hl hq HQP
    have HE := Lib.hid (HE.out.new (w20.heap.size) rfl nP aP2 lP cP2)
    obtain ⟨xa0, xa1, -, -⟩ := HE.out.cells (g := w.heap.size) (n := nx) (a := ax) (l := lx) (c := cx) (by repeat first | exact List.mem_cons_self | apply List.mem_cons_of_mem)
    obtain ⟨xb0, xb1, -, -⟩ := HE.out.cells (g := (w.heap.size + 1)) (n := ny) (a := ay) (l := ly) (c := cy) (by repeat first | exact List.mem_cons_self | apply List.mem_cons_of_mem)
    go_wp2_with fail
    generalize hWk : (w20.alloc (Obj.cells #[.bool nP, .slice aP2 lP cP2] 24)) = W21 at *
    clear hWk
    generalize w20.heap.size = gP2 at *
    refine ((r2quo_any nx ny ax ay lx cx ly cy xsx xsy _ HLX.out HLY.out (by have := HL2.out; omega) (by have := HL2.out; omega) (HXY.out _ HE.out.bel).2.2.1 (HXY.out _ HE.out.bel).2.2.2.1 HBX.out HBY.out).mono fun e W' hp => HE.out.told2 hp).mono ?_
    rintro e w22 ⟨nQ2, aQ2, lQ2, cQ2, kQ2, zQ2, rfl, hl, hq, hS⟩
    clear xa0 xa1 xb0 xb1
    have HE := Lib.hid hS
    clear hS
    obtain ⟨rfl, rfl, rfl⟩ := HQQ.out.one hq
    obtain rfl : lQ = lQ2 := by rw [← HLQ.out]; exact hl
    have HZQ : Hid (lQ ≤ 64) := by show _ ≤ _; rw [← HLQ.out]; exact HQQ.out.len fun h => by rw [Int.natAbs_tdiv, wv_abs]; exact Nat.lt_of_le_of_lt (Nat.div_le_self _ _) h.1
    clear hl hq HQQ
    have HE := Lib.hid (HE.out.new (w22.heap.size) rfl nQ aQ2 lQ cQ2)
    obtain ⟨xa0, xa1, -, -⟩ := HE.out.cells (g := w.heap.size) (n := nx) (a := ax) (l := lx) (c := cx) (by repeat first | exact List.mem_cons_self | apply List.mem_cons_of_mem)
    obtain ⟨xb0, xb1, -, -⟩ := HE.out.cells (g := (w.heap.size + 1)) (n := ny) (a := ay) (l := ly) (c := cy) (by repeat first | exact List.mem_cons_self | apply List.mem_cons_of_mem)
    go_wp2_with fail
    generalize hWk : (w22.alloc (Obj.cells #[.bool nQ, .slice aQ2 lQ cQ2] 24)) = W23 at *
    clear hWk
    generalize w22.heap.size = gQ2 at *
    refine ((r2rem_any nx ny ax ay lx cx ly cy xsx xsy _ HLX.out HLY.out (by have := HL2.out; omega) (by have := HL2.out; omega) (HXY.out _ HE.out.bel).2.2.1 (HXY.out _ HE.out.bel).2.2.2.1 HBX.out HBY.out).mono fun e W' hp => HE.out.told2 hp).mono ?_
    rintro e w24 ⟨nR2, aR2, lR2, cR2, kR2, zR2, rfl, hl, hq, hS⟩
    clear xa0 xa1 xb0 xb1
    have HE := Lib.hid hS
    clear hS
    obtain ⟨rfl, rfl, rfl⟩ := HQR.out.one hq
    obtain rfl : lR = lR2 := by rw [← HLR.out]; exact hl
    have HZR : Hid (lR ≤ 64) := by show _ ≤ _; rw [← HLR.out]; exact HQR.out.len fun h => by rw [Int.natAbs_tmod, wv_abs]; exact Nat.lt_of_le_of_lt (Nat.mod_le _ _) h.1
    clear hl hq HQR
    have HE := Lib.hid (HE.out.new (w24.heap.size) rfl nR aR2 lR cR2)
    obtain ⟨xa0, xa1, -, -⟩ := HE.out.cells (g := w.heap.size) (n := nx) (a := ax) (l := lx) (c := cx) (by repeat first | exact List.mem_cons_self | apply List.mem_cons_of_mem)
    go_wp2_with fail
    generalize hWk : (w24.alloc (Obj.cells #[.bool nR, .slice aR2 lR cR2] 24)) = W25 at *
    clear hWk
    generalize w24.heap.size = gR2 at *
    refine ((r2neg_any nx ax lx cx xsx _ HLX.out (by have := HL2.out; omega) (HXY.out _ HE.out.bel).2.2.1 HBX.out).mono fun e W' hp => HE.out.told2 hp.wtold).mono ?_
    rintro e w26 ⟨nN2, aN2, lN2, cN2, kN2, zN2, rfl, hl, hq, hS⟩
    clear xa0 xa1
    have HE := Lib.hid hS
    clear hS
    obtain ⟨rfl, rfl, rfl⟩ := WTells.one HPP.out.symm HQN.out hq
    obtain rfl : lN = lN2 := by rw [← HLN.out]; exact hl
    have HZN : Hid (lN ≤ 64) := by show _ ≤ _; rw [← HLN.out]; exact HQN.out.len
    clear hl hq HQN
    have HE := Lib.hid (HE.out.new (w26.heap.size) rfl nN aN2 lN cN2)
    obtain ⟨xa0, xa1, -, -⟩ := HE.out.cells (g := w.heap.size) (n := nx) (a := ax) (l := lx) (c := cx) (by repeat first | exact List.mem_cons_self | apply List.mem_cons_of_mem)
    go_wp2_with fail
    generalize hWk : (w26.alloc (Obj.cells #[.bool nN, .slice aN2 lN cN2] 24)) = W27 at *
    clear hWk
    generalize w26.heap.size = gN2 at *
    refine ((r2make_any nx ax lx cx xsx _ HLX.out (by have := HL2.out; omega) (HXY.out _ HE.out.bel).2.2.1 HBX.out).mono fun e W' hp => HE.out.told2 hp.wtold).mono ?_
    rintro e w28 ⟨nM2, aM2, lM2, cM2, kM2, zM2, rfl, hl, hq, hS⟩
    clear xa0 xa1
    have HE := Lib.hid hS
    clear hS
    obtain ⟨rfl, rfl, rfl⟩ := WTells.one Iff.rfl HQM.out hq
    obtain rfl : lM = lM2 := by rw [← HLM.out]; exact hl
    have HZM : Hid (lM ≤ 64) := by show _ ≤ _; rw [← HLM.out]; exact HQM.out.len
    clear hl hq HQM
    have HE := Lib.hid (HE.out.new (w28.heap.size) rfl nM aM2 lM cM2)
    obtain ⟨xa0, xa1, -, -⟩ := HE.out.cells (g := w.heap.size) (n := nx) (a := ax) (l := lx) (c := cx) (by repeat first | exact List.mem_cons_self | apply List.mem_cons_of_mem)
    go_wp2_with fail
    generalize hWk : (w28.alloc (Obj.cells #[.bool nM, .slice aM2 lM cM2] 24)) = W29 at *
    clear hWk
    generalize w28.heap.size = gM2 at *
    refine ((r2int64_any nx ax lx cx xsx _ HLX.out (by have := HL2.out; omega) (HXY.out _ HE.out.bel).2.2.1 HBX.out).mono fun e W' hp => And.intro hp.1 (HE.out.below hp.2)).mono ?_
    rintro e w30 ⟨rfl, hS⟩
    clear xa0 xa1
    have HE := Lib.hid hS
    clear hS
    rw [HIV.out.1, HIV.out.2]
    have hbi : (iv == iv) = true := by simp
    have hbb : (bv == bv) = true := by simp
    obtain ⟨xS0, xS1, -, -⟩ := HE.out.cells (g := gS) (n := nS) (a := aS) (l := lS) (c := cS) (by repeat first | exact List.mem_cons_self | apply List.mem_cons_of_mem)
    obtain ⟨xS20, xS21, -, -⟩ := HE.out.cells (g := gS2) (n := nS) (a := aS2) (l := lS) (c := cS2) (by repeat first | exact List.mem_cons_self | apply List.mem_cons_of_mem)
    go_wp2_with fail
    refine ((lsame2_any nS nS aS aS2 lS cS lS cS2 kS kS zS zS _ HLS.out HLS.out (by have := HZS.out; omega) (HE.out.rd (l := lS) (c := cS) (by repeat first | exact List.mem_cons_self | apply List.mem_cons_of_mem)) (HE.out.rd (l := lS) (c := cS2) (by repeat first | exact List.mem_cons_self | apply List.mem_cons_of_mem)) rfl rfl rfl).mono fun e W' hp => And.intro hp.1 (HE.out.below hp.2)).mono ?_
    rintro e w31 ⟨rfl, hS⟩
    clear xS0 xS1 xS20 xS21
    have HE := Lib.hid hS
    clear hS
    obtain ⟨xD0, xD1, -, -⟩ := HE.out.cells (g := gD) (n := nD) (a := aD) (l := lD) (c := cD) (by repeat first | exact List.mem_cons_self | apply List.mem_cons_of_mem)
    obtain ⟨xD20, xD21, -, -⟩ := HE.out.cells (g := gD2) (n := nD) (a := aD2) (l := lD) (c := cD2) (by repeat first | exact List.mem_cons_self | apply List.mem_cons_of_mem)
    go_wp2_with fail
    refine ((lsame2_any nD nD aD aD2 lD cD lD cD2 kD kD zD zD _ HLD.out HLD.out (by have := HZD.out; omega) (HE.out.rd (l := lD) (c := cD) (by repeat first | exact List.mem_cons_self | apply List.mem_cons_of_mem)) (HE.out.rd (l := lD) (c := cD2) (by repeat first | exact List.mem_cons_self | apply List.mem_cons_of_mem)) rfl rfl rfl).mono fun e W' hp => And.intro hp.1 (HE.out.below hp.2)).mono ?_
    rintro e w32 ⟨rfl, hS⟩
    clear xD0 xD1 xD20 xD21
    have HE := Lib.hid hS
    clear hS
    obtain ⟨xP0, xP1, -, -⟩ := HE.out.cells (g := gP) (n := nP) (a := aP) (l := lP) (c := cP) (by repeat first | exact List.mem_cons_self | apply List.mem_cons_of_mem)
    obtain ⟨xP20, xP21, -, -⟩ := HE.out.cells (g := gP2) (n := nP) (a := aP2) (l := lP) (c := cP2) (by repeat first | exact List.mem_cons_self | apply List.mem_cons_of_mem)
    go_wp2_with fail
    refine ((lsame2_any nP nP aP aP2 lP cP lP cP2 kP kP zP zP _ HLP.out HLP.out (by have := HZP.out; omega) (HE.out.rd (l := lP) (c := cP) (by repeat first | exact List.mem_cons_self | apply List.mem_cons_of_mem)) (HE.out.rd (l := lP) (c := cP2) (by repeat first | exact List.mem_cons_self | apply List.mem_cons_of_mem)) rfl rfl rfl).mono fun e W' hp => And.intro hp.1 (HE.out.below hp.2)).mono ?_
    rintro e w33 ⟨rfl, hS⟩
    clear xP0 xP1 xP20 xP21
    have HE := Lib.hid hS
    clear hS
    obtain ⟨xQ0, xQ1, -, -⟩ := HE.out.cells (g := gQ) (n := nQ) (a := aQ) (l := lQ) (c := cQ) (by repeat first | exact List.mem_cons_self | apply List.mem_cons_of_mem)
    obtain ⟨xQ20, xQ21, -, -⟩ := HE.out.cells (g := gQ2) (n := nQ) (a := aQ2) (l := lQ) (c := cQ2) (by repeat first | exact List.mem_cons_self | apply List.mem_cons_of_mem)
    go_wp2_with fail
    refine ((lsame2_any nQ nQ aQ aQ2 lQ cQ lQ cQ2 kQ kQ zQ zQ _ HLQ.out HLQ.out (by have := HZQ.out; omega) (HE.out.rd (l := lQ) (c := cQ) (by repeat first | exact List.mem_cons_self | apply List.mem_cons_of_mem)) (HE.out.rd (l := lQ) (c := cQ2) (by repeat first | exact List.mem_cons_self | apply List.mem_cons_of_mem)) rfl rfl rfl).mono fun e W' hp => And.intro hp.1 (HE.out.below hp.2)).mono ?_
    rintro e w34 ⟨rfl, hS⟩
    clear xQ0 xQ1 xQ20 xQ21
    have HE := Lib.hid hS
    clear hS
    obtain ⟨xR0, xR1, -, -⟩ := HE.out.cells (g := gR) (n := nR) (a := aR) (l := lR) (c := cR) (by repeat first | exact List.mem_cons_self | apply List.mem_cons_of_mem)
    obtain ⟨xR20, xR21, -, -⟩ := HE.out.cells (g := gR2) (n := nR) (a := aR2) (l := lR) (c := cR2) (by repeat first | exact List.mem_cons_self | apply List.mem_cons_of_mem)
    go_wp2_with fail
    refine ((lsame2_any nR nR aR aR2 lR cR lR cR2 kR kR zR zR _ HLR.out HLR.out (by have := HZR.out; omega) (HE.out.rd (l := lR) (c := cR) (by repeat first | exact List.mem_cons_self | apply List.mem_cons_of_mem)) (HE.out.rd (l := lR) (c := cR2) (by repeat first | exact List.mem_cons_self | apply List.mem_cons_of_mem)) rfl rfl rfl).mono fun e W' hp => And.intro hp.1 (HE.out.below hp.2)).mono ?_
    rintro e w35 ⟨rfl, hS⟩
    clear xR0 xR1 xR20 xR21
    have HE := Lib.hid hS
    clear hS
    obtain ⟨xN0, xN1, -, -⟩ := HE.out.cells (g := gN) (n := nN) (a := aN) (l := lN) (c := cN) (by repeat first | exact List.mem_cons_self | apply List.mem_cons_of_mem)
    obtain ⟨xN20, xN21, -, -⟩ := HE.out.cells (g := gN2) (n := nN) (a := aN2) (l := lN) (c := cN2) (by repeat first | exact List.mem_cons_self | apply List.mem_cons_of_mem)
    go_wp2_with fail
    refine ((lsame2_any nN nN aN aN2 lN cN lN cN2 kN kN zN zN _ HLN.out HLN.out (by have := HZN.out; omega) (HE.out.rd (l := lN) (c := cN) (by repeat first | exact List.mem_cons_self | apply List.mem_cons_of_mem)) (HE.out.rd (l := lN) (c := cN2) (by repeat first | exact List.mem_cons_self | apply List.mem_cons_of_mem)) rfl rfl rfl).mono fun e W' hp => And.intro hp.1 (HE.out.below hp.2)).mono ?_
    rintro e w36 ⟨rfl, hS⟩
    clear xN0 xN1 xN20 xN21
    have HE := Lib.hid hS
    clear hS
    obtain ⟨xM0, xM1, -, -⟩ := HE.out.cells (g := gM) (n := nM) (a := aM) (l := lM) (c := cM) (by repeat first | exact List.mem_cons_self | apply List.mem_cons_of_mem)
    obtain ⟨xM20, xM21, -, -⟩ := HE.out.cells (g := gM2) (n := nM) (a := aM2) (l := lM) (c := cM2) (by repeat first | exact List.mem_cons_self | apply List.mem_cons_of_mem)
    go_wp2_with fail
    refine ((lsame2_any nM nM aM aM2 lM cM lM cM2 kM kM zM zM _ HLM.out HLM.out (by have := HZM.out; omega) (HE.out.rd (l := lM) (c := cM) (by repeat first | exact List.mem_cons_self | apply List.mem_cons_of_mem)) (HE.out.rd (l := lM) (c := cM2) (by repeat first | exact List.mem_cons_self | apply List.mem_cons_of_mem)) rfl rfl rfl).mono fun e W' hp => And.intro hp.1 (HE.out.below hp.2)).mono ?_
    rintro e w37 ⟨rfl, hS⟩
    clear xM0 xM1 xM20 xM21
    have HE := Lib.hid hS
    clear hS
    go_wp2_with fail
    obtain ⟨rc, hrc⟩ : ∃ rc : Int, sg (wv nx xsx - wv ny xsy) = rc := ⟨_, rfl⟩
    obtain ⟨rs, hrs⟩ : ∃ rs : Int, sg (wv nx xsx) = rs := ⟨_, rfl⟩
    have hcc : (rc == rc) = true := by simp
    have hss : (rs == rs) = true := by simp
    have h00 : Hid (sg (wv nx xsx - wv nx xsx) = 0) := by show _ = _; rw [Int.sub_self]; decide
    have HRC := Lib.hid hrc
    have HRS := Lib.hid hrs
    have HLE : Hid (lx ≤ 1048576 ∧ ly ≤ 1048576 ∧ lx ≤ 500000 ∧ ly ≤ 500000) := ⟨by omega, by omega, by omega, by omega⟩
    clear hrc hrs hbi hbb
    have HE := Lib.hid HE.out.drew
    first | (go_region_held3 (fun W => W.cell? ⟨gA, 0, none⟩ = some (.bool nx) ∧ W.cell? ⟨gA, 1, none⟩ = some (.slice (some ⟨gx, 0, none⟩) lx c1) ∧ W.cell? ⟨gB, 0, none⟩ = some (.bool ny) ∧ W.cell? ⟨gB, 1, none⟩ = some (.slice (some ⟨gy, 0, none⟩) ly c2) ∧ W.cell? ⟨w.heap.size, 0, none⟩ = some (.bool nx) ∧ W.cell? ⟨w.heap.size, 1, none⟩ = some (.slice ax lx cx) ∧ W.cell? ⟨(w.heap.size + 1), 0, none⟩ = some (.bool ny) ∧ W.cell? ⟨(w.heap.size + 1), 1, none⟩ = some (.slice ay ly cy))
      (exact ⟨(HE.out.cells (g := gA) (n := nx) (a := (some ⟨gx, 0, none⟩)) (l := lx) (c := c1) (by repeat first | exact List.mem_cons_self | apply List.mem_cons_of_mem)).1, (HE.out.cells (g := gA) (n := nx) (a := (some ⟨gx, 0, none⟩)) (l := lx) (c := c1) (by repeat first | exact List.mem_cons_self | apply List.mem_cons_of_mem)).2.1, (HE.out.cells (g := gB) (n := ny) (a := (some ⟨gy, 0, none⟩)) (l := ly) (c := c2) (by repeat first | exact List.mem_cons_self | apply List.mem_cons_of_mem)).1, (HE.out.cells (g := gB) (n := ny) (a := (some ⟨gy, 0, none⟩)) (l := ly) (c := c2) (by repeat first | exact List.mem_cons_self | apply List.mem_cons_of_mem)).2.1, (HE.out.cells (g := w.heap.size) (n := nx) (a := ax) (l := lx) (c := cx) (by repeat first | exact List.mem_cons_self | apply List.mem_cons_of_mem)).1, (HE.out.cells (g := w.heap.size) (n := nx) (a := ax) (l := lx) (c := cx) (by repeat first | exact List.mem_cons_self | apply List.mem_cons_of_mem)).2.1, (HE.out.cells (g := (w.heap.size + 1)) (n := ny) (a := ay) (l := ly) (c := cy) (by repeat first | exact List.mem_cons_self | apply List.mem_cons_of_mem)).1, (HE.out.cells (g := (w.heap.size + 1)) (n := ny) (a := ay) (l := ly) (c := cy) (by repeat first | exact List.mem_cons_self | apply List.mem_cons_of_mem)).2.1⟩)
      (first
      | (go_at_call 31; (with_reducible refine ((wcmp_any nx ny (some ⟨gx, 0, none⟩) (some ⟨gy, 0, none⟩) lx c1 ly c2 xsx xsy _ HLX.out HLY.out HLE.out.1 HLE.out.2.1 HCX.out.1 HCX.out.2 (HXY.out _ HE.out.bel).1 (HXY.out _ HE.out.bel).2.1 HBX.out HBY.out (HXY.out _ HE.out.bel).2.2.2.2.1).mono fun e W' hp => And.intro hp.1 (HE.out.below hp.2)).mono ?_)
         rintro e wZZ ⟨rfl, hS⟩
         have HE := Lib.hid hS
         clear hS
         rw [HRC.out])
      | (go_at_call 31; (with_reducible refine ((wcmp_any nx nx (some ⟨gx, 0, none⟩) (some ⟨gx, 0, none⟩) lx c1 lx c1 xsx xsx _ HLX.out HLX.out HLE.out.1 HLE.out.1 HCX.out.1 HCX.out.1 (HXY.out _ HE.out.bel).1 (HXY.out _ HE.out.bel).1 HBX.out HBX.out (HXY.out _ HE.out.bel).2.2.2.2.1).mono fun e W' hp => And.intro hp.1 (HE.out.below hp.2)).mono ?_)
         rintro e wZZ ⟨rfl, hS⟩
         have HE := Lib.hid hS
         clear hS
         rw [h00.out])
      | (go_at_call 32; (with_reducible refine ((r2cmp_any nx ny ax ay lx cx ly cy xsx xsy _ HLX.out HLY.out HLE.out.2.2.1 HLE.out.2.2.2 (HXY.out _ HE.out.bel).2.2.1 (HXY.out _ HE.out.bel).2.2.2.1 HBX.out HBY.out).mono fun e W' hp => And.intro hp.1 (HE.out.below hp.2)).mono ?_)
         rintro e wZZ ⟨rfl, hS⟩
         have HE := Lib.hid hS
         clear hS
         rw [HRC.out])
      | (go_at_call 33; (with_reducible refine ((wsignB_any nx (some ⟨gx, 0, none⟩) lx c1 xsx _ HLX.out HLE.out.1 HCX.out.1 (HXY.out _ HE.out.bel).1 HBX.out).mono fun e W' hp => And.intro hp.1 (HE.out.below hp.2)).mono ?_)
         rintro e wZZ ⟨rfl, hS⟩
         have HE := Lib.hid hS
         clear hS
         rw [HRS.out])
      | (go_at_call 34; (with_reducible refine ((r2sign_any nx ax lx cx xsx _ HLX.out HLE.out.1 (HXY.out _ HE.out.bel).2.2.1 HBX.out).mono fun e W' hp => And.intro hp.1 (HE.out.below hp.2)).mono ?_)
         rintro e wZZ ⟨rfl, hS⟩
         have HE := Lib.hid hS
         clear hS
         rw [HRS.out])
      | (go_at_call 13; (with_reducible refine ((keptWhole_any nx ax w.heap.size gx lx cx c1 xsx _ HLX.out HLE.out.1 (HXY.out _ HE.out.bel).2.2.1 (owns_below HOX.out HE.out.bel)).mono fun e W' hp => And.intro hp.1 (HE.out.below hp.2)).mono ?_)
         rintro e wZZ ⟨rfl, hS⟩
         have HE := Lib.hid hS
         clear hS)
      | (go_at_call 13; (with_reducible refine ((keptWhole_any ny ay w.heap.size gy ly cy c2 xsy _ HLY.out HLE.out.2.1 (HXY.out _ HE.out.bel).2.2.2.1 (owns_below HOY.out HE.out.bel)).mono fun e W' hp => And.intro hp.1 (HE.out.below hp.2)).mono ?_)
         rintro e wZZ ⟨rfl, hS⟩
         have HE := Lib.hid hS
         clear hS))) | fail "region"
    have hsep := (HE.out.sep.perm (show List.Perm [rw64 (.slice aM lM cM) zM, rw64 (.slice aN lN cN) zN, rw64 (.slice aR lR cR) zR, rw64 (.slice aQ lQ cQ) zQ, rw64 (.slice aP lP cP) zP, rw64 (.slice aD lD cD) zD, rw64 (.slice aS lS cS) zS] ([rw64 (.slice aS lS cS) zS, rw64 (.slice aD lD cD) zD, rw64 (.slice aP lP cP) zP, rw64 (.slice aQ lQ cQ) zQ, rw64 (.slice aR lR cR) zR, rw64 (.slice aN lN cN) zN, rw64 (.slice aM lM cM) zM] ++ []) from List.reverse_perm [rw64 (.slice aS lS cS) zS, rw64 (.slice aD lD cD) zD, rw64 (.slice aP lP cP) zP, rw64 (.slice aQ lQ cQ) zQ, rw64 (.slice aR lR cR) zR, rw64 (.slice aN lN cN) zN, rw64 (.slice aM lM cM) zM]))
    have hsep := (hsep.nilRow 65).nilRow 22
    have hbok := Bok.start (R := rwNo :: rwNo8 :: ([rw64 (.slice aS lS cS) zS, rw64 (.slice aD lD cD) zD, rw64 (.slice aP lP cP) zP, rw64 (.slice aQ lQ cQ) zQ, rw64 (.slice aR lR cR) zR, rw64 (.slice aN lN cN) zN, rw64 (.slice aM lM cM) zM] ++ [])) (T := 33) hsep HE.out.bel.size rfl
    have HKB := Lib.hid ((Below.refl _ _).alloc (Nat.le_refl _) (.cells #[.slice none 0 0, .slice none 0 0] 33) : Below wZZ.heap.size wZZ _)
    clear hsep
    obtain ⟨b0, b1, -, -⟩ := (HE.out.below HKB.out).cells (g := gS) (n := nS) (a := aS) (l := lS) (c := cS) (by repeat first | exact List.mem_cons_self | apply List.mem_cons_of_mem)
    go_wp2_with fail
    clear b0 b1
    refine (hbok.whole nS aS lS cS (by simp)).mono ?_
    rintro e wB0 ⟨rfl, ⟨vw0, hbok2⟩, hb⟩
    have HKB := Lib.hid (HKB.out.trans hb)
    clear hbok hb
    have hbok := hbok2
    clear hbok2
    obtain ⟨b0, b1, -, -⟩ := (HE.out.below HKB.out).cells (g := gD) (n := nD) (a := aD) (l := lD) (c := cD) (by repeat first | exact List.mem_cons_self | apply List.mem_cons_of_mem)
    go_wp2_with fail
    clear b0 b1
    refine (hbok.whole nD aD lD cD (by simp)).mono ?_
    rintro e wB1 ⟨rfl, ⟨vw1, hbok2⟩, hb⟩
    have HKB := Lib.hid (HKB.out.trans hb)
    clear hbok hb
    have hbok := hbok2
    clear hbok2
    obtain ⟨b0, b1, -, -⟩ := (HE.out.below HKB.out).cells (g := gP) (n := nP) (a := aP) (l := lP) (c := cP) (by repeat first | exact List.mem_cons_self | apply List.mem_cons_of_mem)
    go_wp2_with fail
    clear b0 b1
    refine (hbok.whole nP aP lP cP (by simp)).mono ?_
    rintro e wB2 ⟨rfl, ⟨vw2, hbok2⟩, hb⟩
    have HKB := Lib.hid (HKB.out.trans hb)
    clear hbok hb
    have hbok := hbok2
    clear hbok2
    obtain ⟨b0, b1, -, -⟩ := (HE.out.below HKB.out).cells (g := gQ) (n := nQ) (a := aQ) (l := lQ) (c := cQ) (by repeat first | exact List.mem_cons_self | apply List.mem_cons_of_mem)
    go_wp2_with fail
    clear b0 b1
    refine (hbok.whole nQ aQ lQ cQ (by simp)).mono ?_
    rintro e wB3 ⟨rfl, ⟨vw3, hbok2⟩, hb⟩
    have HKB := Lib.hid (HKB.out.trans hb)
    clear hbok hb
    have hbok := hbok2
    clear hbok2
    obtain ⟨b0, b1, -, -⟩ := (HE.out.below HKB.out).cells (g := gR) (n := nR) (a := aR) (l := lR) (c := cR) (by repeat first | exact List.mem_cons_self | apply List.mem_cons_of_mem)
    go_wp2_with fail
    clear b0 b1
    refine (hbok.whole nR aR lR cR (by simp)).mono ?_
    rintro e wB4 ⟨rfl, ⟨vw4, hbok2⟩, hb⟩
    have HKB := Lib.hid (HKB.out.trans hb)
    clear hbok hb
    have hbok := hbok2
    clear hbok2
    obtain ⟨b0, b1, -, -⟩ := (HE.out.below HKB.out).cells (g := gN) (n := nN) (a := aN) (l := lN) (c := cN) (by repeat first | exact List.mem_cons_self | apply List.mem_cons_of_mem)
    go_wp2_with fail
    clear b0 b1
    refine (hbok.whole nN aN lN cN (by simp)).mono ?_
    rintro e wB5 ⟨rfl, ⟨vw5, hbok2⟩, hb⟩
    have HKB := Lib.hid (HKB.out.trans hb)
    clear hbok hb
    have hbok := hbok2
    clear hbok2
    obtain ⟨b0, b1, -, -⟩ := (HE.out.below HKB.out).cells (g := gM) (n := nM) (a := aM) (l := lM) (c := cM) (by repeat first | exact List.mem_cons_self | apply List.mem_cons_of_mem)
    go_wp2_with fail
    clear b0 b1
    refine (hbok.whole nM aM lM cM (by simp)).mono ?_
    rintro e wB6 ⟨rfl, ⟨vw6, hbok2⟩, hb⟩
    have HKB := Lib.hid (HKB.out.trans hb)
    clear hbok hb
    have hbok := hbok2
    clear hbok2
    have HBK := Lib.hid hbok
    clear hbok
    go_wp2_with fail
    refine (Bok.apart (WL := [rw64 (.slice aS lS cS) zS, rw64 (.slice aD lD cD) zD, rw64 (.slice aP lP cP) zP, rw64 (.slice aQ lQ cQ) zQ, rw64 (.slice aR lR cR) zR, rw64 (.slice aN lN cN) zN, rw64 (.slice aM lM cM) zM]) (BL := []) HBK.out ?_ (fun s hs => by cases hs) (by simp) (by simp)).mono ?_
    · intro s hs
      simp only [List.mem_cons, List.mem_nil_iff, or_false] at hs
      rcases hs with rfl | rfl | rfl | rfl | rfl | rfl | rfl
      · exact ⟨rfl, by show zS.length ≤ _; have h1 := HLS.out; have h2 := HZS.out; omega⟩
      · exact ⟨rfl, by show zD.length ≤ _; have h1 := HLD.out; have h2 := HZD.out; omega⟩
      · exact ⟨rfl, by show zP.length ≤ _; have h1 := HLP.out; have h2 := HZP.out; omega⟩
      · exact ⟨rfl, by show zQ.length ≤ _; have h1 := HLQ.out; have h2 := HZQ.out; omega⟩
      · exact ⟨rfl, by show zR.length ≤ _; have h1 := HLR.out; have h2 := HZR.out; omega⟩
      · exact ⟨rfl, by show zN.length ≤ _; have h1 := HLN.out; have h2 := HZN.out; omega⟩
      · exact ⟨rfl, by show zM.length ≤ _; have h1 := HLM.out; have h2 := HZM.out; omega⟩
    rintro e wE ⟨rfl, hb⟩
    have HKf := Lib.hid ((HE.out.bel.trans (HKB.out.mono HE.out.bel.size)).trans hb)
    clear hb HBK
    have HSf := HS.out.below HKf.out
    obtain ⟨x0, x1, -, -⟩ := HSf.cells (g := w.heap.size) (n := nx) (a := ax) (l := lx) (c := cx) (by repeat first | exact List.mem_cons_self | apply List.mem_cons_of_mem)
    obtain ⟨y0, y1, -, -⟩ := HSf.cells (g := gA) (n := nx) (a := (some ⟨gx, 0, none⟩)) (l := lx) (c := c1) (by repeat first | exact List.mem_cons_self | apply List.mem_cons_of_mem)
    clear HSf
    go_wp2_with fail
    clear x0 x1 y0 y1
    refine (keptWhole_any nx ax w.heap.size gx lx cx c1 xsx _ HLX.out HLE.out.1 (HXY.out _ HKf.out).2.2.1 (owns_below HOX.out HKf.out)).mono ?_
    rintro e wF ⟨rfl, hb6⟩
    have HKg := Lib.hid (HKf.out.trans (hb6.mono HKf.out.size))
    clear hb6
    have HSf := HS.out.below HKg.out
    obtain ⟨x0, x1, -, -⟩ := HSf.cells (g := (w.heap.size + 1)) (n := ny) (a := ay) (l := ly) (c := cy) (by repeat first | exact List.mem_cons_self | apply List.mem_cons_of_mem)
    obtain ⟨y0, y1, -, -⟩ := HSf.cells (g := gB) (n := ny) (a := (some ⟨gy, 0, none⟩)) (l := ly) (c := c2) (by repeat first | exact List.mem_cons_self | apply List.mem_cons_of_mem)
    clear HSf
    go_wp2_with fail
    clear x0 x1 y0 y1
    refine (keptWhole_any ny ay w.heap.size gy ly cy c2 xsy _ HLY.out HLE.out.2.1 (HXY.out _ HKg.out).2.2.2.1 (owns_below HOY.out HKg.out)).mono ?_
    rintro e wG ⟨rfl, hb7⟩
    have HKh := Lib.hid (HKg.out.trans (hb7.mono HKg.out.size))
    clear hb7
    go_wp2_with fail
    refine (wworks_any _ (HT.out _ (HWH.out.trans (HKh.out.mono HWH.out.size)))).mono ?_
    rintro e w8 ⟨rfl, hb8⟩
    have HKi := Lib.hid (HKh.out.trans (hb8.mono HKh.out.size))
    clear hb8
    go_wp2
    go_ret
    exact ⟨rfl, HWH.out.trans (HKi.out.mono HWH.out.size)⟩
end Go.Proofs.YtfjhmnbbjknflaaGreatDoor
