import Derived.Test.YtfjhmnbbjknflaaGreatDoorWSt
import Derived.Test.YtfjhmnbbjknflaaGreatDoorRInv
import Derived.Test.YtfjhmnbbjknflaaGreatDoorLentW
namespace Go.Proofs.YtfjhmnbbjknflaaGreatDoor
open Go.RowKit

/-- A number that is lent: its list stands in a row of its own, with 16 marks behind it. -/
def IsL (B : Nat) (w : World) (v : Value) (X : Bool × List Nat) : Prop :=
  ∃ g c, v = .agg #[.bool X.1, .slice (some ⟨g, 0, none⟩) X.2.length c] ∧ w.ownsRow B 61 1 (.slice (some ⟨g, 0, none⟩) (X.2.length + 16) c) (X.2.length + 16) (u64s X.2 ++ mksw 16)
theorem IsL.below {B : Nat} {w w' : World} {v : Value} {X : Bool × List Nat} (h : IsL B w v X) (hb : Below w.heap.size w w') : IsL B w' v X := by
  obtain ⟨g, c, h1, h2⟩ := h
  exact ⟨g, c, h1, owns_below h2 hb⟩
theorem IsL.form {B : Nat} {w : World} {v : Value} {X : Bool × List Nat} (h : IsL B w v X) : ∃ n a l c, v = .agg #[.bool n, .slice a l c] := by
  obtain ⟨g, c, h1, _⟩ := h
  exact ⟨_, _, _, c, h1⟩
theorem row_not_held {w : World} {B g k n : Nat} {v : Value} {L : List Value} (h : w.ownsRow B 61 1 v n L) (hg : Held w g) (hk : v.ownBlock = some k) : k ≠ g := by
  rintro rfl
  obtain ⟨n, a, l, c, h2⟩ := hg
  rcases h.2 with ⟨rfl, _⟩ | ⟨g', c', cur, rfl, _, hh, _⟩
  · cases hk
  · obtain rfl : g' = k := by simpa [Value.ownBlock] using hk
    rw [hh] at h2
    simp [WO] at h2
structure SL (w0 : World) (L : List (Value × (Bool × List Nat))) (G : List (Nat × Bool × Option Addr × Nat × Nat)) (W : World) : Prop where
  vals : ∀ p ∈ L, IsL w0.heap.size W p.1 p.2
  boxes : ∀ p ∈ G, W.heap[p.1]? = some (WO p.2.1 p.2.2.1 p.2.2.2.1 p.2.2.2.2)
  bel : Below w0.heap.size w0 W
theorem SL.init (w0 : World) : SL w0 [] [] w0 := ⟨fun _ h => (by cases h), fun _ h => (by cases h), Below.refl _ _⟩
theorem SL.below {w0 W W' : World} {L : List (Value × (Bool × List Nat))} {G : List (Nat × Bool × Option Addr × Nat × Nat)} (h : SL w0 L G W) (hb : Below W.heap.size W W') : SL w0 L G W' :=
  ⟨fun p hp => (h.vals p hp).below hb, fun p hp => by rw [hb.block _ (lt_of_block (h.boxes p hp))]; exact h.boxes p hp, h.bel.trans (hb.mono h.bel.size)⟩
theorem SL.drew {w0 W : World} {L : List (Value × (Bool × List Nat))} {G : List (Nat × Bool × Option Addr × Nat × Nat)} (h : SL w0 L G W) : SL w0 L G W.drew := h.below ((Below.refl _ _).drew)
theorem SL.push {w0 W : World} {L : List (Value × (Bool × List Nat))} {G : List (Nat × Bool × Option Addr × Nat × Nat)} (h : SL w0 L G W) {v : Value} {Z : Bool × List Nat} (hv : IsL w0.heap.size W v Z) : SL w0 ((v, Z) :: L) G W :=
  ⟨fun p hp => by
    rcases List.mem_cons.1 hp with rfl | hp
    · exact hv
    · exact h.vals p hp, h.boxes, h.bel⟩
theorem SL.new {w0 W : World} {L : List (Value × (Bool × List Nat))} {G : List (Nat × Bool × Option Addr × Nat × Nat)} (h : SL w0 L G W) (g : Nat) (hg : W.heap.size = g) (n : Bool) (a : Option Addr) (l c : Nat) : SL w0 L ((g, n, a, l, c) :: G) (W.alloc (.cells #[.bool n, .slice a l c] 24)) := by
  have h2 := h.below ((Below.refl _ _).alloc (Nat.le_refl _) (.cells #[.bool n, .slice a l c] 24))
  refine ⟨h2.vals, fun p hp => ?_, h2.bel⟩
  rcases List.mem_cons.1 hp with rfl | hp
  · subst hg; exact heap_new _ _
  · exact h2.boxes p hp
theorem SL.val {w0 W : World} {L : List (Value × (Bool × List Nat))} {G : List (Nat × Bool × Option Addr × Nat × Nat)} (h : SL w0 L G W) {v : Value} {Z : Bool × List Nat} (hm : (v, Z) ∈ L) : IsL w0.heap.size W v Z := h.vals _ hm
theorem SL.alloc {w0 W : World} {L : List (Value × (Bool × List Nat))} {G : List (Nat × Bool × Option Addr × Nat × Nat)} (h : SL w0 L G W) (o : Obj) : SL w0 L G (W.alloc o) := h.below ((Below.refl _ _).alloc (Nat.le_refl _) _)
theorem SL.cells {w0 W : World} {L : List (Value × (Bool × List Nat))} {G : List (Nat × Bool × Option Addr × Nat × Nat)} (h : SL w0 L G W) {g : Nat} {n : Bool} {a : Option Addr} {l c : Nat} (hm : (g, n, a, l, c) ∈ G) :
    W.cell? ⟨g, 0, none⟩ = some (.bool n) ∧ W.cell? ⟨g, 1, none⟩ = some (.slice a l c) ∧ W.frozen? ⟨g, 0, none⟩ = false ∧ W.frozen? ⟨g, 1, none⟩ = false := wo_cells (h.boxes _ hm)
theorem SL.sub {w0 W : World} {L L' : List (Value × (Bool × List Nat))} {G G' : List (Nat × Bool × Option Addr × Nat × Nat)} (h : SL w0 L G W) (hL : ∀ p ∈ L', p ∈ L) (hG : ∀ p ∈ G', p ∈ G) : SL w0 L' G' W :=
  ⟨fun p hp => h.vals p (hL p hp), fun p hp => h.boxes p (hG p hp), h.bel⟩
theorem SL.set {w0 W : World} {L : List (Value × (Bool × List Nat))} {G : List (Nat × Bool × Option Addr × Nat × Nat)} {g : Nat} {n : Bool} {a : Option Addr} {l c : Nat} (h : SL w0 L ((g, n, a, l, c) :: G) W) (hG : ∀ p ∈ G, p.1 ≠ g) (hg : w0.heap.size ≤ g) (n' : Bool) (a' : Option Addr) (l' c' : Nat) :
    SL w0 L ((g, n', a', l', c') :: G) ((W.setCell ⟨g, 0, none⟩ (.bool n')).setCell ⟨g, 1, none⟩ (.slice a' l' c')) := by
  have hb : W.heap[g]? = some (WO n a l c) := h.boxes _ List.mem_cons_self
  have hc : Chg (fun k => k = g) W ((W.setCell ⟨g, 0, none⟩ (.bool n')).setCell ⟨g, 1, none⟩ (.slice a' l' c')) := ((Chg.refl (fun k => k = g) _).setCell (p := ⟨g, 0, none⟩) rfl _).setCell (p := ⟨g, 1, none⟩) rfl _
  refine ⟨fun p hp => ?_, fun p hp => ?_, ((h.bel.setCell (p := ⟨g, 0, none⟩) hg _).setCell (p := ⟨g, 1, none⟩) hg _)⟩
  · obtain ⟨g1, c1, h1, h2⟩ := h.vals p hp
    exact ⟨g1, c1, h1, hc.owns h2 fun k hk he => row_not_held h2 ⟨_, _, _, _, hb⟩ hk he⟩
  · rcases List.mem_cons.1 hp with rfl | hp
    · have g1 := heap_setCell_same W g 0 _ _ (.bool n') hb
      exact heap_setCell_same _ g 1 _ _ (.slice a' l' c') g1
    · have h2 := h.boxes p (List.mem_cons_of_mem _ hp)
      rw [hc.block _ (lt_of_block h2) (hG p hp)]
      exact h2
def hspecL (w : World) (G : List (Nat × Bool × Option Addr × Nat × Nat)) (n : Nat) (vx : Nat → Value) (Z : Nat → Bool × List Nat) (j : Nat) (v : Value) (W : World) : Prop :=
  if j < 2 * n then (if j % 2 = 0 then v = vx (j / 2) else IsL w.heap.size W v (Z (j / 2))) else ∃ g, v = .pointer (some ⟨g, 0, none⟩) ∧ W.heap[g]? = some (WO false none 0 0) ∧ w.heap.size ≤ g ∧ ∀ p ∈ G, p.1 < g
theorem hspecL.below {w W W' : World} {G : List (Nat × Bool × Option Addr × Nat × Nat)} {n : Nat} {vx : Nat → Value} {Z : Nat → Bool × List Nat} {j : Nat} {v : Value} (h : hspecL w G n vx Z j v W) (hb : Below W.heap.size W W') : hspecL w G n vx Z j v W' := by
  unfold hspecL at *
  split
  · rename_i h1
    rw [if_pos h1] at h
    split
    · rename_i h2; rw [if_pos h2] at h; exact h
    · rename_i h2; rw [if_neg h2] at h; exact h.below hb
  · rename_i h1
    rw [if_neg h1] at h
    obtain ⟨g, h2, h3, h4⟩ := h
    exact ⟨g, h2, by rw [hb.block _ (lt_of_block h3)]; exact h3, h4⟩
structure PhL (w : World) (G : List (Nat × Bool × Option Addr × Nat × Nat)) (n : Nat) (vx : Nat → Value) (Z : Nat → Bool × List Nat) (L : Nat → Bool) (val : Nat → Value) (W : World) : Prop where
  st : SL w [] G W
  sp : ∀ j, j < 3 * n → L j = true → hspecL w G n vx Z j (val j) W
  ne : ∀ j k, 2 * n ≤ j → j < k → k < 3 * n → L j = true → L k = true → val j ≠ val k
  no : ∀ j, 3 * n ≤ j → L j = false
  cl : ∀ k, k < n → L (2 * k + 1) = true → L (2 * k) = true
  ch : ∀ k, k + 1 < n → L (2 * k + 3) = true → L (2 * k + 1) = true
theorem PhL.step {w W W' : World} {G : List (Nat × Bool × Option Addr × Nat × Nat)} {n : Nat} {vx : Nat → Value} {Z : Nat → Bool × List Nat} {L : Nat → Bool} {val : Nat → Value} (h : PhL w G n vx Z L val W) (i : Nat) (hi : i < 3 * n) (v : Value) (hb : Below W.heap.size W W') (hv : hspecL w G n vx Z i v W') (hnew : 2 * n ≤ i → v = .pointer (some ⟨W.heap.size, 0, none⟩)) (hcl : ∀ k, k < n → i = 2 * k + 1 → L (2 * k) = true) (hch : ∀ k, k + 1 < n → i = 2 * k + 3 → L (2 * k + 1) = true) : PhL w G n vx Z (upB L i) (upV val i v) W' := by
  have key : ∀ j, 2 * n ≤ j → j < 3 * n → L j = true → 2 * n ≤ i → val j ≠ v := by
    intro j h1 h2 h3 h4 he
    have h5 := h.sp j h2 h3
    unfold hspecL at h5
    rw [if_neg (by omega)] at h5
    obtain ⟨g, h6, h7, _⟩ := h5
    rw [hnew h4, h6] at he
    have := lt_of_block h7
    simp at he <;> omega
  refine ⟨h.st.below hb, fun j hj hL => ?_, fun j k h1 h2 h3 h4 h5 => ?_, fun j hj => ?_, fun k hk hL => ?_, fun k hk hL => ?_⟩
  · by_cases hji : j = i
    · subst hji; simpa [upV] using hv
    · have h1 : L j = true := by simpa [upB, hji] using hL
      have h2 := (h.sp j hj h1).below hb
      simpa [upV, hji] using h2
  · unfold upB at h4 h5
    unfold upV
    by_cases hji : j = i
    · by_cases hki : k = i
      · omega
      · rw [if_pos hji, if_neg hki]
        rw [if_neg hki] at h5
        exact fun e => key k (by omega) h3 h5 (by omega) e.symm
    · rw [if_neg hji] at h4
      by_cases hki : k = i
      · rw [if_neg hji, if_pos hki]
        exact key j h1 (by omega) h4 (by omega)
      · rw [if_neg hji, if_neg hki]
        rw [if_neg hki] at h5
        exact h.ne j k h1 h2 h3 h4 h5
  · have : j ≠ i := by omega
    simpa [upB, this] using h.no j hj
  · unfold upB at hL ⊢
    split
    · rfl
    · by_cases hki : 2 * k + 1 = i
      · exact hcl k hk hki.symm
      · rw [if_neg hki] at hL
        exact h.cl k hk hL
  · unfold upB at hL ⊢
    split
    · rfl
    · by_cases hki : 2 * k + 3 = i
      · exact hch k hk hki.symm
      · rw [if_neg hki] at hL
        exact h.ch k hk hL
theorem ptrL_ne {g k : Nat} (h : Value.pointer (some ⟨g, 0, none⟩) ≠ .pointer (some ⟨k, 0, none⟩)) : g ≠ k := fun e => h (by rw [e])
theorem SL.setAt {w0 W : World} {L : List (Value × (Bool × List Nat))} {G1 G2 : List (Nat × Bool × Option Addr × Nat × Nat)} {g : Nat} {n : Bool} {a : Option Addr} {l c : Nat} (h : SL w0 L (G1 ++ (g, n, a, l, c) :: G2) W) (h1 : ∀ p ∈ G1, p.1 ≠ g) (h2 : ∀ p ∈ G2, p.1 ≠ g) (hg : w0.heap.size ≤ g) (n' : Bool) (a' : Option Addr) (l' c' : Nat) :
    SL w0 L (G1 ++ (g, n', a', l', c') :: G2) ((W.setCell ⟨g, 0, none⟩ (.bool n')).setCell ⟨g, 1, none⟩ (.slice a' l' c')) := by
  have h3 := (h.sub (L' := L) (G' := (g, n, a, l, c) :: (G1 ++ G2)) (fun p hp => hp) (fun p hp => by simp only [List.mem_cons, List.mem_append] at hp ⊢; rcases hp with h | h | h <;> simp [h])).set (fun p hp => by rcases List.mem_append.1 hp with h | h; exact h1 p h; exact h2 p h) hg n' a' l' c'
  exact h3.sub (fun p hp => hp) (fun p hp => by simp only [List.mem_cons, List.mem_append] at hp ⊢; rcases hp with h | h | h <;> simp [h])
theorem PhL.init {w W : World} {G : List (Nat × Bool × Option Addr × Nat × Nat)} (n : Nat) (vx : Nat → Value) (Z : Nat → Bool × List Nat) (h : SL w [] G W) : PhL w G n vx Z (fun _ => false) (fun _ => undef) W :=
  ⟨h, fun _ _ h => (by cases h), fun _ _ _ _ _ h => (by cases h), fun _ _ => rfl, fun _ _ h => (by cases h), fun _ _ h => (by cases h)⟩
def FuL20 (w : World) (G : List (Nat × Bool × Option Addr × Nat × Nat)) (Z : Nat → Bool × List Nat) (L : Nat → Bool) (val : Nat → Value) (W : World) : Prop :=
  (∀ j, j < 6 → L j = true) ∧ (L 6 = false ∧ L 7 = false) ∧ ∃ (nA : Bool) (aA : Option Addr) (lA cA gA : Nat) (nB : Bool) (aB : Option Addr) (lB cB gB : Nat), val 1 = .agg #[.bool nA, .slice aA lA cA] ∧ val 4 = .pointer (some ⟨gA, 0, none⟩) ∧ val 3 = .agg #[.bool nB, .slice aB lB cB] ∧ val 5 = .pointer (some ⟨gB, 0, none⟩) ∧ SL w [(.agg #[.bool nB, .slice aB lB cB], Z 1), (.agg #[.bool nA, .slice aA lA cA], Z 0)] ((gA, false, none, 0, 0) :: (gB, false, none, 0, 0) :: G) W ∧ (gA ≠ gB) ∧ (w.heap.size ≤ gA ∧ ∀ p ∈ G, p.1 < gA) ∧ (w.heap.size ≤ gB ∧ ∀ p ∈ G, p.1 < gB)
def FuL21 (w : World) (G : List (Nat × Bool × Option Addr × Nat × Nat)) (Z : Nat → Bool × List Nat) (L : Nat → Bool) (val : Nat → Value) (W : World) : Prop :=
  (∀ j, j < 6 → L j = true) ∧ (L 6 = true ∧ L 7 = false) ∧ ∃ (nA : Bool) (aA : Option Addr) (lA cA gA : Nat) (nB : Bool) (aB : Option Addr) (lB cB gB : Nat), val 1 = .agg #[.bool nA, .slice aA lA cA] ∧ val 4 = .pointer (some ⟨gA, 0, none⟩) ∧ val 3 = .agg #[.bool nB, .slice aB lB cB] ∧ val 5 = .pointer (some ⟨gB, 0, none⟩) ∧ SL w [(.agg #[.bool nB, .slice aB lB cB], Z 1), (.agg #[.bool nA, .slice aA lA cA], Z 0)] ((gA, nA, aA, lA, cA) :: (gB, false, none, 0, 0) :: G) W ∧ (gA ≠ gB) ∧ (w.heap.size ≤ gA ∧ ∀ p ∈ G, p.1 < gA) ∧ (w.heap.size ≤ gB ∧ ∀ p ∈ G, p.1 < gB)
def FuL22 (w : World) (G : List (Nat × Bool × Option Addr × Nat × Nat)) (Z : Nat → Bool × List Nat) (L : Nat → Bool) (val : Nat → Value) (W : World) : Prop :=
  (∀ j, j < 6 → L j = true) ∧ (L 6 = true ∧ L 7 = true) ∧ ∃ (nA : Bool) (aA : Option Addr) (lA cA gA : Nat) (nB : Bool) (aB : Option Addr) (lB cB gB : Nat), val 1 = .agg #[.bool nA, .slice aA lA cA] ∧ val 4 = .pointer (some ⟨gA, 0, none⟩) ∧ val 3 = .agg #[.bool nB, .slice aB lB cB] ∧ val 5 = .pointer (some ⟨gB, 0, none⟩) ∧ SL w [(.agg #[.bool nB, .slice aB lB cB], Z 1), (.agg #[.bool nA, .slice aA lA cA], Z 0)] ((gA, nA, aA, lA, cA) :: (gB, nB, aB, lB, cB) :: G) W ∧ (gA ≠ gB) ∧ (w.heap.size ≤ gA ∧ ∀ p ∈ G, p.1 < gA) ∧ (w.heap.size ≤ gB ∧ ∀ p ∈ G, p.1 < gB)
theorem PhL.full2 {w W : World} {G : List (Nat × Bool × Option Addr × Nat × Nat)} {vx : Nat → Value} {Z : Nat → Bool × List Nat} {L : Nat → Bool} {val : Nat → Value} (h : PhL w G 2 vx Z L val W) (hL : ∀ j, j < 6 → L j = true) : FuL20 w G Z L val W := by
  have iA : IsL w.heap.size W (val 1) (Z 0) := h.sp 1 (by decide) (hL _ (by decide))
  obtain ⟨nA, aA, lA, cA, eA⟩ := iA.form
  obtain ⟨gA, pA, bA, qA⟩ : ∃ g, val 4 = .pointer (some ⟨g, 0, none⟩) ∧ W.heap[g]? = some (WO false none 0 0) ∧ (w.heap.size ≤ g ∧ ∀ p ∈ G, p.1 < g) := h.sp 4 (by decide) (hL _ (by decide))
  have iB : IsL w.heap.size W (val 3) (Z 1) := h.sp 3 (by decide) (hL _ (by decide))
  obtain ⟨nB, aB, lB, cB, eB⟩ := iB.form
  obtain ⟨gB, pB, bB, qB⟩ : ∃ g, val 5 = .pointer (some ⟨g, 0, none⟩) ∧ W.heap[g]? = some (WO false none 0 0) ∧ (w.heap.size ≤ g ∧ ∀ p ∈ G, p.1 < g) := h.sp 5 (by decide) (hL _ (by decide))
  rw [eA] at iA
  rw [eB] at iB
  have dAB : gA ≠ gB := ptrL_ne (pA ▸ pB ▸ h.ne 4 5 (by decide) (by decide) (by decide) (hL _ (by decide)) (hL _ (by decide)))
  have hS := ((h.st.push iA).push iB)
  refine ⟨hL, ⟨h.no 6 (by decide), h.no 7 (by decide)⟩, nA, aA, lA, cA, gA, nB, aB, lB, cB, gB, eA, pA, eB, pB, ⟨hS.vals, fun p hp => ?_, hS.bel⟩, dAB, qA, qB⟩
  simp only [List.mem_cons] at hp
  rcases hp with rfl | rfl | hp
  · exact bA
  · exact bB
  · exact hS.boxes p hp
end Go.Proofs.YtfjhmnbbjknflaaGreatDoor
