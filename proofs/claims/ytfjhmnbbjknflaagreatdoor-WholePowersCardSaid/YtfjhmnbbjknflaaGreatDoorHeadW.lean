import Derived.Test.YtfjhmnbbjknflaaGreatDoorWPow
import Derived.Test.YtfjhmnbbjknflaaGreatDoorRInv
namespace Go.Proofs.YtfjhmnbbjknflaaGreatDoor
open Go.RowKit

/-- What an operation of a head region leaves, ahead of the stores: a load, a call's number, a new block. -/
def hspec (w : World) (G : List (Nat × Bool × Option Addr × Nat × Nat)) (n : Nat) (vx : Nat → Value) (Z : Nat → Int) (j : Nat) (v : Value) (W : World) : Prop :=
  if j < 2 * n then (if j % 2 = 0 then v = vx (j / 2) else IsW w.heap.size W v (Z (j / 2))) else ∃ g, v = .pointer (some ⟨g, 0, none⟩) ∧ W.heap[g]? = some (WO false none 0 0) ∧ w.heap.size ≤ g ∧ ∀ p ∈ G, p.1 < g
theorem hspec.below {w W W' : World} {G : List (Nat × Bool × Option Addr × Nat × Nat)} {n : Nat} {vx : Nat → Value} {Z : Nat → Int} {j : Nat} {v : Value} (h : hspec w G n vx Z j v W) (hb : Below W.heap.size W W') : hspec w G n vx Z j v W' := by
  unfold hspec at *
  split
  · rename_i h1
    rw [if_pos h1] at h
    split
    · rename_i h2; rw [if_pos h2] at h; exact h
    · rename_i h2; rw [if_neg h2] at h; exact h.below hb
  · rename_i h1
    rw [if_neg h1] at h
    obtain ⟨g, h2, h3, h4⟩ := h
    exact ⟨g, h2, by rw [hb.block _ (lt_of_block h3)]; exact h3, h4⟩
/-- Ahead of the stores. -/
structure PhW1 (w : World) (G : List (Nat × Bool × Option Addr × Nat × Nat)) (n : Nat) (vx : Nat → Value) (Z : Nat → Int) (L : Nat → Bool) (val : Nat → Value) (W : World) : Prop where
  st : St w [] G W
  sp : ∀ j, j < 3 * n → L j = true → hspec w G n vx Z j (val j) W
  ne : ∀ j k, 2 * n ≤ j → j < k → k < 3 * n → L j = true → L k = true → val j ≠ val k
  no : ∀ j, 3 * n ≤ j → L j = false
  cl : ∀ k, k < n → L (2 * k + 1) = true → L (2 * k) = true
  ch : ∀ k, k + 1 < n → L (2 * k + 3) = true → L (2 * k + 1) = true
theorem PhW1.step {w W W' : World} {G : List (Nat × Bool × Option Addr × Nat × Nat)} {n : Nat} {vx : Nat → Value} {Z : Nat → Int} {L : Nat → Bool} {val : Nat → Value} (h : PhW1 w G n vx Z L val W) (i : Nat) (hi : i < 3 * n) (v : Value) (hb : Below W.heap.size W W') (hv : hspec w G n vx Z i v W') (hnew : 2 * n ≤ i → v = .pointer (some ⟨W.heap.size, 0, none⟩)) (hcl : ∀ k, k < n → i = 2 * k + 1 → L (2 * k) = true) (hch : ∀ k, k + 1 < n → i = 2 * k + 3 → L (2 * k + 1) = true) : PhW1 w G n vx Z (upB L i) (upV val i v) W' := by
  have key : ∀ j, 2 * n ≤ j → j < 3 * n → L j = true → 2 * n ≤ i → val j ≠ v := by
    intro j h1 h2 h3 h4 he
    have h5 := h.sp j h2 h3
    unfold hspec at h5
    rw [if_neg (by omega)] at h5
    obtain ⟨g, h6, h7, _⟩ := h5
    rw [hnew h4, h6] at he
    have := lt_of_block h7
    simp at he <;> omega
  refine ⟨h.st.below hb, fun j hj hL => ?_, fun j k h1 h2 h3 h4 h5 => ?_, fun j hj => ?_, fun k hk hL => ?_, fun k hk hL => ?_⟩
  · by_cases hji : j = i
    · subst hji; simpa [upV] using hv
    · have h1 : L j = true := by simpa [upB, hji] using hL
      have h2 := (h.sp j hj h1).below hb
      simpa [upV, hji] using h2
  · unfold upB at h4 h5
    unfold upV
    by_cases hji : j = i
    · by_cases hki : k = i
      · omega
      · rw [if_pos hji, if_neg hki]
        rw [if_neg hki] at h5
        exact fun e => key k (by omega) h3 h5 (by omega) e.symm
    · rw [if_neg hji] at h4
      by_cases hki : k = i
      · rw [if_neg hji, if_pos hki]
        exact key j h1 (by omega) h4 (by omega)
      · rw [if_neg hji, if_neg hki]
        rw [if_neg hki] at h5
        exact h.ne j k h1 h2 h3 h4 h5
  · have : j ≠ i := by omega
    simpa [upB, this] using h.no j hj
  · unfold upB at hL ⊢
    split
    · rfl
    · by_cases hki : 2 * k + 1 = i
      · exact hcl k hk hki.symm
      · rw [if_neg hki] at hL
        exact h.cl k hk hL
  · unfold upB at hL ⊢
    split
    · rfl
    · by_cases hki : 2 * k + 3 = i
      · exact hch k hk hki.symm
      · rw [if_neg hki] at hL
        exact h.ch k hk hL
theorem ptr_ne {g k : Nat} (h : Value.pointer (some ⟨g, 0, none⟩) ≠ .pointer (some ⟨k, 0, none⟩)) : g ≠ k := fun e => h (by rw [e])
theorem St.setAt {w0 W : World} {L : List (Value × Int)} {G1 G2 : List (Nat × Bool × Option Addr × Nat × Nat)} {g : Nat} {n : Bool} {a : Option Addr} {l c : Nat} (h : St w0 L (G1 ++ (g, n, a, l, c) :: G2) W) (h1 : ∀ p ∈ G1, p.1 ≠ g) (h2 : ∀ p ∈ G2, p.1 ≠ g) (hg : w0.heap.size ≤ g) (n' : Bool) (a' : Option Addr) (l' c' : Nat) :
    St w0 L (G1 ++ (g, n', a', l', c') :: G2) ((W.setCell ⟨g, 0, none⟩ (.bool n')).setCell ⟨g, 1, none⟩ (.slice a' l' c')) := by
  have h3 := (h.sub (L' := L) (G' := (g, n, a, l, c) :: (G1 ++ G2)) (fun p hp => hp) (fun p hp => by simp only [List.mem_cons, List.mem_append] at hp ⊢; rcases hp with h | h | h <;> simp [h])).set (fun p hp => by rcases List.mem_append.1 hp with h | h; exact h1 p h; exact h2 p h) hg n' a' l' c'
  exact h3.sub (fun p hp => hp) (fun p hp => by simp only [List.mem_cons, List.mem_append] at hp ⊢; rcases hp with h | h | h <;> simp [h])
theorem PhW1.init {w W : World} {G : List (Nat × Bool × Option Addr × Nat × Nat)} (n : Nat) (vx : Nat → Value) (Z : Nat → Int) (h : St w [] G W) : PhW1 w G n vx Z (fun _ => false) (fun _ => undef) W :=
  ⟨h, fun _ _ h => (by cases h), fun _ _ _ _ _ h => (by cases h), fun _ _ => rfl, fun _ _ h => (by cases h), fun _ _ h => (by cases h)⟩

/-- Behind 0 of 2 stores. -/
def Ful20 (w : World) (G : List (Nat × Bool × Option Addr × Nat × Nat)) (Z : Nat → Int) (L : Nat → Bool) (val : Nat → Value) (W : World) : Prop :=
  (∀ j, j < 6 → L j = true) ∧ (L 6 = false ∧ L 7 = false) ∧ ∃ (nA : Bool) (aA : Option Addr) (lA cA gA : Nat) (nB : Bool) (aB : Option Addr) (lB cB gB : Nat), val 1 = .agg #[.bool nA, .slice aA lA cA] ∧ val 4 = .pointer (some ⟨gA, 0, none⟩) ∧ val 3 = .agg #[.bool nB, .slice aB lB cB] ∧ val 5 = .pointer (some ⟨gB, 0, none⟩) ∧ St w [(.agg #[.bool nB, .slice aB lB cB], Z 1), (.agg #[.bool nA, .slice aA lA cA], Z 0)] ((gA, false, none, 0, 0) :: (gB, false, none, 0, 0) :: G) W ∧ (gA ≠ gB) ∧ (w.heap.size ≤ gA ∧ ∀ p ∈ G, p.1 < gA) ∧ (w.heap.size ≤ gB ∧ ∀ p ∈ G, p.1 < gB)

/-- Behind 1 of 2 stores. -/
def Ful21 (w : World) (G : List (Nat × Bool × Option Addr × Nat × Nat)) (Z : Nat → Int) (L : Nat → Bool) (val : Nat → Value) (W : World) : Prop :=
  (∀ j, j < 6 → L j = true) ∧ (L 6 = true ∧ L 7 = false) ∧ ∃ (nA : Bool) (aA : Option Addr) (lA cA gA : Nat) (nB : Bool) (aB : Option Addr) (lB cB gB : Nat), val 1 = .agg #[.bool nA, .slice aA lA cA] ∧ val 4 = .pointer (some ⟨gA, 0, none⟩) ∧ val 3 = .agg #[.bool nB, .slice aB lB cB] ∧ val 5 = .pointer (some ⟨gB, 0, none⟩) ∧ St w [(.agg #[.bool nB, .slice aB lB cB], Z 1), (.agg #[.bool nA, .slice aA lA cA], Z 0)] ((gA, nA, aA, lA, cA) :: (gB, false, none, 0, 0) :: G) W ∧ (gA ≠ gB) ∧ (w.heap.size ≤ gA ∧ ∀ p ∈ G, p.1 < gA) ∧ (w.heap.size ≤ gB ∧ ∀ p ∈ G, p.1 < gB)

/-- Behind 2 of 2 stores. -/
def Ful22 (w : World) (G : List (Nat × Bool × Option Addr × Nat × Nat)) (Z : Nat → Int) (L : Nat → Bool) (val : Nat → Value) (W : World) : Prop :=
  (∀ j, j < 6 → L j = true) ∧ (L 6 = true ∧ L 7 = true) ∧ ∃ (nA : Bool) (aA : Option Addr) (lA cA gA : Nat) (nB : Bool) (aB : Option Addr) (lB cB gB : Nat), val 1 = .agg #[.bool nA, .slice aA lA cA] ∧ val 4 = .pointer (some ⟨gA, 0, none⟩) ∧ val 3 = .agg #[.bool nB, .slice aB lB cB] ∧ val 5 = .pointer (some ⟨gB, 0, none⟩) ∧ St w [(.agg #[.bool nB, .slice aB lB cB], Z 1), (.agg #[.bool nA, .slice aA lA cA], Z 0)] ((gA, nA, aA, lA, cA) :: (gB, nB, aB, lB, cB) :: G) W ∧ (gA ≠ gB) ∧ (w.heap.size ≤ gA ∧ ∀ p ∈ G, p.1 < gA) ∧ (w.heap.size ≤ gB ∧ ∀ p ∈ G, p.1 < gB)
theorem PhW1.full2 {w W : World} {G : List (Nat × Bool × Option Addr × Nat × Nat)} {vx : Nat → Value} {Z : Nat → Int} {L : Nat → Bool} {val : Nat → Value} (h : PhW1 w G 2 vx Z L val W) (hL : ∀ j, j < 6 → L j = true) : Ful20 w G Z L val W := by
  have iA : IsW w.heap.size W (val 1) (Z 0) := h.sp 1 (by decide) (hL _ (by decide))
  obtain ⟨nA, aA, lA, cA, eA⟩ := iA.form
  obtain ⟨gA, pA, bA, qA⟩ : ∃ g, val 4 = .pointer (some ⟨g, 0, none⟩) ∧ W.heap[g]? = some (WO false none 0 0) ∧ (w.heap.size ≤ g ∧ ∀ p ∈ G, p.1 < g) := h.sp 4 (by decide) (hL _ (by decide))
  have iB : IsW w.heap.size W (val 3) (Z 1) := h.sp 3 (by decide) (hL _ (by decide))
  obtain ⟨nB, aB, lB, cB, eB⟩ := iB.form
  obtain ⟨gB, pB, bB, qB⟩ : ∃ g, val 5 = .pointer (some ⟨g, 0, none⟩) ∧ W.heap[g]? = some (WO false none 0 0) ∧ (w.heap.size ≤ g ∧ ∀ p ∈ G, p.1 < g) := h.sp 5 (by decide) (hL _ (by decide))
  rw [eA] at iA
  rw [eB] at iB
  have dAB : gA ≠ gB := ptr_ne (pA ▸ pB ▸ h.ne 4 5 (by decide) (by decide) (by decide) (hL _ (by decide)) (hL _ (by decide)))
  have hS := ((h.st.push iA).push iB)
  refine ⟨hL, ⟨h.no 6 (by decide), h.no 7 (by decide)⟩, nA, aA, lA, cA, gA, nB, aB, lB, cB, gB, eA, pA, eB, pB, ⟨hS.vals, fun p hp => ?_, hS.bel⟩, dAB, qA, qB⟩
  simp only [List.mem_cons] at hp
  rcases hp with rfl | rfl | hp
  · exact bA
  · exact bB
  · exact hS.boxes p hp

/-- Behind 0 of 3 stores. -/
def Ful30 (w : World) (G : List (Nat × Bool × Option Addr × Nat × Nat)) (Z : Nat → Int) (L : Nat → Bool) (val : Nat → Value) (W : World) : Prop :=
  (∀ j, j < 9 → L j = true) ∧ (L 9 = false ∧ L 10 = false ∧ L 11 = false) ∧ ∃ (nA : Bool) (aA : Option Addr) (lA cA gA : Nat) (nB : Bool) (aB : Option Addr) (lB cB gB : Nat) (nC : Bool) (aC : Option Addr) (lC cC gC : Nat), val 1 = .agg #[.bool nA, .slice aA lA cA] ∧ val 6 = .pointer (some ⟨gA, 0, none⟩) ∧ val 3 = .agg #[.bool nB, .slice aB lB cB] ∧ val 7 = .pointer (some ⟨gB, 0, none⟩) ∧ val 5 = .agg #[.bool nC, .slice aC lC cC] ∧ val 8 = .pointer (some ⟨gC, 0, none⟩) ∧ St w [(.agg #[.bool nC, .slice aC lC cC], Z 2), (.agg #[.bool nB, .slice aB lB cB], Z 1), (.agg #[.bool nA, .slice aA lA cA], Z 0)] ((gA, false, none, 0, 0) :: (gB, false, none, 0, 0) :: (gC, false, none, 0, 0) :: G) W ∧ (gA ≠ gB ∧ gA ≠ gC ∧ gB ≠ gC) ∧ (w.heap.size ≤ gA ∧ ∀ p ∈ G, p.1 < gA) ∧ (w.heap.size ≤ gB ∧ ∀ p ∈ G, p.1 < gB) ∧ (w.heap.size ≤ gC ∧ ∀ p ∈ G, p.1 < gC)

/-- Behind 1 of 3 stores. -/
def Ful31 (w : World) (G : List (Nat × Bool × Option Addr × Nat × Nat)) (Z : Nat → Int) (L : Nat → Bool) (val : Nat → Value) (W : World) : Prop :=
  (∀ j, j < 9 → L j = true) ∧ (L 9 = true ∧ L 10 = false ∧ L 11 = false) ∧ ∃ (nA : Bool) (aA : Option Addr) (lA cA gA : Nat) (nB : Bool) (aB : Option Addr) (lB cB gB : Nat) (nC : Bool) (aC : Option Addr) (lC cC gC : Nat), val 1 = .agg #[.bool nA, .slice aA lA cA] ∧ val 6 = .pointer (some ⟨gA, 0, none⟩) ∧ val 3 = .agg #[.bool nB, .slice aB lB cB] ∧ val 7 = .pointer (some ⟨gB, 0, none⟩) ∧ val 5 = .agg #[.bool nC, .slice aC lC cC] ∧ val 8 = .pointer (some ⟨gC, 0, none⟩) ∧ St w [(.agg #[.bool nC, .slice aC lC cC], Z 2), (.agg #[.bool nB, .slice aB lB cB], Z 1), (.agg #[.bool nA, .slice aA lA cA], Z 0)] ((gA, nA, aA, lA, cA) :: (gB, false, none, 0, 0) :: (gC, false, none, 0, 0) :: G) W ∧ (gA ≠ gB ∧ gA ≠ gC ∧ gB ≠ gC) ∧ (w.heap.size ≤ gA ∧ ∀ p ∈ G, p.1 < gA) ∧ (w.heap.size ≤ gB ∧ ∀ p ∈ G, p.1 < gB) ∧ (w.heap.size ≤ gC ∧ ∀ p ∈ G, p.1 < gC)

/-- Behind 2 of 3 stores. -/
def Ful32 (w : World) (G : List (Nat × Bool × Option Addr × Nat × Nat)) (Z : Nat → Int) (L : Nat → Bool) (val : Nat → Value) (W : World) : Prop :=
  (∀ j, j < 9 → L j = true) ∧ (L 9 = true ∧ L 10 = true ∧ L 11 = false) ∧ ∃ (nA : Bool) (aA : Option Addr) (lA cA gA : Nat) (nB : Bool) (aB : Option Addr) (lB cB gB : Nat) (nC : Bool) (aC : Option Addr) (lC cC gC : Nat), val 1 = .agg #[.bool nA, .slice aA lA cA] ∧ val 6 = .pointer (some ⟨gA, 0, none⟩) ∧ val 3 = .agg #[.bool nB, .slice aB lB cB] ∧ val 7 = .pointer (some ⟨gB, 0, none⟩) ∧ val 5 = .agg #[.bool nC, .slice aC lC cC] ∧ val 8 = .pointer (some ⟨gC, 0, none⟩) ∧ St w [(.agg #[.bool nC, .slice aC lC cC], Z 2), (.agg #[.bool nB, .slice aB lB cB], Z 1), (.agg #[.bool nA, .slice aA lA cA], Z 0)] ((gA, nA, aA, lA, cA) :: (gB, nB, aB, lB, cB) :: (gC, false, none, 0, 0) :: G) W ∧ (gA ≠ gB ∧ gA ≠ gC ∧ gB ≠ gC) ∧ (w.heap.size ≤ gA ∧ ∀ p ∈ G, p.1 < gA) ∧ (w.heap.size ≤ gB ∧ ∀ p ∈ G, p.1 < gB) ∧ (w.heap.size ≤ gC ∧ ∀ p ∈ G, p.1 < gC)

/-- Behind 3 of 3 stores. -/
def Ful33 (w : World) (G : List (Nat × Bool × Option Addr × Nat × Nat)) (Z : Nat → Int) (L : Nat → Bool) (val : Nat → Value) (W : World) : Prop :=
  (∀ j, j < 9 → L j = true) ∧ (L 9 = true ∧ L 10 = true ∧ L 11 = true) ∧ ∃ (nA : Bool) (aA : Option Addr) (lA cA gA : Nat) (nB : Bool) (aB : Option Addr) (lB cB gB : Nat) (nC : Bool) (aC : Option Addr) (lC cC gC : Nat), val 1 = .agg #[.bool nA, .slice aA lA cA] ∧ val 6 = .pointer (some ⟨gA, 0, none⟩) ∧ val 3 = .agg #[.bool nB, .slice aB lB cB] ∧ val 7 = .pointer (some ⟨gB, 0, none⟩) ∧ val 5 = .agg #[.bool nC, .slice aC lC cC] ∧ val 8 = .pointer (some ⟨gC, 0, none⟩) ∧ St w [(.agg #[.bool nC, .slice aC lC cC], Z 2), (.agg #[.bool nB, .slice aB lB cB], Z 1), (.agg #[.bool nA, .slice aA lA cA], Z 0)] ((gA, nA, aA, lA, cA) :: (gB, nB, aB, lB, cB) :: (gC, nC, aC, lC, cC) :: G) W ∧ (gA ≠ gB ∧ gA ≠ gC ∧ gB ≠ gC) ∧ (w.heap.size ≤ gA ∧ ∀ p ∈ G, p.1 < gA) ∧ (w.heap.size ≤ gB ∧ ∀ p ∈ G, p.1 < gB) ∧ (w.heap.size ≤ gC ∧ ∀ p ∈ G, p.1 < gC)
theorem PhW1.full3 {w W : World} {G : List (Nat × Bool × Option Addr × Nat × Nat)} {vx : Nat → Value} {Z : Nat → Int} {L : Nat → Bool} {val : Nat → Value} (h : PhW1 w G 3 vx Z L val W) (hL : ∀ j, j < 9 → L j = true) : Ful30 w G Z L val W := by
  have iA : IsW w.heap.size W (val 1) (Z 0) := h.sp 1 (by decide) (hL _ (by decide))
  obtain ⟨nA, aA, lA, cA, eA⟩ := iA.form
  obtain ⟨gA, pA, bA, qA⟩ : ∃ g, val 6 = .pointer (some ⟨g, 0, none⟩) ∧ W.heap[g]? = some (WO false none 0 0) ∧ (w.heap.size ≤ g ∧ ∀ p ∈ G, p.1 < g) := h.sp 6 (by decide) (hL _ (by decide))
  have iB : IsW w.heap.size W (val 3) (Z 1) := h.sp 3 (by decide) (hL _ (by decide))
  obtain ⟨nB, aB, lB, cB, eB⟩ := iB.form
  obtain ⟨gB, pB, bB, qB⟩ : ∃ g, val 7 = .pointer (some ⟨g, 0, none⟩) ∧ W.heap[g]? = some (WO false none 0 0) ∧ (w.heap.size ≤ g ∧ ∀ p ∈ G, p.1 < g) := h.sp 7 (by decide) (hL _ (by decide))
  have iC : IsW w.heap.size W (val 5) (Z 2) := h.sp 5 (by decide) (hL _ (by decide))
  obtain ⟨nC, aC, lC, cC, eC⟩ := iC.form
  obtain ⟨gC, pC, bC, qC⟩ : ∃ g, val 8 = .pointer (some ⟨g, 0, none⟩) ∧ W.heap[g]? = some (WO false none 0 0) ∧ (w.heap.size ≤ g ∧ ∀ p ∈ G, p.1 < g) := h.sp 8 (by decide) (hL _ (by decide))
  rw [eA] at iA
  rw [eB] at iB
  rw [eC] at iC
  have dAB : gA ≠ gB := ptr_ne (pA ▸ pB ▸ h.ne 6 7 (by decide) (by decide) (by decide) (hL _ (by decide)) (hL _ (by decide)))
  have dAC : gA ≠ gC := ptr_ne (pA ▸ pC ▸ h.ne 6 8 (by decide) (by decide) (by decide) (hL _ (by decide)) (hL _ (by decide)))
  have dBC : gB ≠ gC := ptr_ne (pB ▸ pC ▸ h.ne 7 8 (by decide) (by decide) (by decide) (hL _ (by decide)) (hL _ (by decide)))
  have hS := (((h.st.push iA).push iB).push iC)
  refine ⟨hL, ⟨h.no 9 (by decide), h.no 10 (by decide), h.no 11 (by decide)⟩, nA, aA, lA, cA, gA, nB, aB, lB, cB, gB, nC, aC, lC, cC, gC, eA, pA, eB, pB, eC, pC, ⟨hS.vals, fun p hp => ?_, hS.bel⟩, ⟨dAB, dAC, dBC⟩, qA, qB, qC⟩
  simp only [List.mem_cons] at hp
  rcases hp with rfl | rfl | rfl | hp
  · exact bA
  · exact bB
  · exact bC
  · exact hS.boxes p hp

end Go.Proofs.YtfjhmnbbjknflaaGreatDoor
