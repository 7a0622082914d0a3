import Derived.Test.YtaookoejdnkkoaaDoorQ01
namespace Go.Proofs.YtaookoejdnkkoaaDoor
open Go.RowKit

/-- The book: its two lists, the lists in them. -/
structure BkI (w0 w : World) (B bk T nw nb : Nat) (vw vb : Value) (S U : Nat → Value) (N M : Nat → Nat) (r : Nat → Rw) : Prop where
  book : w.heap[bk]? = some (.cells #[vw, vb] T (0, 0))
  fam : Fam w B (4 + nw + nb) r
  off : ∀ i, i < 4 + nw + nb → (r i).v.ownBlock ≠ some bk
  r0 : r 0 = ⟨vw, 28, nw, (List.range nw).map S⟩
  r1 : r 1 = ⟨vb, 24, nb, (List.range nb).map U⟩
  rw : ∀ i, i < nw → (r (4 + i)).E = 22
  rb : ∀ i, i < nb → (r (4 + nw + i)).E = 5
  chg : Chg (fun k => B ≤ k) w0 w


/-- The lists' rows as they were told. -/
def SvU (nw nb : Nat) (S U : Nat → Value) (N M : Nat → Nat) (r : Nat → Rw) : Prop :=
  (∀ i, i < nw → (r (4 + i)).v = S i ∧ (r (4 + i)).n = N i) ∧ (∀ i, i < nb → (r (4 + nw + i)).v = U i ∧ (r (4 + nw + i)).n = M i) ∧ True

section
variable {w0 w : World} {B bk T nw nb : Nat} {vw vb : Value} {S U : Nat → Value} {N M : Nat → Nat} {r : Nat → Rw}

theorem BkI.c0 (h : BkI w0 w B bk T nw nb vw vb S U N M r) : w.cell? ⟨bk, 0, none⟩ = some vw := by simp [World.cell?, h.book]
theorem BkI.c1 (h : BkI w0 w B bk T nw nb vw vb S U N M r) : w.cell? ⟨bk, 1, none⟩ = some vb := by simp [World.cell?, h.book]
theorem BkI.own0 (h : BkI w0 w B bk T nw nb vw vb S U N M r) : w.ownsRow B 28 1 vw nw ((List.range nw).map S) := by
  have := h.fam.own 0 (by omega)
  rw [h.r0] at this
  exact this
theorem BkI.own1 (h : BkI w0 w B bk T nw nb vw vb S U N M r) : w.ownsRow B 24 1 vb nb ((List.range nb).map U) := by
  have := h.fam.own 1 (by omega)
  rw [h.r1] at this
  exact this
theorem Chg.drewN {S : Nat → Prop} {a w : World} (h : Chg S a w) (n : Nat) : Chg S a (w.drewN n) := ⟨h.os, h.tape, h.output, h.size, h.block⟩
theorem BkI.still (h : BkI w0 w B bk T nw nb vw vb S U N M r) {w' : World} (hc : Chg (fun _ => False) w w') : BkI w0 w' B bk T nw nb vw vb S U N M r :=
  ⟨hc.heap h.book (fun e => e), h.fam.chg hc (fun _ _ _ _ e => e), h.off, h.r0, h.r1, h.rw, h.rb, h.chg.step hc (fun _ e _ => e.elim)⟩
theorem BkI.drew (h : BkI w0 w B bk T nw nb vw vb S U N M r) : BkI w0 w.drew B bk T nw nb vw vb S U N M r := h.still (Chg.refl _ _).drew
theorem BkI.app (h : BkI w0 w B bk T nw nb vw vb S U N M r) {p g n' cap : Nat} {xs' : List Value} {w' : World} (hp : p < 4 + nw + nb) (h2 : 2 ≤ p)
    (hc : Chg (fun k => some k = (r p).v.ownBlock) w w') (ho : w'.ownsRow B (r p).E 1 (.slice (some ⟨g, 0, none⟩) n' cap) n' xs') (hb : (r p).v.ownBlock = some g ∨ w.heap.size ≤ g) :
    BkI w0 w' B bk T nw nb vw vb S U N M (updR r p ⟨.slice (some ⟨g, 0, none⟩) n' cap, (r p).E, n', xs'⟩) := by
  have hbl := lt_of_block h.book
  refine ⟨hc.heap h.book (fun e => h.off p hp e.symm), h.fam.put hp hc ho (fun k hk => ?_), fun i hi => ?_, ?_, ?_, fun i hi => ?_, fun i hi => ?_, h.chg.step hc (fun i hi _ => ((h.fam.own p hp).lt i hi.symm).1)⟩
  · obtain rfl : g = k := by simpa [Value.ownBlock] using hk
    exact hb
  · by_cases e : i = p
    · subst e
      rw [updR_same]
      intro e2
      obtain rfl : g = bk := by simpa [Value.ownBlock] using e2
      rcases hb with hb | hb
      · exact h.off i hi hb
      · omega
    · rw [updR_ne _ _ e]; exact h.off i hi
  · rw [updR_ne _ _ (by omega)]; exact h.r0
  · rw [updR_ne _ _ (by omega)]; exact h.r1
  · by_cases e : 4 + i = p
    · subst e; rw [updR_same]; exact h.rw i hi
    · rw [updR_ne _ _ e]; exact h.rw i hi
  · by_cases e : 4 + nw + i = p
    · subst e; rw [updR_same]; exact h.rb i hi
    · rw [updR_ne _ _ e]; exact h.rb i hi
theorem BkI.store (h : BkI w0 w B bk T nw nb vw vb S U N M r) {p g n c : Nat} (hp : p < 4 + nw + nb) (h2 : 2 ≤ p) (hv : (r p).v = .slice (some ⟨g, 0, none⟩) n c) (hn : (r p).n = n) (j : Nat) (u : Value) :
    BkI w0 (w.setCell ⟨g, j, none⟩ u) B bk T nw nb vw vb S U N M (updR r p { r p with xs := (r p).xs.set j u }) := by
  have hg : (r p).v.ownBlock = some g := by rw [hv]; rfl
  have hBg : B ≤ g := ((h.fam.own p hp).lt g hg).1
  have hne : g ≠ bk := fun e => h.off p hp (by rw [hg, e])
  refine ⟨?_, h.fam.store hp hv hn j u, fun i hi => ?_, ?_, ?_, fun i hi => ?_, fun i hi => ?_, h.chg.setCell (p := ⟨g, j, none⟩) hBg u⟩
  · rw [Below.heap_setCell _ _ _ _ (by simpa using Ne.symm hne)]; exact h.book
  · by_cases e : i = p
    · subst e; rw [updR_same]; exact h.off i hi
    · rw [updR_ne _ _ e]; exact h.off i hi
  · rw [updR_ne _ _ (by omega)]; exact h.r0
  · rw [updR_ne _ _ (by omega)]; exact h.r1
  · by_cases e : 4 + i = p
    · subst e; rw [updR_same]; exact h.rw i hi
    · rw [updR_ne _ _ e]; exact h.rw i hi
  · by_cases e : 4 + nw + i = p
    · subst e; rw [updR_same]; exact h.rb i hi
    · rw [updR_ne _ _ e]; exact h.rb i hi
theorem SvU.store (h : SvU nw nb S U N M r) {p : Nat} (xs : List Value) : SvU nw nb S U N M (updR r p { r p with xs := xs }) := by
  have key : ∀ i, (updR r p { r p with xs := xs } i).v = (r i).v ∧ (updR r p { r p with xs := xs } i).n = (r i).n := by
    intro i
    by_cases e : i = p
    · subst e; rw [updR_same]; exact ⟨rfl, rfl⟩
    · rw [updR_ne _ _ e]; exact ⟨rfl, rfl⟩
  refine ⟨fun i hi => ?_, fun i hi => ?_, trivial⟩
  · rw [(key _).1, (key _).2]; exact h.1 i hi
  · rw [(key _).1, (key _).2]; exact h.2.1 i hi
end

/-- One more mark. -/
theorem take_set_mark (xs : List Value) (f : Nat → Value) (n j : Nat) (hl : xs.length = n) (hj : j < n) (h : xs.take j = ((List.range n).map f).take j) :
    (xs.set j (f j)).take (j + 1) = ((List.range n).map f).take (j + 1) := by
  rw [List.take_add_one, List.take_add_one, List.take_set_of_le (Nat.le_refl j), h]
  simp [hl, hj]


/-- The walk's states: marks in the first k lists of words; of bytes; each list longer by 64 marks; all. -/
def Ph1 (nw nb : Nat) (S U : Nat → Value) (N M : Nat → Nat) (k : Nat) (r : Nat → Rw) : Prop :=
  SvU nw nb S U N M r ∧ r 2 = ⟨.slice none 0 0, 28, 0, []⟩ ∧ r 3 = ⟨.slice none 0 0, 24, 0, []⟩ ∧ ∀ i, i < k → (r (4 + i)).xs = ms64 i (N i)
def Ph2 (nw nb : Nat) (S U : Nat → Value) (N M : Nat → Nat) (k : Nat) (r : Nat → Rw) : Prop := Ph1 nw nb S U N M nw r ∧ ∀ i, i < k → (r (4 + nw + i)).xs = ms8 i (M i)
theorem Ph1.set {nw nb k p : Nat} {S U : Nat → Value} {N M : Nat → Nat} {r : Nat → Rw} (h : Ph1 nw nb S U N M k r) (hp : 4 + k ≤ p) (xs : List Value) : Ph1 nw nb S U N M k (updR r p { r p with xs := xs }) :=
  ⟨h.1.store xs, by rw [updR_ne _ _ (by omega)]; exact h.2.1, by rw [updR_ne _ _ (by omega)]; exact h.2.2.1, fun i hi => by rw [updR_ne _ _ (by omega)]; exact h.2.2.2 i hi⟩
theorem Ph2.set {nw nb k : Nat} {S U : Nat → Value} {N M : Nat → Nat} {r : Nat → Rw} (h : Ph2 nw nb S U N M k r) (xs : List Value) : Ph2 nw nb S U N M k (updR r (4 + nw + k) { r (4 + nw + k) with xs := xs }) :=
  ⟨h.1.set (by omega) xs, fun i hi => by rw [updR_ne _ _ (by omega)]; exact h.2 i hi⟩
def Ph3 (nw nb : Nat) (S U : Nat → Value) (N M : Nat → Nat) (k : Nat) (W : Value) (r : Nat → Rw) : Prop :=
  (∀ i, k ≤ i → i < nw → (r (4 + i)).v = S i ∧ (r (4 + i)).n = N i ∧ (r (4 + i)).xs = ms64 i (N i)) ∧ (∀ i, i < k → (r (4 + i)).n = N i + 64 ∧ (r (4 + i)).xs = ms64 i (N i + 64)) ∧
  (∀ i, i < nb → (r (4 + nw + i)).v = U i ∧ (r (4 + nw + i)).n = M i ∧ (r (4 + nw + i)).xs = ms8 i (M i)) ∧
  r 2 = ⟨W, 28, k, (List.range k).map fun i => (r (4 + i)).v⟩ ∧ r 3 = ⟨.slice none 0 0, 24, 0, []⟩
def Ph4 (nw nb : Nat) (U : Nat → Value) (N M : Nat → Nat) (k : Nat) (W X : Value) (r : Nat → Rw) : Prop :=
  (∀ i, i < nw → (r (4 + i)).n = N i + 64 ∧ (r (4 + i)).xs = ms64 i (N i + 64)) ∧
  (∀ i, k ≤ i → i < nb → (r (4 + nw + i)).v = U i ∧ (r (4 + nw + i)).n = M i ∧ (r (4 + nw + i)).xs = ms8 i (M i)) ∧ (∀ i, i < k → (r (4 + nw + i)).n = M i + 64 ∧ (r (4 + nw + i)).xs = ms8 i (M i + 64)) ∧
  r 2 = ⟨W, 28, nw, (List.range nw).map fun i => (r (4 + i)).v⟩ ∧ r 3 = ⟨X, 24, k, (List.range k).map fun i => (r (4 + nw + i)).v⟩

theorem ms64_snoc (k n : Nat) : ms64 k (n + 1) = ms64 k n ++ [.int .u64 (mk k n)] := by unfold ms64; rw [List.range_succ]; simp
theorem ms8_snoc (k n : Nat) : ms8 k (n + 1) = ms8 k n ++ [.int .u8 (IntKind.u8.wrap (mk k n))] := by unfold ms8; rw [List.range_succ]; simp
theorem ms64_get (k n j : Nat) (h : j < n) : (ms64 k n)[j]? = some (.int .u64 (mk k j)) := by simp [ms64, h]
theorem ms8_get (k n j : Nat) (h : j < n) : (ms8 k n)[j]? = some (.int .u8 (IntKind.u8.wrap (mk k j))) := by simp [ms8, h]
/-- A list of one value more. -/
theorem list_more (f : Nat → Value) (k : Nat) : (List.range k).map f ++ [f k] = (List.range (k + 1)).map f := by rw [List.range_succ]; simp
theorem list_updR (r : Nat → Rw) (k c p : Nat) (x : Rw) (h : ∀ i, i < k → c + i ≠ p) : ((List.range k).map fun i => (updR r p x (c + i)).v) = (List.range k).map fun i => (r (c + i)).v := by
  apply List.map_congr_left
  intro i hi
  rw [updR_ne _ _ (h i (by simpa using hi))]

def Ph3i (nw nb : Nat) (S U : Nat → Value) (N M : Nat → Nat) (k j : Nat) (W v : Value) (r : Nat → Rw) : Prop :=
  (∀ i, k < i → i < nw → (r (4 + i)).v = S i ∧ (r (4 + i)).n = N i ∧ (r (4 + i)).xs = ms64 i (N i)) ∧ (∀ i, i < k → (r (4 + i)).n = N i + 64 ∧ (r (4 + i)).xs = ms64 i (N i + 64)) ∧
  ((r (4 + k)).v = v ∧ (r (4 + k)).n = N k + j ∧ (r (4 + k)).xs = ms64 k (N k + j)) ∧
  (∀ i, i < nb → (r (4 + nw + i)).v = U i ∧ (r (4 + nw + i)).n = M i ∧ (r (4 + nw + i)).xs = ms8 i (M i)) ∧
  r 2 = ⟨W, 28, k, (List.range k).map fun i => (r (4 + i)).v⟩ ∧ r 3 = ⟨.slice none 0 0, 24, 0, []⟩
def Ph4i (nw nb : Nat) (U : Nat → Value) (N M : Nat → Nat) (k j : Nat) (W X v : Value) (r : Nat → Rw) : Prop :=
  (∀ i, k < i → i < nb → (r (4 + nw + i)).v = U i ∧ (r (4 + nw + i)).n = M i ∧ (r (4 + nw + i)).xs = ms8 i (M i)) ∧ (∀ i, i < k → (r (4 + nw + i)).n = M i + 64 ∧ (r (4 + nw + i)).xs = ms8 i (M i + 64)) ∧
  ((r (4 + nw + k)).v = v ∧ (r (4 + nw + k)).n = M k + j ∧ (r (4 + nw + k)).xs = ms8 k (M k + j)) ∧
  (∀ i, i < nw → (r (4 + i)).n = N i + 64 ∧ (r (4 + i)).xs = ms64 i (N i + 64)) ∧
  r 2 = ⟨W, 28, nw, (List.range nw).map fun i => (r (4 + i)).v⟩ ∧ r 3 = ⟨X, 24, k, (List.range k).map fun i => (r (4 + nw + i)).v⟩
section
variable {nw nb k j : Nat} {S U : Nat → Value} {N M : Nat → Nat} {W X v : Value} {r : Nat → Rw}
theorem Ph2.ph3 (h : Ph2 nw nb S U N M nb r) : Ph3 nw nb S U N M 0 (.slice none 0 0) r :=
  ⟨fun i _ hi => ⟨(h.1.1.1 i hi).1, (h.1.1.1 i hi).2, h.1.2.2.2 i hi⟩, fun i hi => by omega, fun i hi => ⟨(h.1.1.2.1 i hi).1, (h.1.1.2.1 i hi).2, h.2 i hi⟩, h.1.2.1, h.1.2.2.1⟩
theorem Ph3.start (h : Ph3 nw nb S U N M k W r) (hk : k < nw) : Ph3i nw nb S U N M k 0 W (S k) r :=
  ⟨fun i hi hn => h.1 i (by omega) hn, h.2.1, h.1 k (Nat.le_refl _) hk, h.2.2.1, h.2.2.2.1, h.2.2.2.2⟩
theorem Ph3i.step (h : Ph3i nw nb S U N M k j W v r) (hk : k < nw) (v' : Value) : Ph3i nw nb S U N M k (j + 1) W v' (updR r (4 + k) ⟨v', (r (4 + k)).E, N k + j + 1, ms64 k (N k + j) ++ [.int .u64 (mk k ((N k : Int) + (j : Int)))]⟩) := by
  refine ⟨fun i hi hn => by rw [updR_ne _ _ (by omega)]; exact h.1 i hi hn, fun i hi => by rw [updR_ne _ _ (by omega)]; exact h.2.1 i hi, ?_, fun i hi => by rw [updR_ne _ _ (by omega)]; exact h.2.2.2.1 i hi, ?_, ?_⟩
  · rw [updR_same]; exact ⟨rfl, rfl, by rw [← Nat.add_assoc, ms64_snoc, Int.natCast_add]⟩
  · rw [updR_ne _ _ (by omega), list_updR _ _ _ _ _ (by omega)]; exact h.2.2.2.2.1
  · rw [updR_ne _ _ (by omega)]; exact h.2.2.2.2.2
theorem Ph3i.done (h : Ph3i nw nb S U N M k 64 W v r) (W' : Value) : Ph3 nw nb S U N M (k + 1) W' (updR r 2 ⟨W', (r 2).E, k + 1, (r 2).xs ++ [v]⟩) := by
  refine ⟨fun i hi hn => by rw [updR_ne _ _ (by omega)]; exact h.1 i (by omega) hn, fun i hi => ?_, fun i hi => by rw [updR_ne _ _ (by omega)]; exact h.2.2.2.1 i hi, ?_, ?_⟩
  · rw [updR_ne _ _ (by omega)]
    rcases Nat.lt_succ_iff_lt_or_eq.1 hi with hi | rfl
    · exact h.2.1 i hi
    · exact h.2.2.1.2
  · rw [updR_same, list_updR _ _ _ _ _ (by omega), ← list_more, h.2.2.1.1, h.2.2.2.2.1]
  · rw [updR_ne _ _ (by omega)]; exact h.2.2.2.2.2
theorem Ph3.ph4 (h : Ph3 nw nb S U N M nw W r) : Ph4 nw nb U N M 0 W (.slice none 0 0) r :=
  ⟨h.2.1, fun i _ hi => h.2.2.1 i hi, fun i hi => by omega, h.2.2.2.1, h.2.2.2.2⟩
theorem Ph4.start (h : Ph4 nw nb U N M k W X r) (hk : k < nb) : Ph4i nw nb U N M k 0 W X (U k) r :=
  ⟨fun i hi hn => h.2.1 i (by omega) hn, h.2.2.1, h.2.1 k (Nat.le_refl _) hk, h.1, h.2.2.2.1, h.2.2.2.2⟩
theorem Ph4i.step (h : Ph4i nw nb U N M k j W X v r) (v' : Value) : Ph4i nw nb U N M k (j + 1) W X v' (updR r (4 + nw + k) ⟨v', (r (4 + nw + k)).E, M k + j + 1, ms8 k (M k + j) ++ [.int .u8 (IntKind.u8.wrap (mk k ((M k : Int) + (j : Int))))]⟩) := by
  refine ⟨fun i hi hn => by rw [updR_ne _ _ (by omega)]; exact h.1 i hi hn, fun i hi => by rw [updR_ne _ _ (by omega)]; exact h.2.1 i hi, ?_, fun i hi => by rw [updR_ne _ _ (by omega)]; exact h.2.2.2.1 i hi, ?_, ?_⟩
  · rw [updR_same]; exact ⟨rfl, rfl, by rw [← Nat.add_assoc, ms8_snoc, Int.natCast_add]⟩
  · rw [updR_ne _ _ (by omega), list_updR _ _ _ _ _ (by omega)]; exact h.2.2.2.2.1
  · rw [updR_ne _ _ (by omega), list_updR _ _ _ _ _ (by omega)]; exact h.2.2.2.2.2
theorem Ph4i.done (h : Ph4i nw nb U N M k 64 W X v r) (X' : Value) : Ph4 nw nb U N M (k + 1) W X' (updR r 3 ⟨X', (r 3).E, k + 1, (r 3).xs ++ [v]⟩) := by
  refine ⟨fun i hi => by rw [updR_ne _ _ (by omega)]; exact h.2.2.2.1 i hi, fun i hi hn => by rw [updR_ne _ _ (by omega)]; exact h.1 i (by omega) hn, fun i hi => ?_, ?_, ?_⟩
  · rw [updR_ne _ _ (by omega)]
    rcases Nat.lt_succ_iff_lt_or_eq.1 hi with hi | rfl
    · exact h.2.1 i hi
    · exact h.2.2.1.2
  · rw [updR_ne _ _ (by omega), list_updR _ _ _ _ _ (by omega)]; exact h.2.2.2.2.1
  · rw [updR_same, list_updR _ _ _ _ _ (by omega), ← list_more, h.2.2.1.1, h.2.2.2.2.2]
end

theorem owns_below {w w' : World} {B E n : Nat} {v : Value} {xs : List Value} (h : w.ownsRow B E 1 v n xs) (hb : Below w.heap.size w w') : w'.ownsRow B E 1 v n xs :=
  (Chg.of_below hb).owns h fun k hk => by have := World.ownsRow.lt h k hk; omega
theorem own64.below {w w' : World} {B : Nat} {v : Value} {zs : List Nat} (h : own64 w B v zs) (hb : Below w.heap.size w w') : own64 w' B v zs := owns_below h hb
theorem rw64.own {w : World} {B : Nat} {v : Value} {zs : List Nat} (h : own64 w B v zs) : w.ownsRow B 22 1 v zs.length (u64s zs) := h
theorem Sep.upd2 {w w' : World} {B bk : Nat} {r r' : Rw} {R : List Rw} (h : Sep w B (r :: R)) (hc : Chg (fun k => k = bk ∨ some k = r.v.ownBlock) w w') (hbk : ∀ s ∈ R, s.v.ownBlock ≠ some bk) (ho : w'.ownsRow B r'.E 1 r'.v r'.n r'.xs)
    (hb : ∀ k, r'.v.ownBlock = some k → r.v.ownBlock = some k ∨ w.heap.size ≤ k) : Sep w' B (r' :: R) := by
  obtain ⟨h1, h2⟩ := h
  have hp := List.pairwise_cons.1 h2
  refine ⟨fun s hs => ?_, List.pairwise_cons.2 ⟨fun s hs k hk hk' => ?_, hp.2⟩⟩
  · rcases List.mem_cons.1 hs with rfl | hs
    · exact ho
    · refine hc.owns (h1 s (List.mem_cons_of_mem _ hs)) (fun k hk e => ?_)
      rcases e with rfl | e
      · exact hbk s hs hk
      · exact hp.1 s hs k e.symm hk
  · rcases hb k hk with hb | hb
    · exact hp.1 s hs k hb hk'
    · have := World.ownsRow.lt (h1 s (List.mem_cons_of_mem _ hs)) k hk'
      omega
/-- A list of limbs as a row. -/
def rw64 (v : Value) (zs : List Nat) : Rw := ⟨v, 22, zs.length, u64s zs⟩

theorem Sep.nilRow {w : World} {B : Nat} {R : List Rw} (h : Sep w B R) (E : TypeId) : Sep w B (⟨.slice none 0 0, E, 0, []⟩ :: R) :=
  h.add (Chg.refl _ _) (World.ownsRow_nil _ _ _ _) (fun k hk => by cases hk)
def rwNo : Rw := ⟨.slice none 0 0, 28, 0, []⟩
def rwNo8 : Rw := ⟨.slice none 0 0, 24, 0, []⟩
theorem map_getD (L : List Rw) (d : Rw) : (List.range L.length).map (fun i => (L.getD i d).v) = L.map (·.v) := by
  apply List.ext_getElem (by simp)
  intro i h1 h2
  simp at h1
  simp [List.getD, h1]
/-- The book with its lists, and the rows about it. -/
structure Bok (w : World) (B bk T : Nat) (WV BV : List Value) (R : List Rw) (vw vb : Value) : Prop where
  book : w.heap[bk]? = some (.cells #[vw, vb] T (0, 0))
  sep : Sep w B (⟨vw, 28, WV.length, WV⟩ :: ⟨vb, 24, BV.length, BV⟩ :: R)
  off : ∀ s ∈ R, s.v.ownBlock ≠ some bk
  offw : ∀ k, vw.ownBlock = some k → bk < k
  offb : ∀ k, vb.ownBlock = some k → bk < k
  base : B ≤ bk
theorem Bok.start {w : World} {B T : Nat} {R : List Rw} (h : Sep w B R) (hB : B ≤ w.heap.size) {bk : Nat} (hk : bk = w.heap.size) : Bok (w.alloc (.cells #[.slice none 0 0, .slice none 0 0] T)) B bk T [] [] R (.slice none 0 0) (.slice none 0 0) := by
  subst hk
  refine ⟨heap_alloc_new w _, ((h.chg ((Chg.refl (fun _ => False) w).alloc _) (fun _ _ _ _ h => h)).nilRow _).nilRow _, fun s hs hk => ?_, (fun k hk => by cases hk), (fun k hk => by cases hk), hB⟩
  have := World.ownsRow.lt (h.1 s hs) _ hk
  omega
theorem Bok.lt {w : World} {B bk T : Nat} {WV BV : List Value} {R : List Rw} {vw vb : Value} (h : Bok w B bk T WV BV R vw vb) : bk < w.heap.size := lt_of_block h.book
theorem Bok.below {w w' : World} {B bk T : Nat} {WV BV : List Value} {R : List Rw} {vw vb : Value} (h : Bok w B bk T WV BV R vw vb) (hb : Below w.heap.size w w') : Bok w' B bk T WV BV R vw vb :=
  ⟨(hb.block _ h.lt).trans h.book, h.sep.chg (Chg.of_below hb) (fun r hr k hk => by have := World.ownsRow.lt (h.sep.1 r hr) k hk; omega), h.off, h.offw, h.offb, h.base⟩
end Go.Proofs.YtaookoejdnkkoaaDoor
