import Derived.Test.YtaookoejdnkkoaaGreatDoorQ01
namespace Go.Proofs.YtaookoejdnkkoaaGreatDoor
open Go.RowKit

/-- The book: its two lists, the lists in them. -/
structure BkI (w0 w : World) (B bk T nw nb : Nat) (vw vb : Value) (S U : Nat → Value) (N M : Nat → Nat) (r : Nat → Rw) : Prop where
  book : w.heap[bk]? = some (.cells #[vw, vb] T (0, 0))
  fam : Fam w B (4 + nw + nb) r
  off : ∀ i, i < 4 + nw + nb → (r i).v.ownBlock ≠ some bk
  r0 : r 0 = ⟨vw, 23, nw, (List.range nw).map S⟩
  r1 : r 1 = ⟨vb, 40, nb, (List.range nb).map U⟩
  rw : ∀ i, i < nw → (r (4 + i)).E = 47
  rb : ∀ i, i < nb → (r (4 + nw + i)).E = 5
  chg : Chg (fun k => B ≤ k) w0 w


/-- The lists' rows as they were told. -/
def SvU (nw nb : Nat) (S U : Nat → Value) (N M : Nat → Nat) (r : Nat → Rw) : Prop :=
  (∀ i, i < nw → (r (4 + i)).v = S i ∧ (r (4 + i)).n = N i) ∧ (∀ i, i < nb → (r (4 + nw + i)).v = U i ∧ (r (4 + nw + i)).n = M i) ∧ True

section
variable {w0 w : World} {B bk T nw nb : Nat} {vw vb : Value} {S U : Nat → Value} {N M : Nat → Nat} {r : Nat → Rw}

theorem BkI.c0 (h : BkI w0 w B bk T nw nb vw vb S U N M r) : w.cell? ⟨bk, 0, none⟩ = some vw := by simp [World.cell?, h.book]
theorem BkI.c1 (h : BkI w0 w B bk T nw nb vw vb S U N M r) : w.cell? ⟨bk, 1, none⟩ = some vb := by simp [World.cell?, h.book]
theorem BkI.own0 (h : BkI w0 w B bk T nw nb vw vb S U N M r) : w.ownsRow B 23 1 vw nw ((List.range nw).map S) := by
  have := h.fam.own 0 (by omega)
  rw [h.r0] at this
  exact this
theorem BkI.own1 (h : BkI w0 w B bk T nw nb vw vb S U N M r) : w.ownsRow B 40 1 vb nb ((List.range nb).map U) := by
  have := h.fam.own 1 (by omega)
  rw [h.r1] at this
  exact this
theorem Chg.drewN {S : Nat → Prop} {a w : World} (h : Chg S a w) (n : Nat) : Chg S a (w.drewN n) := ⟨h.os, h.tape, h.output, h.size, h.block⟩
theorem BkI.still (h : BkI w0 w B bk T nw nb vw vb S U N M r) {w' : World} (hc : Chg (fun _ => False) w w') : BkI w0 w' B bk T nw nb vw vb S U N M r :=
  ⟨hc.heap h.book (fun e => e), h.fam.chg hc (fun _ _ _ _ e => e), h.off, h.r0, h.r1, h.rw, h.rb, h.chg.step hc (fun _ e _ => e.elim)⟩
theorem BkI.drew (h : BkI w0 w B bk T nw nb vw vb S U N M r) : BkI w0 w.drew B bk T nw nb vw vb S U N M r := h.still (Chg.refl _ _).drew
theorem BkI.app (h : BkI w0 w B bk T nw nb vw vb S U N M r) {p g n' cap : Nat} {xs' : List Value} {w' : World} (hp : p < 4 + nw + nb) (h2 : 2 ≤ p)
    (hc : Chg (fun k => some k = (r p).v.ownBlock) w w') (ho : w'.ownsRow B (r p).E 1 (.slice (some ⟨g, 0, none⟩) n' cap) n' xs') (hb : (r p).v.ownBlock = some g ∨ w.heap.size ≤ g) :
    BkI w0 w' B bk T nw nb vw vb S U N M (updR r p ⟨.slice (some ⟨g, 0, none⟩) n' cap, (r p).E, n', xs'⟩) := by
  have hbl := lt_of_block h.book
  refine ⟨hc.heap h.book (fun e => h.off p hp e.symm), h.fam.put hp hc ho (fun k hk => ?_), fun i hi => ?_, ?_, ?_, fun i hi => ?_, fun i hi => ?_, h.chg.step hc (fun i hi _ => ((h.fam.own p hp).lt i hi.symm).1)⟩
  · obtain rfl : g = k := by simpa [Value.ownBlock] using hk
    exact hb
  · by_cases e : i = p
    · subst e
      rw [updR_same]
      intro e2
      obtain rfl : g = bk := by simpa [Value.ownBlock] using e2
      rcases hb with hb | hb
      · exact h.off i hi hb
      · omega
    · rw [updR_ne _ _ e]; exact h.off i hi
  · rw [updR_ne _ _ (by omega)]; exact h.r0
  · rw [updR_ne _ _ (by omega)]; exact h.r1
  · by_cases e : 4 + i = p
    · subst e; rw [updR_same]; exact h.rw i hi
    · rw [updR_ne _ _ e]; exact h.rw i hi
  · by_cases e : 4 + nw + i = p
    · subst e; rw [updR_same]; exact h.rb i hi
    · rw [updR_ne _ _ e]; exact h.rb i hi
theorem BkI.store (h : BkI w0 w B bk T nw nb vw vb S U N M r) {p g n c : Nat} (hp : p < 4 + nw + nb) (h2 : 2 ≤ p) (hv : (r p).v = .slice (some ⟨g, 0, none⟩) n c) (hn : (r p).n = n) (j : Nat) (u : Value) :
    BkI w0 (w.setCell ⟨g, j, none⟩ u) B bk T nw nb vw vb S U N M (updR r p { r p with xs := (r p).xs.set j u }) := by
  have hg : (r p).v.ownBlock = some g := by rw [hv]; rfl
  have hBg : B ≤ g := ((h.fam.own p hp).lt g hg).1
  have hne : g ≠ bk := fun e => h.off p hp (by rw [hg, e])
  refine ⟨?_, h.fam.store hp hv hn j u, fun i hi => ?_, ?_, ?_, fun i hi => ?_, fun i hi => ?_, h.chg.setCell (p := ⟨g, j, none⟩) hBg u⟩
  · rw [Below.heap_setCell _ _ _ _ (by simpa using Ne.symm hne)]; exact h.book
  · by_cases e : i = p
    · subst e; rw [updR_same]; exact h.off i hi
    · rw [updR_ne _ _ e]; exact h.off i hi
  · rw [updR_ne _ _ (by omega)]; exact h.r0
  · rw [updR_ne _ _ (by omega)]; exact h.r1
  · by_cases e : 4 + i = p
    · subst e; rw [updR_same]; exact h.rw i hi
    · rw [updR_ne _ _ e]; exact h.rw i hi
  · by_cases e : 4 + nw + i = p
    · subst e; rw [updR_same]; exact h.rb i hi
    · rw [updR_ne _ _ e]; exact h.rb i hi
theorem SvU.store (h : SvU nw nb S U N M r) {p : Nat} (xs : List Value) : SvU nw nb S U N M (updR r p { r p with xs := xs }) := by
  have key : ∀ i, (updR r p { r p with xs := xs } i).v = (r i).v ∧ (updR r p { r p with xs := xs } i).n = (r i).n := by
    intro i
    by_cases e : i = p
    · subst e; rw [updR_same]; exact ⟨rfl, rfl⟩
    · rw [updR_ne _ _ e]; exact ⟨rfl, rfl⟩
  refine ⟨fun i hi => ?_, fun i hi => ?_, trivial⟩
  · rw [(key _).1, (key _).2]; exact h.1 i hi
  · rw [(key _).1, (key _).2]; exact h.2.1 i hi
end

/-- One more mark. -/
theorem take_set_mark (xs : List Value) (f : Nat → Value) (n j : Nat) (hl : xs.length = n) (hj : j < n) (h : xs.take j = ((List.range n).map f).take j) :
    (xs.set j (f j)).take (j + 1) = ((List.range n).map f).take (j + 1) := by
  rw [List.take_add_one, List.take_add_one, List.take_set_of_le (Nat.le_refl j), h]
  simp [hl, hj]


/-- The walk's states: marks in the first k lists of words; of bytes; each list longer by 64 marks; all. -/
def Ph1 (nw nb : Nat) (S U : Nat → Value) (N M : Nat → Nat) (k : Nat) (r : Nat → Rw) : Prop :=
  SvU nw nb S U N M r ∧ r 2 = ⟨.slice none 0 0, 23, 0, []⟩ ∧ r 3 = ⟨.slice none 0 0, 40, 0, []⟩ ∧ ∀ i, i < k → (r (4 + i)).xs = ms64 i (N i)
def Ph2 (nw nb : Nat) (S U : Nat → Value) (N M : Nat → Nat) (k : Nat) (r : Nat → Rw) : Prop := Ph1 nw nb S U N M nw r ∧ ∀ i, i < k → (r (4 + nw + i)).xs = ms8 i (M i)
theorem Ph1.set {nw nb k p : Nat} {S U : Nat → Value} {N M : Nat → Nat} {r : Nat → Rw} (h : Ph1 nw nb S U N M k r) (hp : 4 + k ≤ p) (xs : List Value) : Ph1 nw nb S U N M k (updR r p { r p with xs := xs }) :=
  ⟨h.1.store xs, by rw [updR_ne _ _ (by omega)]; exact h.2.1, by rw [updR_ne _ _ (by omega)]; exact h.2.2.1, fun i hi => by rw [updR_ne _ _ (by omega)]; exact h.2.2.2 i hi⟩
theorem Ph2.set {nw nb k : Nat} {S U : Nat → Value} {N M : Nat → Nat} {r : Nat → Rw} (h : Ph2 nw nb S U N M k r) (xs : List Value) : Ph2 nw nb S U N M k (updR r (4 + nw + k) { r (4 + nw + k) with xs := xs }) :=
  ⟨h.1.set (by omega) xs, fun i hi => by rw [updR_ne _ _ (by omega)]; exact h.2 i hi⟩
def Ph3 (nw nb : Nat) (S U : Nat → Value) (N M : Nat → Nat) (k : Nat) (W : Value) (r : Nat → Rw) : Prop :=
  (∀ i, k ≤ i → i < nw → (r (4 + i)).v = S i ∧ (r (4 + i)).n = N i ∧ (r (4 + i)).xs = ms64 i (N i)) ∧ (∀ i, i < k → (r (4 + i)).n = N i + 64 ∧ (r (4 + i)).xs = ms64 i (N i + 64)) ∧
  (∀ i, i < nb → (r (4 + nw + i)).v = U i ∧ (r (4 + nw + i)).n = M i ∧ (r (4 + nw + i)).xs = ms8 i (M i)) ∧
  r 2 = ⟨W, 23, k, (List.range k).map fun i => (r (4 + i)).v⟩ ∧ r 3 = ⟨.slice none 0 0, 40, 0, []⟩
def Ph4 (nw nb : Nat) (U : Nat → Value) (N M : Nat → Nat) (k : Nat) (W X : Value) (r : Nat → Rw) : Prop :=
  (∀ i, i < nw → (r (4 + i)).n = N i + 64 ∧ (r (4 + i)).xs = ms64 i (N i + 64)) ∧
  (∀ i, k ≤ i → i < nb → (r (4 + nw + i)).v = U i ∧ (r (4 + nw + i)).n = M i ∧ (r (4 + nw + i)).xs = ms8 i (M i)) ∧ (∀ i, i < k → (r (4 + nw + i)).n = M i + 64 ∧ (r (4 + nw + i)).xs = ms8 i (M i + 64)) ∧
  r 2 = ⟨W, 23, nw, (List.range nw).map fun i => (r (4 + i)).v⟩ ∧ r 3 = ⟨X, 40, k, (List.range k).map fun i => (r (4 + nw + i)).v⟩

theorem ms64_snoc (k n : Nat) : ms64 k (n + 1) = ms64 k n ++ [.int .u64 (mk k n)] := by unfold ms64; rw [List.range_succ]; simp
theorem ms8_snoc (k n : Nat) : ms8 k (n + 1) = ms8 k n ++ [.int .u8 (IntKind.u8.wrap (mk k n))] := by unfold ms8; rw [List.range_succ]; simp
theorem ms64_get (k n j : Nat) (h : j < n) : (ms64 k n)[j]? = some (.int .u64 (mk k j)) := by simp [ms64, h]
theorem ms8_get (k n j : Nat) (h : j < n) : (ms8 k n)[j]? = some (.int .u8 (IntKind.u8.wrap (mk k j))) := by simp [ms8, h]
/-- A list of one value more. -/
theorem list_more (f : Nat → Value) (k : Nat) : (List.range k).map f ++ [f k] = (List.range (k + 1)).map f := by rw [List.range_succ]; simp
theorem list_updR (r : Nat → Rw) (k c p : Nat) (x : Rw) (h : ∀ i, i < k → c + i ≠ p) : ((List.range k).map fun i => (updR r p x (c + i)).v) = (List.range k).map fun i => (r (c + i)).v := by
  apply List.map_congr_left
  intro i hi
  rw [updR_ne _ _ (h i (by simpa using hi))]

def Ph3i (nw nb : Nat) (S U : Nat → Value) (N M : Nat → Nat) (k j : Nat) (W v : Value) (r : Nat → Rw) : Prop :=
  (∀ i, k < i → i < nw → (r (4 + i)).v = S i ∧ (r (4 + i)).n = N i ∧ (r (4 + i)).xs = ms64 i (N i)) ∧ (∀ i, i < k → (r (4 + i)).n = N i + 64 ∧ (r (4 + i)).xs = ms64 i (N i + 64)) ∧
  ((r (4 + k)).v = v ∧ (r (4 + k)).n = N k + j ∧ (r (4 + k)).xs = ms64 k (N k + j)) ∧
  (∀ i, i < nb → (r (4 + nw + i)).v = U i ∧ (r (4 + nw + i)).n = M i ∧ (r (4 + nw + i)).xs = ms8 i (M i)) ∧
  r 2 = ⟨W, 23, k, (List.range k).map fun i => (r (4 + i)).v⟩ ∧ r 3 = ⟨.slice none 0 0, 40, 0, []⟩
def Ph4i (nw nb : Nat) (U : Nat → Value) (N M : Nat → Nat) (k j : Nat) (W X v : Value) (r : Nat → Rw) : Prop :=
  (∀ i, k < i → i < nb → (r (4 + nw + i)).v = U i ∧ (r (4 + nw + i)).n = M i ∧ (r (4 + nw + i)).xs = ms8 i (M i)) ∧ (∀ i, i < k → (r (4 + nw + i)).n = M i + 64 ∧ (r (4 + nw + i)).xs = ms8 i (M i + 64)) ∧
  ((r (4 + nw + k)).v = v ∧ (r (4 + nw + k)).n = M k + j ∧ (r (4 + nw + k)).xs = ms8 k (M k + j)) ∧
  (∀ i, i < nw → (r (4 + i)).n = N i + 64 ∧ (r (4 + i)).xs = ms64 i (N i + 64)) ∧
  r 2 = ⟨W, 23, nw, (List.range nw).map fun i => (r (4 + i)).v⟩ ∧ r 3 = ⟨X, 40, k, (List.range k).map fun i => (r (4 + nw + i)).v⟩
section
variable {nw nb k j : Nat} {S U : Nat → Value} {N M : Nat → Nat} {W X v : Value} {r : Nat → Rw}
theorem Ph2.ph3 (h : Ph2 nw nb S U N M nb r) : Ph3 nw nb S U N M 0 (.slice none 0 0) r :=
  ⟨fun i _ hi => ⟨(h.1.1.1 i hi).1, (h.1.1.1 i hi).2, h.1.2.2.2 i hi⟩, fun i hi => by omega, fun i hi => ⟨(h.1.1.2.1 i hi).1, (h.1.1.2.1 i hi).2, h.2 i hi⟩, h.1.2.1, h.1.2.2.1⟩
theorem Ph3.start (h : Ph3 nw nb S U N M k W r) (hk : k < nw) : Ph3i nw nb S U N M k 0 W (S k) r :=
  ⟨fun i hi hn => h.1 i (by omega) hn, h.2.1, h.1 k (Nat.le_refl _) hk, h.2.2.1, h.2.2.2.1, h.2.2.2.2⟩
theorem Ph3i.step (h : Ph3i nw nb S U N M k j W v r) (hk : k < nw) (v' : Value) : Ph3i nw nb S U N M k (j + 1) W v' (updR r (4 + k) ⟨v', (r (4 + k)).E, N k + j + 1, ms64 k (N k + j) ++ [.int .u64 (mk k ((N k : Int) + (j : Int)))]⟩) := by
  refine ⟨fun i hi hn => by rw [updR_ne _ _ (by omega)]; exact h.1 i hi hn, fun i hi => by rw [updR_ne _ _ (by omega)]; exact h.2.1 i hi, ?_, fun i hi => by rw [updR_ne _ _ (by omega)]; exact h.2.2.2.1 i hi, ?_, ?_⟩
  · rw [updR_same]; exact ⟨rfl, rfl, by rw [← Nat.add_assoc, ms64_snoc, Int.natCast_add]⟩
  · rw [updR_ne _ _ (by omega), list_updR _ _ _ _ _ (by omega)]; exact h.2.2.2.2.1
  · rw [updR_ne _ _ (by omega)]; exact h.2.2.2.2.2
theorem Ph3i.done (h : Ph3i nw nb S U N M k 64 W v r) (W' : Value) : Ph3 nw nb S U N M (k + 1) W' (updR r 2 ⟨W', (r 2).E, k + 1, (r 2).xs ++ [v]⟩) := by
  refine ⟨fun i hi hn => by rw [updR_ne _ _ (by omega)]; exact h.1 i (by omega) hn, fun i hi => ?_, fun i hi => by rw [updR_ne _ _ (by omega)]; exact h.2.2.2.1 i hi, ?_, ?_⟩
  · rw [updR_ne _ _ (by omega)]
    rcases Nat.lt_succ_iff_lt_or_eq.1 hi with hi | rfl
    · exact h.2.1 i hi
    · exact h.2.2.1.2
  · rw [updR_same, list_updR _ _ _ _ _ (by omega), ← list_more, h.2.2.1.1, h.2.2.2.2.1]
  · rw [updR_ne _ _ (by omega)]; exact h.2.2.2.2.2
theorem Ph3.ph4 (h : Ph3 nw nb S U N M nw W r) : Ph4 nw nb U N M 0 W (.slice none 0 0) r :=
  ⟨h.2.1, fun i _ hi => h.2.2.1 i hi, fun i hi => by omega, h.2.2.2.1, h.2.2.2.2⟩
theorem Ph4.start (h : Ph4 nw nb U N M k W X r) (hk : k < nb) : Ph4i nw nb U N M k 0 W X (U k) r :=
  ⟨fun i hi hn => h.2.1 i (by omega) hn, h.2.2.1, h.2.1 k (Nat.le_refl _) hk, h.1, h.2.2.2.1, h.2.2.2.2⟩
theorem Ph4i.step (h : Ph4i nw nb U N M k j W X v r) (v' : Value) : Ph4i nw nb U N M k (j + 1) W X v' (updR r (4 + nw + k) ⟨v', (r (4 + nw + k)).E, M k + j + 1, ms8 k (M k + j) ++ [.int .u8 (IntKind.u8.wrap (mk k ((M k : Int) + (j : Int))))]⟩) := by
  refine ⟨fun i hi hn => by rw [updR_ne _ _ (by omega)]; exact h.1 i hi hn, fun i hi => by rw [updR_ne _ _ (by omega)]; exact h.2.1 i hi, ?_, fun i hi => by rw [updR_ne _ _ (by omega)]; exact h.2.2.2.1 i hi, ?_, ?_⟩
  · rw [updR_same]; exact ⟨rfl, rfl, by rw [← Nat.add_assoc, ms8_snoc, Int.natCast_add]⟩
  · rw [updR_ne _ _ (by omega), list_updR _ _ _ _ _ (by omega)]; exact h.2.2.2.2.1
  · rw [updR_ne _ _ (by omega), list_updR _ _ _ _ _ (by omega)]; exact h.2.2.2.2.2
theorem Ph4i.done (h : Ph4i nw nb U N M k 64 W X v r) (X' : Value) : Ph4 nw nb U N M (k + 1) W X' (updR r 3 ⟨X', (r 3).E, k + 1, (r 3).xs ++ [v]⟩) := by
  refine ⟨fun i hi => by rw [updR_ne _ _ (by omega)]; exact h.2.2.2.1 i hi, fun i hi hn => by rw [updR_ne _ _ (by omega)]; exact h.1 i (by omega) hn, fun i hi => ?_, ?_, ?_⟩
  · rw [updR_ne _ _ (by omega)]
    rcases Nat.lt_succ_iff_lt_or_eq.1 hi with hi | rfl
    · exact h.2.1 i hi
    · exact h.2.2.1.2
  · rw [updR_ne _ _ (by omega), list_updR _ _ _ _ _ (by omega)]; exact h.2.2.2.2.1
  · rw [updR_same, list_updR _ _ _ _ _ (by omega), ← list_more, h.2.2.1.1, h.2.2.2.2.2]
end

set_option maxHeartbeats 4000000 in
set_option maxRecDepth 100000 in
theorem apart_any (B bk T nw nb : Nat) (vw vb : Value) (S U : Nat → Value) (N M : Nat → Nat) (r : Nat → Rw) (w : World) (hI : BkI w w B bk T nw nb vw vb S U N M r) (hP : Ph1 nw nb S U N M 0 r)
    (hN : ∀ i, N i ≤ 1099511627776) (hM : ∀ i, M i ≤ 1099511627776) (hnw : nw ≤ 1099511627776) (hnb : nb ≤ 1099511627776) (hBw : B ≤ w.heap.size) :
    Calls Tryz.prog 18 #[.pointer (some ⟨bk, 0, none⟩)] w fun e w' => e = .returned (.bool true) ∧ Chg (fun k => B ≤ k) w w' := by
  go_enter Tryz.func18, Tryz.ntmps18
  go_wp2
  go_loopw [3] (fun i wr => ∃ k r, k ≤ nw ∧ i = .int .i64 (k : Nat) ∧ BkI w wr B bk T nw nb vw vb S U N M r ∧ Ph1 nw nb S U N M k r) (fun i _ => nw - (intOf i).toNat)
  case atStart => exact ⟨0, r, Nat.zero_le _, rfl, hI, hP⟩
  case round =>
    clear hI hP
    obtain ⟨k, r1, hk, rfl, hI1, hP1⟩ := hrel
    have hc0 := hI1.c0
    by_cases hlt : k < nw
    · obtain ⟨gw, cw, rfl, _, _⟩ := owns_some hI1.own0 (show 0 < nw by omega)
      go_wp2
      obtain ⟨wo, rfl⟩ : ∃ wo : World, wo = wr := ⟨_, rfl⟩
      go_loopw [4] (fun i wr => ∃ j r, j ≤ N k ∧ i = .int .i64 (j : Nat) ∧ BkI w wr B bk T nw nb (.slice (some ⟨gw, 0, none⟩) nw cw) vb S U N M r ∧ Ph1 nw nb S U N M k r ∧ (r (4 + k)).xs.take j = (ms64 k (N k)).take j) (fun i _ => N k - (intOf i).toNat)
      case atStart => exact ⟨0, r1, Nat.zero_le _, rfl, hI1, hP1, by simp⟩
      case round =>
        clear hI1 hP1 hc0
        obtain ⟨j, r2, hj, rfl, hI2, hP2, hT⟩ := hrel
        have hc0 := hI2.c0
        have hck : wr.cell? ⟨gw, k, none⟩ = some (S k) := by rw [hI2.own0.cellAt k (by omega)]; simp [hlt]
        have hrow := hI2.fam.own (4 + k) (by omega)
        have hx := hP2.1.1 k hlt
        rw [hx.1, hx.2] at hrow
        have hNk := hN k
        by_cases hlt2 : j < N k
        · obtain ⟨g, c, hSk, _, _⟩ := owns_some hrow (by omega)
          rw [hSk] at hck hrow
          have hcs : wr.cell? ⟨g, j, none⟩ = some ((r2 (4 + k)).xs.getD j undef) := by
            rw [hrow.cellAt j (by omega)]; simp [List.getD, hrow.1, hlt2]
          have hf : wr.frozen? ⟨g, j, none⟩ = false := hrow.frozenAt j
          generalize (r2 (4 + k)).xs.getD j undef = u0 at hcs
          have HI := Lib.hid hI2
          have HP := Lib.hid hP2
          have HT := Lib.hid hT
          have HX := Lib.hid hx
          have HK := Lib.hid hSk
          have HR := Lib.hid hrow
          clear hI2 hP2 hT hx hSk hrow
          go_wp2
          go_still_tail 12, (by kernel_rfl)
          still_call (mark_q _ _ _)
          repeat still_step
          refine wpStill_nil ?_
          go_wp2
          go_roundw
          case rel =>
            exact ⟨j + 1, updR r2 (4 + k) { r2 (4 + k) with xs := (r2 (4 + k)).xs.set j ((fun j => Value.int .u64 (mk k (j : Nat))) j) }, by omega, by go_num, (HI.out.store (p := 4 + k) (by omega) (by omega) (HX.out.1.trans HK.out) HX.out.2 j _).drew, HP.out.set (Nat.le_refl _) _,
              by rw [updR_same]; exact take_set_mark _ (fun j => Value.int .u64 (mk k (j : Nat))) _ j (by have := HR.out.1; omega) hlt2 HT.out⟩
          case measure => simp [intOf]; omega
        · obtain rfl : j = N k := by omega
          obtain ⟨a, c, hSk⟩ := owns_form hrow
          rw [hSk] at hck
          have hfull : (r2 (4 + k)).xs = ms64 k (N k) := by
            have h1 : (r2 (4 + k)).xs.length = N k := by have := hrow.1; omega
            rw [List.take_of_length_le (by omega), List.take_of_length_le (by simp [ms64])] at hT
            exact hT
          have HI := Lib.hid hI2
          have HP := Lib.hid hP2
          have HF := Lib.hid hfull
          clear hI2 hP2 hT hx hSk hrow hfull
          go_wp2
          go_roundw
          case rel =>
            exact ⟨k + 1, r2, by omega, by go_num, HI.out, ⟨HP.out.1, HP.out.2.1, HP.out.2.2.1, fun i hi => by rcases Nat.lt_succ_iff_lt_or_eq.1 hi with h | rfl; exact HP.out.2.2.2 i h; exact HF.out⟩⟩
          case measure => simp [intOf]; omega
    · obtain rfl : nw = k := by omega
      obtain ⟨aw, cw, rfl⟩ := owns_form hI1.own0
      go_wp2
      obtain ⟨wo, rfl⟩ : ∃ wo : World, wo = wr := ⟨_, rfl⟩
      go_loopw [5] (fun i wr => ∃ k r, k ≤ nb ∧ i = .int .i64 (k : Nat) ∧ BkI w wr B bk T nw nb (.slice aw nw cw) vb S U N M r ∧ Ph2 nw nb S U N M k r) (fun i _ => nb - (intOf i).toNat)
      case atStart => exact ⟨0, r1, Nat.zero_le _, rfl, hI1, hP1, fun i h => by omega⟩
      case round =>
        clear hI1 hP1 hc0
        obtain ⟨k, r1, hk, rfl, hI1, hP1⟩ := hrel
        have hc0 := hI1.c1
        by_cases hlt : k < nb
        · obtain ⟨gb, cb, rfl, _, _⟩ := owns_some hI1.own1 (show 0 < nb by omega)
          go_wp2
          obtain ⟨wo, rfl⟩ : ∃ wo : World, wo = wr := ⟨_, rfl⟩
          go_loopw [6] (fun i wr => ∃ j r, j ≤ M k ∧ i = .int .i64 (j : Nat) ∧ BkI w wr B bk T nw nb (.slice aw nw cw) (.slice (some ⟨gb, 0, none⟩) nb cb) S U N M r ∧ Ph2 nw nb S U N M k r ∧ (r (4 + nw + k)).xs.take j = (ms8 k (M k)).take j) (fun i _ => M k - (intOf i).toNat)
          case atStart => exact ⟨0, r1, Nat.zero_le _, rfl, hI1, hP1, by simp⟩
          case round =>
            clear hI1 hP1 hc0
            obtain ⟨j, r2, hj, rfl, hI2, hP2, hT⟩ := hrel
            have hc0 := hI2.c1
            have hck : wr.cell? ⟨gb, k, none⟩ = some (U k) := by rw [hI2.own1.cellAt k (by omega)]; simp [hlt]
            have hrow := hI2.fam.own (4 + nw + k) (by omega)
            have hx := hP2.1.1.2.1 k hlt
            rw [hx.1, hx.2] at hrow
            have hNk := hM k
            by_cases hlt2 : j < M k
            · obtain ⟨g, c, hSk, _, _⟩ := owns_some hrow (by omega)
              rw [hSk] at hck hrow
              have hcs : wr.cell? ⟨g, j, none⟩ = some ((r2 (4 + nw + k)).xs.getD j undef) := by
                rw [hrow.cellAt j (by omega)]; simp [List.getD, hrow.1, hlt2]
              have hf : wr.frozen? ⟨g, j, none⟩ = false := hrow.frozenAt j
              generalize (r2 (4 + nw + k)).xs.getD j undef = u0 at hcs
              have HI := Lib.hid hI2
              have HP := Lib.hid hP2
              have HT := Lib.hid hT
              have HX := Lib.hid hx
              have HK := Lib.hid hSk
              have HR := Lib.hid hrow
              clear hI2 hP2 hT hx hSk hrow
              go_wp2
              go_still_tail 13, (by kernel_rfl)
              still_call (mark_q _ _ _)
              repeat still_step
              refine wpStill_nil ?_
              go_wp2
              go_roundw
              case rel =>
                exact ⟨j + 1, updR r2 (4 + nw + k) { r2 (4 + nw + k) with xs := (r2 (4 + nw + k)).xs.set j ((fun j => Value.int .u8 (IntKind.u8.wrap (mk k (j : Nat)))) j) }, by omega, by go_num, (HI.out.store (p := 4 + nw + k) (by omega) (by omega) (HX.out.1.trans HK.out) HX.out.2 j _).drew, HP.out.set _,
                  by rw [updR_same]; exact take_set_mark _ (fun j => Value.int .u8 (IntKind.u8.wrap (mk k (j : Nat)))) _ j (by have := HR.out.1; omega) hlt2 HT.out⟩
              case measure => simp [intOf]; omega
            · obtain rfl : j = M k := by omega
              obtain ⟨a, c, hSk⟩ := owns_form hrow
              rw [hSk] at hck
              have hfull : (r2 (4 + nw + k)).xs = ms8 k (M k) := by
                have h1 : (r2 (4 + nw + k)).xs.length = M k := by have := hrow.1; omega
                rw [List.take_of_length_le (by omega), List.take_of_length_le (by simp [ms8])] at hT
                exact hT
              have HI := Lib.hid hI2
              have HP := Lib.hid hP2
              have HF := Lib.hid hfull
              clear hI2 hP2 hT hx hSk hrow hfull
              go_wp2
              go_roundw
              case rel =>
                exact ⟨k + 1, r2, by omega, by go_num, HI.out, ⟨HP.out.1, fun i hi => by rcases Nat.lt_succ_iff_lt_or_eq.1 hi with h | rfl; exact HP.out.2 i h; exact HF.out⟩⟩
              case measure => simp [intOf]; omega
        · obtain rfl : nb = k := by omega
          obtain ⟨ab, cb, rfl⟩ := owns_form hI1.own1
          go_wp2
          obtain ⟨wo, rfl⟩ : ∃ wo : World, wo = wr := ⟨_, rfl⟩
          go_loopw [7, 8] (fun V i wr => ∃ k r, k ≤ nw ∧ i = .int .i64 (k : Nat) ∧ BkI w wr B bk T nw nb (.slice aw nw cw) (.slice ab nb cb) S U N M r ∧ Ph3 nw nb S U N M k V r) (fun _ i _ => nw - (intOf i).toNat)
          case atStart => exact ⟨0, r1, Nat.zero_le _, rfl, hI1, hP1.ph3⟩
          case round =>
            clear hI1 hP1 hc0
            obtain ⟨k, r1, hk, rfl, hI1, hP1⟩ := hrel
            have hc0 := hI1.c0
            by_cases hlt : k < nw
            · obtain ⟨gw, cx, hv, _, _⟩ := owns_some hI1.own0 (show 0 < nw by omega)
              cases hv
              have hck : wr.cell? ⟨gw, k, none⟩ = some (S k) := by rw [hI1.own0.cellAt k (by omega)]; simp [hlt]
              obtain ⟨ak, ck, hSk⟩ : ∃ a c, S k = .slice a (N k) c := by
                have hrow := hI1.fam.own (4 + k) (by omega)
                have hx := (hP1.start hlt).2.2.1
                rw [hx.1, hx.2.1] at hrow
                exact owns_form hrow
              have HP1 := Lib.hid (hP1.start hlt)
              rw [hSk] at hck HP1
              have HSk := Lib.hid hSk
              have HI1 := Lib.hid hI1
              clear hP1 hSk hI1
              go_wp2
              have hI1 := HI1.out
              have hP1 := HP1.out
              clear HI1 HP1
              obtain ⟨wo, rfl⟩ : ∃ wo : World, wo = wr := ⟨_, rfl⟩
              go_loopw [9, 10] (fun v i wr => ∃ j r, j ≤ 64 ∧ i = .int .i64 (j : Nat) ∧ BkI w wr B bk T nw nb (.slice (some ⟨gw, 0, none⟩) nw cw) (.slice ab nb cb) S U N M r ∧ Ph3i nw nb S U N M k j u7 v r) (fun _ i _ => 64 - (intOf i).toNat)
              case atStart => exact ⟨0, r1, Nat.zero_le _, rfl, hI1, hP1⟩
              case round =>
                clear hI1 hP1 hc0 hck
                obtain ⟨j, r2, hj, rfl, hI2, hP2⟩ := hrel
                have hc0 := hI2.c0
                have hck : wr.cell? ⟨gw, k, none⟩ = some (.slice ak (N k) ck) := by rw [hI2.own0.cellAt k (by omega), ← HSk.out]; simp [hlt]
                have hrow := hI2.fam.own (4 + k) (by omega)
                have hx := hP2.2.2.1
                rw [hx.1, hx.2.1, hx.2.2, hI2.rw k hlt] at hrow
                have hNk := hN k
                have hBs : B ≤ wr.heap.size := Nat.le_trans hBw hI2.chg.size
                have HI := Lib.hid hI2
                have HP := Lib.hid hP2
                have HX := Lib.hid hx
                by_cases hlt2 : j < 64
                · clear hI2 hP2 hx
                  go_wp2_with (first
                    | (go_at_call 48; refine (mark_any _ _ _).mono ?_; rintro e w' ⟨rfl, rfl⟩)
                    | (at_builtin; refine wpl_app 23 47 Tryz.underlying23 info64 rfl (by decide) rfl _ _ rfl B _ (N k + j) (ms64 k (N k + j)) rfl (hrow.alloc _) wr.heap.size (.int .u64 (mk k ((N k : Int) + (j : Int)))) rfl (World.cell?_alloc_at _ _ _ _ rfl) rfl (by omega) (by simp; omega) ?_))
                  intro g cap' w1 hown1 hg1 hBg hgl hgo
                  go_wp2
                  go_roundw
                  case rel =>
                    refine ⟨j + 1, updR r2 (4 + k) ⟨.slice (some ⟨g, 0, none⟩) (N k + j + 1) cap', (r2 (4 + k)).E, N k + j + 1, ms64 k (N k + j) ++ [.int .u64 (mk k ((N k : Int) + (j : Int)))]⟩, by omega, by go_num, ?_, HP.out.step hlt _⟩
                    refine HI.out.app (by omega) (by omega) (((Chg.refl _ _).alloc _).trans (Chg.of_grown (by rw [HX.out.1]; exact hg1))) (by rw [HI.out.rw k hlt]; exact hown1) ?_
                    rw [HX.out.1]
                    rcases hgo with h | h
                    · exact .inl h
                    · right; omega
                  case measure => simp [intOf]; omega
                · obtain rfl : j = 64 := by omega
                  have hr2 := hI2.fam.own 2 (by omega)
                  have hr2e := hP2.2.2.2.2.1
                  rw [hr2e] at hr2
                  obtain ⟨a2, c2, rfl⟩ := owns_form hrow
                  have HR2 := Lib.hid hr2e
                  clear hI2 hP2 hx hr2e
                  go_wp2_with (at_builtin; refine wpl_app 35 23 Tryz.underlying35 infoL64 rfl (by decide) rfl _ _ rfl B _ k _ rfl (hr2.alloc _) wr.heap.size (.slice a2 (N k + 64) c2) rfl (World.cell?_alloc_at _ _ _ _ rfl) rfl (by omega) (by simp; omega) ?_)
                  intro g cap' w1 hown1 hg1 hBg hgl hgo
                  go_wp2
                  go_roundw
                  case rel =>
                    refine ⟨k + 1, updR r2 2 ⟨.slice (some ⟨g, 0, none⟩) (k + 1) cap', (r2 2).E, k + 1, (r2 2).xs ++ [.slice a2 (N k + 64) c2]⟩, by omega, by go_num, ?_, HP.out.done _⟩
                    refine HI.out.app (by omega) (by omega) (((Chg.refl _ _).alloc _).trans (Chg.of_grown (by rw [HR2.out]; exact hg1))) (by rw [HR2.out]; exact hown1) ?_
                    rw [HR2.out]
                    rcases hgo with h | h
                    · exact .inl h
                    · right; omega
                  case measure => simp [intOf]; omega
            · obtain rfl : nw = k := by omega
              go_wp2
              obtain ⟨wo, rfl⟩ : ∃ wo : World, wo = wr := ⟨_, rfl⟩
              go_loopw [11, 12] (fun V i wr => ∃ k r, k ≤ nb ∧ i = .int .i64 (k : Nat) ∧ BkI w wr B bk T nw nb (.slice aw nw cw) (.slice ab nb cb) S U N M r ∧ Ph4 nw nb U N M k u7 V r) (fun _ i _ => nb - (intOf i).toNat)
              case atStart => exact ⟨0, r1, Nat.zero_le _, rfl, hI1, hP1.ph4⟩
              case round =>
                clear hI1 hP1 hc0
                obtain ⟨k, r1, hk, rfl, hI1, hP1⟩ := hrel
                have hc0 := hI1.c1
                by_cases hlt : k < nb
                · obtain ⟨gb, cx, hv, _, _⟩ := owns_some hI1.own1 (show 0 < nb by omega)
                  cases hv
                  have hck : wr.cell? ⟨gb, k, none⟩ = some (U k) := by rw [hI1.own1.cellAt k (by omega)]; simp [hlt]
                  obtain ⟨ak, ck, hSk⟩ : ∃ a c, U k = .slice a (M k) c := by
                    have hrow := hI1.fam.own (4 + nw + k) (by omega)
                    have hx := (hP1.start hlt).2.2.1
                    rw [hx.1, hx.2.1] at hrow
                    exact owns_form hrow
                  have HP1 := Lib.hid (hP1.start hlt)
                  rw [hSk] at hck HP1
                  have HSk := Lib.hid hSk
                  have HI1 := Lib.hid hI1
                  clear hP1 hSk hI1
                  go_wp2
                  have hI1 := HI1.out
                  have hP1 := HP1.out
                  clear HI1 HP1
                  obtain ⟨wo, rfl⟩ : ∃ wo : World, wo = wr := ⟨_, rfl⟩
                  go_loopw [13, 14] (fun v i wr => ∃ j r, j ≤ 64 ∧ i = .int .i64 (j : Nat) ∧ BkI w wr B bk T nw nb (.slice aw nw cw) (.slice (some ⟨gb, 0, none⟩) nb cb) S U N M r ∧ Ph4i nw nb U N M k j u7 u11 v r) (fun _ i _ => 64 - (intOf i).toNat)
                  case atStart => exact ⟨0, r1, Nat.zero_le _, rfl, hI1, hP1⟩
                  case round =>
                    clear hI1 hP1 hc0 hck
                    obtain ⟨j, r2, hj, rfl, hI2, hP2⟩ := hrel
                    have hc0 := hI2.c1
                    have hck : wr.cell? ⟨gb, k, none⟩ = some (.slice ak (M k) ck) := by rw [hI2.own1.cellAt k (by omega), ← HSk.out]; simp [hlt]
                    have hrow := hI2.fam.own (4 + nw + k) (by omega)
                    have hx := hP2.2.2.1
                    rw [hx.1, hx.2.1, hx.2.2, hI2.rb k hlt] at hrow
                    have hNk := hM k
                    have hBs : B ≤ wr.heap.size := Nat.le_trans hBw hI2.chg.size
                    have HI := Lib.hid hI2
                    have HP := Lib.hid hP2
                    have HX := Lib.hid hx
                    by_cases hlt2 : j < 64
                    · clear hI2 hP2 hx
                      go_wp2_with (first
                        | (go_at_call 48; refine (mark_any _ _ _).mono ?_; rintro e w' ⟨rfl, rfl⟩)
                        | (at_builtin; refine wpl_app 40 5 Tryz.underlying40 info8 rfl (by decide) rfl _ _ rfl B _ (M k + j) (ms8 k (M k + j)) rfl (hrow.alloc _) wr.heap.size (.int .u8 (IntKind.u8.wrap (mk k ((M k : Int) + (j : Int))))) rfl (World.cell?_alloc_at _ _ _ _ rfl) rfl (by omega) (by simp; omega) ?_))
                      intro g cap' w1 hown1 hg1 hBg hgl hgo
                      go_wp2
                      go_roundw
                      case rel =>
                        refine ⟨j + 1, updR r2 (4 + nw + k) ⟨.slice (some ⟨g, 0, none⟩) (M k + j + 1) cap', (r2 (4 + nw + k)).E, M k + j + 1, ms8 k (M k + j) ++ [.int .u8 (IntKind.u8.wrap (mk k ((M k : Int) + (j : Int))))]⟩, by omega, by go_num, ?_, HP.out.step  _⟩
                        refine HI.out.app (by omega) (by omega) (((Chg.refl _ _).alloc _).trans (Chg.of_grown (by rw [HX.out.1]; exact hg1))) (by rw [HI.out.rb k hlt]; exact hown1) ?_
                        rw [HX.out.1]
                        rcases hgo with h | h
                        · exact .inl h
                        · right; omega
                      case measure => simp [intOf]; omega
                    · obtain rfl : j = 64 := by omega
                      have hr2 := hI2.fam.own 3 (by omega)
                      have hr2e := hP2.2.2.2.2.2
                      rw [hr2e] at hr2
                      obtain ⟨a2, c2, rfl⟩ := owns_form hrow
                      have HR2 := Lib.hid hr2e
                      clear hI2 hP2 hx hr2e
                      go_wp2_with (at_builtin; refine wpl_app 36 40 Tryz.underlying36 infoL8 rfl (by decide) rfl _ _ rfl B _ k _ rfl (hr2.alloc _) wr.heap.size (.slice a2 (M k + 64) c2) rfl (World.cell?_alloc_at _ _ _ _ rfl) rfl (by omega) (by simp; omega) ?_)
                      intro g cap' w1 hown1 hg1 hBg hgl hgo
                      go_wp2
                      go_roundw
                      case rel =>
                        refine ⟨k + 1, updR r2 3 ⟨.slice (some ⟨g, 0, none⟩) (k + 1) cap', (r2 3).E, k + 1, (r2 3).xs ++ [.slice a2 (M k + 64) c2]⟩, by omega, by go_num, ?_, HP.out.done _⟩
                        refine HI.out.app (by omega) (by omega) (((Chg.refl _ _).alloc _).trans (Chg.of_grown (by rw [HR2.out]; exact hg1))) (by rw [HR2.out]; exact hown1) ?_
                        rw [HR2.out]
                        rcases hgo with h | h
                        · exact .inl h
                        · right; omega
                      case measure => simp [intOf]; omega
                · obtain rfl : nb = k := by omega
                  go_wp2
                  obtain ⟨wo, rfl⟩ : ∃ wo : World, wo = wr := ⟨_, rfl⟩
                  have HP := Lib.hid hP1
                  clear hP1
                  go_loopw [15] (fun i wr => ∃ k : Nat, k ≤ nw ∧ i = .int .i64 k ∧ BkI w wr B bk T nw nb (.slice aw nw cw) (.slice ab nb cb) S U N M r1) (fun i _ => nw - (intOf i).toNat)
                  case atStart => exact ⟨0, Nat.zero_le _, rfl, hI1⟩
                  case round =>
                    clear hI1
                    obtain ⟨k, hk, rfl, hI1⟩ := hrel
                    have hown2 := hI1.fam.own 2 (by omega)
                    rw [HP.out.2.2.2.1] at hown2
                    dsimp only at hown2
                    by_cases hlt : k < nw
                    · obtain ⟨g2, c2, rfl, _, _⟩ := owns_some hown2 (show 0 < nw by omega)
                      have HI := Lib.hid hI1
                      have HO := Lib.hid hown2
                      clear hI1 hown2
                      go_wp2
                      obtain ⟨wo, rfl⟩ : ∃ wo : World, wo = wr := ⟨_, rfl⟩
                      go_loopw [16] (fun i wr => ∃ j : Nat, j ≤ N k + 64 ∧ i = .int .i64 j ∧ BkI w wr B bk T nw nb (.slice aw nw cw) (.slice ab nb cb) S U N M r1) (fun i _ => N k + 64 - (intOf i).toNat)
                      case atStart => exact ⟨0, Nat.zero_le _, rfl, HI.out⟩
                      case round =>
                        clear HI HO
                        obtain ⟨j, hj, rfl, hI1⟩ := hrel
                        have hown2 := hI1.fam.own 2 (by omega)
                        rw [HP.out.2.2.2.1] at hown2
                        dsimp only at hown2
                        have hck : wr.cell? ⟨g2, k, none⟩ = some ((r1 (4 + k)).v) := by rw [hown2.cellAt k (by omega)]; simp [hlt]
                        have hrow := hI1.fam.own (4 + k) (by omega)
                        have hx := HP.out.1 k hlt
                        rw [hx.1, hx.2] at hrow
                        have hNk := hN k
                        have HI := Lib.hid hI1
                        by_cases hlt2 : j < N k + 64
                        · obtain ⟨g, c, hv, _, _⟩ := owns_some hrow (by omega)
                          rw [hv] at hck hrow
                          have hcs := hrow.cellAt j (by omega)
                          rw [ms64_get _ _ _ hlt2] at hcs
                          clear hI1 hown2 hrow hx hv
                          go_wp2
                          go_quiet ((go_at_call 48; exact Calls.quiet_of_same (mark_q _ _ _)))
                          go_wp2
                          go_roundw
                          case rel => exact ⟨j + 1, by omega, by go_num, HI.out.still ((Chg.refl _ _).drewN _)⟩
                          case measure => simp [intOf]; omega
                        · obtain rfl : j = N k + 64 := by omega
                          obtain ⟨a, c, hv⟩ := owns_form hrow
                          rw [hv] at hck
                          clear hI1 hown2 hrow hx hv
                          go_wp2
                          go_roundw
                          case rel => exact ⟨k + 1, by omega, by go_num, HI.out⟩
                          case measure => simp [intOf]; omega
                    · obtain rfl : nw = k := by omega
                      obtain ⟨a2, c2, rfl⟩ := owns_form hown2
                      clear hown2
                      go_wp2
                      obtain ⟨wo, rfl⟩ : ∃ wo : World, wo = wr := ⟨_, rfl⟩
                      go_loopw [17] (fun i wr => ∃ k : Nat, k ≤ nb ∧ i = .int .i64 k ∧ BkI w wr B bk T nw nb (.slice aw nw cw) (.slice ab nb cb) S U N M r1) (fun i _ => nb - (intOf i).toNat)
                      case atStart => exact ⟨0, Nat.zero_le _, rfl, hI1⟩
                      case round =>
                        clear hI1
                        obtain ⟨k, hk, rfl, hI1⟩ := hrel
                        have hown2 := hI1.fam.own 3 (by omega)
                        rw [HP.out.2.2.2.2] at hown2
                        dsimp only at hown2
                        by_cases hlt : k < nb
                        · obtain ⟨g2, c2, rfl, _, _⟩ := owns_some hown2 (show 0 < nb by omega)
                          have HI := Lib.hid hI1
                          have HO := Lib.hid hown2
                          clear hI1 hown2
                          go_wp2
                          obtain ⟨wo, rfl⟩ : ∃ wo : World, wo = wr := ⟨_, rfl⟩
                          go_loopw [18] (fun i wr => ∃ j : Nat, j ≤ M k + 64 ∧ i = .int .i64 j ∧ BkI w wr B bk T nw nb (.slice aw nw cw) (.slice ab nb cb) S U N M r1) (fun i _ => M k + 64 - (intOf i).toNat)
                          case atStart => exact ⟨0, Nat.zero_le _, rfl, HI.out⟩
                          case round =>
                            clear HI HO
                            obtain ⟨j, hj, rfl, hI1⟩ := hrel
                            have hown2 := hI1.fam.own 3 (by omega)
                            rw [HP.out.2.2.2.2] at hown2
                            dsimp only at hown2
                            have hck : wr.cell? ⟨g2, k, none⟩ = some ((r1 (4 + nw + k)).v) := by rw [hown2.cellAt k (by omega)]; simp [hlt]
                            have hrow := hI1.fam.own (4 + nw + k) (by omega)
                            have hx := HP.out.2.2.1 k hlt
                            rw [hx.1, hx.2] at hrow
                            have hNk := hM k
                            have HI := Lib.hid hI1
                            by_cases hlt2 : j < M k + 64
                            · obtain ⟨g, c, hv, _, _⟩ := owns_some hrow (by omega)
                              rw [hv] at hck hrow
                              have hcs := hrow.cellAt j (by omega)
                              rw [ms8_get _ _ _ hlt2] at hcs
                              clear hI1 hown2 hrow hx hv
                              go_wp2
                              go_quiet ((go_at_call 48; exact Calls.quiet_of_same (mark_q _ _ _)))
                              go_wp2
                              go_roundw
                              case rel => exact ⟨j + 1, by omega, by go_num, HI.out.still ((Chg.refl _ _).drewN _)⟩
                              case measure => simp [intOf]; omega
                            · obtain rfl : j = M k + 64 := by omega
                              obtain ⟨a, c, hv⟩ := owns_form hrow
                              rw [hv] at hck
                              clear hI1 hown2 hrow hx hv
                              go_wp2
                              go_roundw
                              case rel => exact ⟨k + 1, by omega, by go_num, HI.out⟩
                              case measure => simp [intOf]; omega
                        · obtain rfl : nb = k := by omega
                          obtain ⟨a2, c2, rfl⟩ := owns_form hown2
                          clear hown2
                          go_wp2
                          go_ret
                          exact ⟨rfl, hI1.chg⟩

theorem owns_below {w w' : World} {B E n : Nat} {v : Value} {xs : List Value} (h : w.ownsRow B E 1 v n xs) (hb : Below w.heap.size w w') : w'.ownsRow B E 1 v n xs :=
  (Chg.of_below hb).owns h fun k hk => by have := World.ownsRow.lt h k hk; omega
theorem own64.below {w w' : World} {B : Nat} {v : Value} {zs : List Nat} (h : own64 w B v zs) (hb : Below w.heap.size w w') : own64 w' B v zs := owns_below h hb
theorem rw64.own {w : World} {B : Nat} {v : Value} {zs : List Nat} (h : own64 w B v zs) : w.ownsRow B 47 1 v zs.length (u64s zs) := h
theorem Sep.upd2 {w w' : World} {B bk : Nat} {r r' : Rw} {R : List Rw} (h : Sep w B (r :: R)) (hc : Chg (fun k => k = bk ∨ some k = r.v.ownBlock) w w') (hbk : ∀ s ∈ R, s.v.ownBlock ≠ some bk) (ho : w'.ownsRow B r'.E 1 r'.v r'.n r'.xs)
    (hb : ∀ k, r'.v.ownBlock = some k → r.v.ownBlock = some k ∨ w.heap.size ≤ k) : Sep w' B (r' :: R) := by
  obtain ⟨h1, h2⟩ := h
  have hp := List.pairwise_cons.1 h2
  refine ⟨fun s hs => ?_, List.pairwise_cons.2 ⟨fun s hs k hk hk' => ?_, hp.2⟩⟩
  · rcases List.mem_cons.1 hs with rfl | hs
    · exact ho
    · refine hc.owns (h1 s (List.mem_cons_of_mem _ hs)) (fun k hk e => ?_)
      rcases e with rfl | e
      · exact hbk s hs hk
      · exact hp.1 s hs k e.symm hk
  · rcases hb k hk with hb | hb
    · exact hp.1 s hs k hb hk'
    · have := World.ownsRow.lt (h1 s (List.mem_cons_of_mem _ hs)) k hk'
      omega
/-- A list of limbs as a row. -/
def rw64 (v : Value) (zs : List Nat) : Rw := ⟨v, 47, zs.length, u64s zs⟩

theorem Sep.nilRow {w : World} {B : Nat} {R : List Rw} (h : Sep w B R) (E : TypeId) : Sep w B (⟨.slice none 0 0, E, 0, []⟩ :: R) :=
  h.add (Chg.refl _ _) (World.ownsRow_nil _ _ _ _) (fun k hk => by cases hk)
def rwNo : Rw := ⟨.slice none 0 0, 23, 0, []⟩
def rwNo8 : Rw := ⟨.slice none 0 0, 40, 0, []⟩
theorem map_getD (L : List Rw) (d : Rw) : (List.range L.length).map (fun i => (L.getD i d).v) = L.map (·.v) := by
  apply List.ext_getElem (by simp)
  intro i h1 h2
  simp at h1
  simp [List.getD, h1]
/-- The book's lists: all apart. -/
theorem apart_rows (B bk T : Nat) (vw vb : Value) (WL BL : List Rw) (w : World)
    (hsep : Sep w B (⟨vw, 23, WL.length, WL.map (·.v)⟩ :: ⟨vb, 40, BL.length, BL.map (·.v)⟩ :: rwNo :: rwNo8 :: (WL ++ BL)))
    (hoff : ∀ s ∈ (⟨vw, 23, WL.length, WL.map (·.v)⟩ :: ⟨vb, 40, BL.length, BL.map (·.v)⟩ :: rwNo :: rwNo8 :: (WL ++ BL) : List Rw), s.v.ownBlock ≠ some bk)
    (hbk : w.heap[bk]? = some (.cells #[vw, vb] T (0, 0))) (hEw : ∀ s ∈ WL, s.E = 47 ∧ s.n ≤ 1099511627776) (hEb : ∀ s ∈ BL, s.E = 5 ∧ s.n ≤ 1099511627776)
    (hlw : WL.length ≤ 1099511627776) (hlb : BL.length ≤ 1099511627776) (hBw : B ≤ w.heap.size) :
    Calls Tryz.prog 18 #[.pointer (some ⟨bk, 0, none⟩)] w fun e w' => e = .returned (.bool true) ∧ Chg (fun k => B ≤ k) w w' := by
  obtain ⟨R, hR⟩ : ∃ R, R = (⟨vw, 23, WL.length, WL.map (·.v)⟩ :: ⟨vb, 40, BL.length, BL.map (·.v)⟩ :: rwNo :: rwNo8 :: (WL ++ BL) : List Rw) := ⟨_, rfl⟩
  have hlen : R.length = 4 + WL.length + BL.length := by rw [hR]; simp; omega
  have hw : ∀ i, i < WL.length → R.getD (4 + i) rwNo = WL.getD i rwNo := fun i hi => by
    rw [hR, Nat.add_comm]
    simp only [List.getD, List.getElem?_cons_succ]
    rw [List.getElem?_append_left hi]
  have hb : ∀ i, i < BL.length → R.getD (4 + WL.length + i) rwNo = BL.getD i rwNo := fun i hi => by
    rw [hR, show 4 + WL.length + i = WL.length + i + 4 by omega]
    simp only [List.getD, List.getElem?_cons_succ]
    rw [List.getElem?_append_right (by omega), Nat.add_sub_cancel_left]
  have mw : ∀ i, i < WL.length → WL.getD i rwNo ∈ WL := fun i hi => by simp only [List.getD, List.getElem?_eq_getElem hi, Option.getD_some]; exact List.getElem_mem hi
  have mb : ∀ i, i < BL.length → BL.getD i rwNo ∈ BL := fun i hi => by simp only [List.getD, List.getElem?_eq_getElem hi, Option.getD_some]; exact List.getElem_mem hi
  have mr : ∀ i, i < R.length → R.getD i rwNo ∈ R := fun i hi => by simp only [List.getD, List.getElem?_eq_getElem hi, Option.getD_some]; exact List.getElem_mem hi
  rw [← hR] at hsep hoff
  refine apart_any B bk T WL.length BL.length vw vb (fun i => (WL.getD i rwNo).v) (fun i => (BL.getD i rwNo).v) (fun i => min (WL.getD i rwNo).n 1099511627776) (fun i => min (BL.getD i rwNo).n 1099511627776) (fun i => R.getD i rwNo) w ?_ ?_ (fun i => Nat.min_le_right _ _) (fun i => Nat.min_le_right _ _) hlw hlb hBw
  · refine ⟨hbk, ?_, fun i hi => hoff _ (mr i (by omega)), ?_, ?_, fun i hi => ?_, fun i hi => ?_, Chg.refl _ _⟩
    · have := Sep.fam rwNo hsep
      rw [hlen] at this
      exact this
    · show R.getD 0 rwNo = _
      rw [hR, map_getD]; rfl
    · show R.getD 1 rwNo = _
      rw [hR, map_getD]; rfl
    · show (R.getD (4 + i) rwNo).E = _
      rw [hw i hi]; exact (hEw _ (mw i hi)).1
    · show (R.getD (4 + WL.length + i) rwNo).E = _
      rw [hb i hi]; exact (hEb _ (mb i hi)).1
  · refine ⟨⟨fun i hi => ?_, fun i hi => ?_, trivial⟩, ?_, ?_, fun i hi => by omega⟩
    · show (R.getD (4 + i) rwNo).v = _ ∧ (R.getD (4 + i) rwNo).n = _
      rw [hw i hi]
      exact ⟨rfl, (Nat.min_eq_left (hEw _ (mw i hi)).2).symm⟩
    · show (R.getD (4 + WL.length + i) rwNo).v = _ ∧ (R.getD (4 + WL.length + i) rwNo).n = _
      rw [hb i hi]
      exact ⟨rfl, (Nat.min_eq_left (hEb _ (mb i hi)).2).symm⟩
    · show R.getD 2 rwNo = _
      rw [hR]; rfl
    · show R.getD 3 rwNo = _
      rw [hR]; rfl

/-- The book with its lists, and the rows about it. -/
structure Bok (w : World) (B bk T : Nat) (WV BV : List Value) (R : List Rw) (vw vb : Value) : Prop where
  book : w.heap[bk]? = some (.cells #[vw, vb] T (0, 0))
  sep : Sep w B (⟨vw, 23, WV.length, WV⟩ :: ⟨vb, 40, BV.length, BV⟩ :: R)
  off : ∀ s ∈ R, s.v.ownBlock ≠ some bk
  offw : ∀ k, vw.ownBlock = some k → bk < k
  offb : ∀ k, vb.ownBlock = some k → bk < k
  base : B ≤ bk
theorem Bok.start {w : World} {B T : Nat} {R : List Rw} (h : Sep w B R) (hB : B ≤ w.heap.size) {bk : Nat} (hk : bk = w.heap.size) : Bok (w.alloc (.cells #[.slice none 0 0, .slice none 0 0] T)) B bk T [] [] R (.slice none 0 0) (.slice none 0 0) := by
  subst hk
  refine ⟨heap_alloc_new w _, ((h.chg ((Chg.refl (fun _ => False) w).alloc _) (fun _ _ _ _ h => h)).nilRow _).nilRow _, fun s hs hk => ?_, (fun k hk => by cases hk), (fun k hk => by cases hk), hB⟩
  have := World.ownsRow.lt (h.1 s hs) _ hk
  omega
theorem Bok.lt {w : World} {B bk T : Nat} {WV BV : List Value} {R : List Rw} {vw vb : Value} (h : Bok w B bk T WV BV R vw vb) : bk < w.heap.size := lt_of_block h.book
theorem Bok.words {w : World} {B bk T : Nat} {WV BV : List Value} {R : List Rw} {vw vb : Value} (h : Bok w B bk T WV BV R vw vb) (va : Option Addr) (vn vc : Nat) (hn : WV.length + 1 ≤ 1099511627776) :
    Calls Tryz.prog 47 #[.pointer (some ⟨bk, 0, none⟩), .slice va vn vc] w fun e w' => e = .returned (.tuple #[]) ∧ (∃ vw', Bok w' B bk T (WV ++ [.slice va vn vc]) BV R vw' vb) ∧ Below bk w w' := by
  have hlt := h.lt
  have hbs := h.base
  refine (bookWords_any bk B WV.length vw vb WV va vn vc w T h.book h.sep.head (fun hk => by have := h.offw _ hk; omega) hn (by omega)).mono ?_
  rintro e w' ⟨rfl, g, cap, hbk, hown, hc, hg⟩
  have hbg : bk < g := by
    rcases hg with hg | hg
    · exact h.offw _ hg
    · omega
  refine ⟨rfl, ⟨_, hbk, ?_, h.off, (fun k hk => ?_), h.offb, hbs⟩, hc.below (Nat.le_of_lt hlt) fun k hk => ?_⟩
  · refine h.sep.upd2 (r' := ⟨.slice (some ⟨g, 0, none⟩) (WV.length + 1) cap, 23, (WV ++ [Value.slice va vn vc]).length, WV ++ [Value.slice va vn vc]⟩) hc (fun s hs hk => ?_) (by simpa using hown) fun k hk => ?_
    · rcases List.mem_cons.1 hs with rfl | hs
      · have := h.offb _ hk; omega
      · exact h.off s hs hk
    · have : g = k := by simpa [Value.ownBlock] using hk
      subst this
      exact hg
  · have : g = k := by simpa [Value.ownBlock] using hk
    omega
  · rcases hk with rfl | hk
    · exact Nat.le_refl _
    · exact Nat.le_of_lt (h.offw k hk.symm)
theorem Bok.apart {w : World} {B bk T : Nat} {WL BL : List Rw} {vw vb : Value} (h : Bok w B bk T (WL.map (·.v)) (BL.map (·.v)) (rwNo :: rwNo8 :: (WL ++ BL)) vw vb)
    (hEw : ∀ s ∈ WL, s.E = 47 ∧ s.n ≤ 1099511627776) (hEb : ∀ s ∈ BL, s.E = 5 ∧ s.n ≤ 1099511627776) (hlw : WL.length ≤ 1099511627776) (hlb : BL.length ≤ 1099511627776) :
    Calls Tryz.prog 18 #[.pointer (some ⟨bk, 0, none⟩)] w fun e w' => e = .returned (.bool true) ∧ Below B w w' := by
  have hlt := h.lt
  have hbs := h.base
  have hsep := h.sep
  simp only [List.length_map] at hsep
  refine (apart_rows B bk T vw vb WL BL w hsep (fun s hs hk => ?_) h.book hEw hEb hlw hlb (by omega)).mono ?_
  · rcases List.mem_cons.1 hs with rfl | hs
    · have := h.offw _ hk; omega
    · rcases List.mem_cons.1 hs with rfl | hs
      · have := h.offb _ hk; omega
      · exact h.off s hs hk
  · rintro e w' ⟨rfl, hc⟩
    exact ⟨rfl, hc.below (by omega) fun k hk => hk⟩
theorem Bok.below {w w' : World} {B bk T : Nat} {WV BV : List Value} {R : List Rw} {vw vb : Value} (h : Bok w B bk T WV BV R vw vb) (hb : Below w.heap.size w w') : Bok w' B bk T WV BV R vw vb :=
  ⟨(hb.block _ h.lt).trans h.book, h.sep.chg (Chg.of_below hb) (fun r hr k hk => by have := World.ownsRow.lt (h.sep.1 r hr) k hk; omega), h.off, h.offw, h.offb, h.base⟩
end Go.Proofs.YtaookoejdnkkoaaGreatDoor
