import Derived.Test.YthhchpmlljfpjaaGreatNfK
namespace Go.Proofs.YthhchpmlljfpjaaGreat
open Go.RowKit

section
/-! A machine over a text: which states are at a place, and how many steps it takes. Pure. -/
/-- A state leads to another without a byte; b: at the beginning, e: at the end. -/
def Lead (L : List St) (b e : Prop) (i j : Nat) : Prop :=
  ∃ s, L[i]? = some s ∧ ((s.k = 2 ∧ (j = s.x.toNat ∨ j = s.y.toNat)) ∨ (s.k = 3 ∧ b ∧ j = s.x.toNat) ∨ (s.k = 4 ∧ e ∧ j = s.x.toNat))
/-- A state leads to another by a byte. -/
def ByC (L : List St) (c : Nat) (i j : Nat) : Prop := ∃ s, L[i]? = some s ∧ s.k = 1 ∧ s.s.has c = true ∧ j = s.x.toNat
/-- The states at a place. -/
inductive At (L : List St) (q : Nat) (T : List Nat) : Nat → Nat → Prop
  | start {p : Nat} : p ≤ T.length → At L q T p q
  | byte {p i j c : Nat} : At L q T p i → T[p]? = some c → ByC L c i j → At L q T (p + 1) j
  | lead {p i j : Nat} : At L q T p i → Lead L (p = 0) (p = T.length) i j → At L q T p j
theorem At.le {L : List St} {q : Nat} {T : List Nat} {p i : Nat} (h : At L q T p i) : p ≤ T.length := by
  induction h with
  | start h => exact h
  | byte _ h _ _ =>
    have := (List.getElem?_eq_some_iff.1 h).1
    omega
  | lead _ _ h => exact h
theorem okS_x {n : Nat} {s : St} (h : okS n s = true) (hk : s.k ≠ 5) : 0 ≤ s.x ∧ s.x < (n : Int) ∧ (s.k = 1 ∨ s.k = 2 ∨ s.k = 3 ∨ s.k = 4) := by
  unfold okS at h
  simp at h
  omega
theorem okS_y {n : Nat} {s : St} (h : okS n s = true) (hk : s.k = 2) : 0 ≤ s.y ∧ s.y < (n : Int) := by
  unfold okS at h
  simp at h
  omega
/-- A machine that may be. -/
structure MachOk (L : List St) (q : Nat) : Prop where
  len : L.length ≤ 4096
  lt : q < L.length
  all : L.all (okS L.length) = true
theorem MachOk.ok {L : List St} {q i : Nat} {s : St} (h : MachOk L q) (hi : L[i]? = some s) : okS L.length s = true :=
  List.all_eq_true.1 h.all _ (List.mem_of_getElem? hi)
theorem MachOk.lead {L : List St} {q i j : Nat} {b e : Prop} (h : MachOk L q) (hl : Lead L b e i j) : j < L.length := by
  obtain ⟨s, hs, hh⟩ := hl
  have ho := h.ok hs
  rcases hh with ⟨hk, rfl | rfl⟩ | ⟨hk, _, rfl⟩ | ⟨hk, _, rfl⟩
  · have := okS_x ho (by omega); omega
  · have := okS_y ho hk; omega
  · have := okS_x ho (by omega); omega
  · have := okS_x ho (by omega); omega
theorem MachOk.byC {L : List St} {q i j c : Nat} (h : MachOk L q) (hl : ByC L c i j) : j < L.length := by
  obtain ⟨s, hs, hk, _, rfl⟩ := hl
  have := okS_x (h.ok hs) (by omega)
  omega
theorem At.lt {L : List St} {q : Nat} {T : List Nat} {p i : Nat} (hm : MachOk L q) (h : At L q T p i) : i < L.length := by
  cases h with
  | start => exact hm.lt
  | byte _ _ h => exact hm.byC h
  | lead _ h => exact hm.lead h
/-- What is there at a place already: the start, and what the place ahead leads on to. -/
def Seed (L : List St) (q : Nat) (T : List Nat) (p j : Nat) : Prop := (j = q ∧ p ≤ T.length) ∨ ∃ p' i c, p = p' + 1 ∧ At L q T p' i ∧ T[p']? = some c ∧ ByC L c i j
theorem Seed.at {L : List St} {q : Nat} {T : List Nat} {p j : Nat} (h : Seed L q T p j) : At L q T p j := by
  rcases h with ⟨rfl, h⟩ | ⟨p', i, c, rfl, h1, h2, h3⟩
  · exact .start h
  · exact .byte h1 h2 h3
/-- What has the seeds and goes on without a byte has all. -/
theorem At.closed {L : List St} {q : Nat} {T : List Nat} {p : Nat} {X : Nat → Prop} (hs : ∀ j, Seed L q T p j → X j) (hc : ∀ i j, X i → Lead L (p = 0) (p = T.length) i j → X j)
    {i : Nat} (h : At L q T p i) : X i := by
  induction h with
  | start h => exact hs _ (.inl ⟨rfl, h⟩)
  | byte h1 h2 h3 => exact hs _ (.inr ⟨_, _, _, rfl, h1, h2, h3⟩)
  | lead h1 h2 ih => exact hc _ _ (ih hs hc) h2
/-- A list of states, each once, that are those at a place. -/
structure Crowd (L : List St) (q : Nat) (T : List Nat) (p : Nat) (X : List Nat) : Prop where
  one : X.Nodup
  mem : ∀ i, i ∈ X ↔ At L q T p i
open Classical in
/-- The states at a place, in their order. -/
noncomputable def crowd (L : List St) (q : Nat) (T : List Nat) (p : Nat) : List Nat := (List.range L.length).filter fun i => decide (At L q T p i)
theorem crowd_crowd {L : List St} {q : Nat} {T : List Nat} {p : Nat} (hm : MachOk L q) : Crowd L q T p (crowd L q T p) := by
  refine ⟨List.Nodup.sublist List.filter_sublist List.nodup_range, fun i => ?_⟩
  unfold crowd
  rw [List.mem_filter, List.mem_range]
  simp
  exact fun h => h.lt hm
theorem Crowd.length {L : List St} {q : Nat} {T : List Nat} {p : Nat} {X : List Nat} (hm : MachOk L q) (h : Crowd L q T p X) : X.length = (crowd L q T p).length :=
  ((List.perm_ext_iff_of_nodup h.one (crowd_crowd hm).one).2 fun i => (h.mem i).trans ((crowd_crowd hm).mem i).symm).length_eq
theorem crowd_le {L : List St} {q : Nat} {T : List Nat} {p : Nat} : (crowd L q T p).length ≤ L.length := by
  have := (List.filter_sublist (p := fun i => @decide (At L q T p i) (Classical.propDecidable _)) (l := List.range L.length)).length_le
  rw [List.length_range] at this
  exact this
theorem crowd_pos {L : List St} {q : Nat} {T : List Nat} {p : Nat} (hm : MachOk L q) (hp : p ≤ T.length) : 1 ≤ (crowd L q T p).length :=
  List.length_pos_of_mem (((crowd_crowd hm).mem q).2 (.start hp))
/-- A StateDone is at the place. -/
def DoneAt (L : List St) (q : Nat) (T : List Nat) (p : Nat) : Prop := ∃ i s, At L q T p i ∧ L[i]? = some s ∧ s.k = 5
open Classical in
/-- Over so many places from one on: found, and the steps. -/
noncomputable def goOn (L : List St) (q : Nat) (T : List Nat) : Nat → Nat → Bool × Nat
  | _, 0 => (false, 0)
  | p, k + 1 => if DoneAt L q T p then (true, (crowd L q T p).length) else ((goOn L q T (p + 1) k).1, (crowd L q T p).length + (goOn L q T (p + 1) k).2)
noncomputable def hasM (L : List St) (q : Nat) (T : List Nat) : Bool × Nat := goOn L q T 0 (T.length + 1)
theorem goOn_done {L : List St} {q : Nat} {T : List Nat} {p k : Nat} (h : DoneAt L q T p) : goOn L q T p (k + 1) = (true, (crowd L q T p).length) := by rw [goOn, if_pos h]
theorem goOn_more {L : List St} {q : Nat} {T : List Nat} {p k : Nat} (h : ¬ DoneAt L q T p) :
    goOn L q T p (k + 1) = ((goOn L q T (p + 1) k).1, (crowd L q T p).length + (goOn L q T (p + 1) k).2) := by rw [goOn, if_neg h]
theorem goOn_le (L : List St) (q : Nat) (T : List Nat) : ∀ k p, (goOn L q T p k).2 ≤ L.length * k
  | 0, _ => Nat.zero_le _
  | k + 1, p => by
    have h1 := goOn_le L q T k (p + 1)
    have h2 := crowd_le (L := L) (q := q) (T := T) (p := p)
    by_cases h : DoneAt L q T p
    · rw [goOn_done h, Nat.mul_succ]
      exact Nat.le_trans h2 (Nat.le_add_left _ _)
    · rw [goOn_more h, Nat.mul_succ]
      show _ + _ ≤ _
      omega
/-- The steps are at least one, and at most the states times one more than the bytes. -/
theorem hasM_steps {L : List St} {q : Nat} {T : List Nat} (hm : MachOk L q) : 1 ≤ (hasM L q T).2 ∧ (hasM L q T).2 ≤ L.length * (T.length + 1) := by
  refine ⟨?_, goOn_le L q T _ _⟩
  have h1 := crowd_pos (T := T) hm (Nat.zero_le _)
  unfold hasM
  by_cases h : DoneAt L q T 0
  · rw [goOn_done h]; exact h1
  · rw [goOn_more h]
    exact Nat.le_trans h1 (Nat.le_add_right _ _)
/-- Where no state asks for the end, what is behind is of no weight to the places ahead of it. -/
theorem At.front {L : List St} {q : Nat} {T U : List Nat} (hn : ∀ (i : Nat) (s : St), L[i]? = some s → s.k ≠ 4) {p i : Nat} (h : At L q T p i) : At L q (T ++ U) p i := by
  induction h with
  | start h => exact .start (by rw [List.length_append]; omega)
  | byte h1 h2 h3 ih =>
    refine .byte ih ?_ h3
    rw [List.getElem?_append_left (List.getElem?_eq_some_iff.1 h2).1]
    exact h2
  | lead h1 h2 ih =>
    obtain ⟨s, hs, hh⟩ := h2
    refine .lead ih ⟨s, hs, ?_⟩
    rcases hh with h | h | ⟨hk, _⟩
    · exact .inl h
    · exact .inr (.inl h)
    · exact absurd hk (hn _ _ hs)
theorem At.back {L : List St} {q : Nat} {T U : List Nat} (hn : ∀ (i : Nat) (s : St), L[i]? = some s → s.k ≠ 4) {p i : Nat} (h : At L q (T ++ U) p i) (hp : p ≤ T.length) : At L q T p i := by
  induction h with
  | start h => exact .start hp
  | byte h1 h2 h3 ih =>
    refine .byte (ih (by omega)) ?_ h3
    rw [List.getElem?_append_left (by omega)] at h2
    exact h2
  | lead h1 h2 ih =>
    obtain ⟨s, hs, hh⟩ := h2
    refine .lead (ih hp) ⟨s, hs, ?_⟩
    rcases hh with h | h | ⟨hk, _⟩
    · exact .inl h
    · exact .inr (.inl h)
    · exact absurd hk (hn _ _ hs)
theorem at_front {L : List St} {q : Nat} {T U : List Nat} (hn : ∀ (i : Nat) (s : St), L[i]? = some s → s.k ≠ 4) {p : Nat} (hp : p ≤ T.length) (i : Nat) : At L q (T ++ U) p i ↔ At L q T p i :=
  ⟨fun h => h.back hn hp, fun h => h.front hn⟩
theorem crowd_front {L : List St} {q : Nat} {T U : List Nat} (hn : ∀ (i : Nat) (s : St), L[i]? = some s → s.k ≠ 4) {p : Nat} (hp : p ≤ T.length) : crowd L q (T ++ U) p = crowd L q T p := by
  unfold crowd
  congr 1
  funext i
  exact decide_eq_decide.2 (at_front hn hp i)
theorem done_front {L : List St} {q : Nat} {T U : List Nat} (hn : ∀ (i : Nat) (s : St), L[i]? = some s → s.k ≠ 4) {p : Nat} (hp : p ≤ T.length) : DoneAt L q (T ++ U) p ↔ DoneAt L q T p := by
  unfold DoneAt
  constructor
  · rintro ⟨i, s, h, h2⟩; exact ⟨i, s, (at_front hn hp i).1 h, h2⟩
  · rintro ⟨i, s, h, h2⟩; exact ⟨i, s, (at_front hn hp i).2 h, h2⟩
theorem goOn_front {L : List St} {q : Nat} {T U : List Nat} (hn : ∀ (i : Nat) (s : St), L[i]? = some s → s.k ≠ 4) (m : Nat) : ∀ k p, p + k ≤ T.length + 1 →
    ((goOn L q T p k).1 = true → goOn L q (T ++ U) p (k + m) = goOn L q T p k) ∧ (goOn L q T p k).2 ≤ (goOn L q (T ++ U) p (k + m)).2
  | 0, p, _ => ⟨fun h => by simp [goOn] at h, Nat.zero_le _⟩
  | k + 1, p, h => by
    have ih := goOn_front (T := T) (q := q) (U := U) hn m k (p + 1) (by omega)
    have hp : p ≤ T.length := by omega
    rw [show k + 1 + m = (k + m) + 1 by omega]
    by_cases hd : DoneAt L q T p
    · rw [goOn_done hd, goOn_done ((done_front hn hp).2 hd), crowd_front hn hp]
      exact ⟨fun _ => rfl, Nat.le_refl _⟩
    · rw [goOn_more hd, goOn_more (fun h => hd ((done_front hn hp).1 h)), crowd_front hn hp]
      refine ⟨fun h => ?_, Nat.add_le_add_left ih.2 _⟩
      rw [ih.1 h]
/-- What was found is found, by the same steps; with more behind there are no fewer. -/
theorem hasM_front {L : List St} {q : Nat} {T U : List Nat} (hn : ∀ (i : Nat) (s : St), L[i]? = some s → s.k ≠ 4) :
    ((hasM L q T).1 = true → hasM L q (T ++ U) = hasM L q T) ∧ (hasM L q T).2 ≤ (hasM L q (T ++ U)).2 := by
  have := goOn_front (T := T) (q := q) (U := U) hn U.length (T.length + 1) 0 (by omega)
  unfold hasM
  rw [List.length_append, show T.length + U.length + 1 = T.length + 1 + U.length by omega]
  exact this
/-- The program's walk: a list that grows while it is gone over. The first i have been gone over. -/
structure Spr (L : List St) (q : Nat) (T : List Nat) (p i : Nat) (X : List Nat) : Prop where
  one : X.Nodup
  seed : ∀ j, Seed L q T p j → j ∈ X
  mem : ∀ j, j ∈ X → At L q T p j
  led : ∀ (n x j : Nat), n < i → X[n]? = some x → Lead L (p = 0) (p = T.length) x j → j ∈ X
/-- A state is put to a list, if it has it not yet. -/
def addS (X : List Nat) (j : Nat) : List Nat := if j ∈ X then X else X ++ [j]
theorem mem_addS {X : List Nat} {j k : Nat} : k ∈ addS X j ↔ k ∈ X ∨ k = j := by
  unfold addS
  split
  · constructor
    · exact .inl
    · rintro (h | rfl) <;> assumption
  · simp
theorem addS_one {X : List Nat} {j : Nat} (h : X.Nodup) : (addS X j).Nodup := by
  unfold addS
  split
  · exact h
  · rw [List.nodup_append]
    refine ⟨h, by simp, ?_⟩
    rintro a ha b hb rfl
    simp at hb
    subst hb
    contradiction
theorem addS_get {X : List Nat} {j n x : Nat} (h : X[n]? = some x) : (addS X j)[n]? = some x := by
  unfold addS
  split
  · exact h
  · rw [List.getElem?_append_left (List.getElem?_eq_some_iff.1 h).1]
    exact h
theorem addS_len (X : List Nat) (j : Nat) : X.length ≤ (addS X j).length := by
  unfold addS
  split
  · exact Nat.le_refl _
  · simp
/-- A list of states, each once, holds no more than there are. -/
theorem len_le {X : List Nat} {N : Nat} (h : X.Nodup) (hl : ∀ x, x ∈ X → x < N) : X.length ≤ N := by
  have := List.Nodup.length_le_of_subset h (l₂ := List.range N) (fun x hx => List.mem_range.2 (hl x hx))
  rw [List.length_range] at this
  exact this
theorem Spr.done {L : List St} {q : Nat} {T : List Nat} {p : Nat} {X : List Nat} (h : Spr L q T p X.length X) : Crowd L q T p X := by
  refine ⟨h.one, fun i => ⟨h.mem i, fun ha => ?_⟩⟩
  refine At.closed (X := fun i => i ∈ X) h.seed (fun i j hi hl => ?_) ha
  obtain ⟨n, hn⟩ := List.mem_iff_getElem?.1 hi
  exact h.led n i j (List.getElem?_eq_some_iff.1 hn).1 hn hl
/-- One more is gone over: what it leads to, and nothing else, was put to the list. -/
theorem Spr.step {L : List St} {q : Nat} {T : List Nat} {p i x : Nat} {X Y : List Nat} (h : Spr L q T p i X) (hx : X[i]? = some x) (hone : Y.Nodup)
    (hpre : ∀ (n y : Nat), X[n]? = some y → Y[n]? = some y) (hmem : ∀ j, j ∈ Y ↔ j ∈ X ∨ Lead L (p = 0) (p = T.length) x j) : Spr L q T p (i + 1) Y := by
  have hxx := h.mem x (List.mem_iff_getElem?.2 ⟨i, hx⟩)
  refine ⟨hone, fun j hj => (hmem j).2 (.inl (h.seed j hj)), fun j hj => ?_, fun n y j hn hy hl => ?_⟩
  · rcases (hmem j).1 hj with h1 | h1
    · exact h.mem j h1
    · exact .lead hxx h1
  · have hi := (List.getElem?_eq_some_iff.1 hx).1
    have hX : X[n]? = some X[n] := List.getElem?_eq_getElem (show n < X.length by omega)
    have := hpre n _ hX
    rw [hy] at this
    injection this with this
    subst this
    by_cases he : n = i
    · subst he
      rw [hx] at hX
      injection hX with hX
      rw [← hX] at hl
      exact (hmem j).2 (.inr hl)
    · exact (hmem j).2 (.inl (h.led n _ j (by omega) hX hl))
end

section
/-! The reference's walk: what is there, and what is still to do. Pure. -/
structure WI (L : List St) (b e : Prop) (P : Nat → Prop) (X0 : List Nat) (i : Nat) (X S : List Nat) : Prop where
  one : X.Nodup
  sub : ∀ j, j ∈ X0 → j ∈ X
  beg : i ∈ X ∨ i ∈ S
  snd : ∀ j, j ∈ X → P j
  snds : ∀ j, j ∈ S → P j
  led : ∀ x j, x ∈ X → Lead L b e x j → j ∈ X ∨ j ∈ S
/-- What leads to nothing new. -/
def Closed (L : List St) (b e : Prop) (X : List Nat) : Prop := ∀ x j, x ∈ X → Lead L b e x j → j ∈ X
theorem WI.start {L : List St} {b e : Prop} {P : Nat → Prop} {X : List Nat} {i : Nat} (h1 : X.Nodup) (h2 : ∀ j, j ∈ X → P j) (h3 : Closed L b e X) (hi : P i) : WI L b e P X i X [i] :=
  ⟨h1, fun _ h => h, .inr (by simp), h2, fun j h => by simp at h; subst h; exact hi, fun x j h hl => .inl (h3 x j h hl)⟩
/-- The last to do is there already. -/
theorem WI.had {L : List St} {b e : Prop} {P : Nat → Prop} {X0 X S : List Nat} {i x : Nat} (h : WI L b e P X0 i X (S ++ [x])) (hx : x ∈ X) : WI L b e P X0 i X S := by
  have key : ∀ j, j ∈ X ∨ j ∈ S ++ [x] → j ∈ X ∨ j ∈ S := by
    rintro j (h | h)
    · exact .inl h
    · rcases List.mem_append.1 h with h | h
      · exact .inr h
      · simp at h; subst h; exact .inl hx
  exact ⟨h.one, h.sub, key _ h.beg, h.snd, fun j hj => h.snds j (List.mem_append_left _ hj), fun y j hy hl => key _ (h.led y j hy hl)⟩
/-- The last to do is new: what it leads to is to do. -/
theorem WI.new {L : List St} {b e : Prop} {P : Nat → Prop} {X0 X S M : List Nat} {i x : Nat} (h : WI L b e P X0 i X (S ++ [x])) (hx : x ∉ X)
    (hP : ∀ y j, P y → Lead L b e y j → P j) (hM : ∀ j, j ∈ M ↔ Lead L b e x j) : WI L b e P X0 i (X ++ [x]) (S ++ M) := by
  have hPx : P x := h.snds x (by simp)
  have key : ∀ j, j ∈ X ∨ j ∈ S ++ [x] → j ∈ X ++ [x] ∨ j ∈ S ++ M := by
    rintro j (h | h)
    · exact .inl (List.mem_append_left _ h)
    · rcases List.mem_append.1 h with h | h
      · exact .inr (List.mem_append_left _ h)
      · exact .inl (List.mem_append_right _ h)
  refine ⟨?_, fun j hj => List.mem_append_left _ (h.sub j hj), key _ h.beg, fun j hj => ?_, fun j hj => ?_, fun y j hy hl => ?_⟩
  · have := addS_one (j := x) h.one
    unfold addS at this
    rw [if_neg hx] at this
    exact this
  · rcases List.mem_append.1 hj with h1 | h1
    · exact h.snd j h1
    · simp at h1; subst h1; exact hPx
  · rcases List.mem_append.1 hj with h1 | h1
    · exact h.snds j (List.mem_append_left _ h1)
    · exact hP x j hPx ((hM j).1 h1)
  · rcases List.mem_append.1 hy with h1 | h1
    · exact key _ (h.led y j h1 hl)
    · simp at h1; subst h1; exact .inr (List.mem_append_right _ ((hM j).2 hl))
theorem WI.done {L : List St} {b e : Prop} {P : Nat → Prop} {X0 X : List Nat} {i : Nat} (h : WI L b e P X0 i X []) : X.Nodup ∧ (∀ j, j ∈ X0 → j ∈ X) ∧ i ∈ X ∧ (∀ j, j ∈ X → P j) ∧ Closed L b e X :=
  ⟨h.one, h.sub, h.beg.elim id fun h => by simp at h, h.snd, fun x j hx hl => (h.led x j hx hl).elim id fun h => by simp at h⟩
/-- The reference at a place: the states ahead with a number below n have been read. -/
structure RI (L : List St) (q : Nat) (T : List Nat) (p n : Nat) (Y X : List Nat) : Prop where
  one : X.Nodup
  beg : q ∈ X
  snd : ∀ j, j ∈ X → At L q T p j
  cls : Closed L (p = 0) (p = T.length) X
  red : ∀ i j c p', i < n → i ∈ Y → p = p' + 1 → T[p']? = some c → ByC L c i j → j ∈ X
theorem RI.first {L : List St} {q : Nat} {T : List Nat} {p : Nat} {Y X : List Nat} (h : X.Nodup ∧ (∀ j, j ∈ ([] : List Nat) → j ∈ X) ∧ q ∈ X ∧ (∀ j, j ∈ X → At L q T p j) ∧ Closed L (p = 0) (p = T.length) X) : RI L q T p 0 Y X :=
  ⟨h.1, h.2.2.1, h.2.2.2.1, h.2.2.2.2, fun _ _ _ _ h => absurd h (Nat.not_lt_zero _)⟩
/-- A state ahead that leads to nothing by the byte between, or is not there. -/
theorem RI.skip {L : List St} {q : Nat} {T : List Nat} {p n : Nat} {Y X : List Nat} (h : RI L q T p n Y X) (hn : n ∈ Y → ∀ j c p', p = p' + 1 → T[p']? = some c → ¬ ByC L c n j) : RI L q T p (n + 1) Y X :=
  ⟨h.one, h.beg, h.snd, h.cls, fun i j c p' hi hy hp hc hb => by
    by_cases e : i = n
    · subst e; exact absurd hb (hn hy j c p' hp hc)
    · exact h.red i j c p' (by omega) hy hp hc hb⟩
/-- A state ahead that leads to one: it, and all behind it, has been put to what is there. -/
theorem RI.read {L : List St} {q : Nat} {T : List Nat} {p n m : Nat} {Y X X' : List Nat} (h : RI L q T p n Y X) (hn : ∀ j c p', p = p' + 1 → T[p']? = some c → ByC L c n j → j = m)
    (hX : X'.Nodup ∧ (∀ j, j ∈ X → j ∈ X') ∧ m ∈ X' ∧ (∀ j, j ∈ X' → At L q T p j) ∧ Closed L (p = 0) (p = T.length) X') : RI L q T p (n + 1) Y X' :=
  ⟨hX.1, hX.2.1 _ h.beg, hX.2.2.2.1, hX.2.2.2.2, fun i j c p' hi hy hp hc hb => by
    by_cases e : i = n
    · subst e; rw [hn j c p' hp hc hb]; exact hX.2.2.1
    · exact hX.2.1 _ (h.red i j c p' (by omega) hy hp hc hb)⟩
/-- All ahead are read: these are the states at the place. -/
theorem RI.done {L : List St} {q : Nat} {T : List Nat} {p : Nat} {Y X : List Nat} (hm : MachOk L q) (h : RI L q T p L.length Y X) (hY : ∀ p', p = p' + 1 → ∀ i, At L q T p' i → i ∈ Y) : Crowd L q T p X := by
  refine ⟨h.one, fun i => ⟨h.snd i, fun ha => At.closed (X := fun i => i ∈ X) (fun j hj => ?_) (fun x j hx hl => h.cls x j hx hl) ha⟩⟩
  rcases hj with ⟨rfl, -⟩ | ⟨p', x, c, hp, hat, hc, hb⟩
  · exact h.beg
  · exact h.red x j c p' (hat.lt hm) (hY p' hp x hat) hp hc hb
end

section
/-! The program's reading: what the first of a place's states lead to by the byte behind it. Pure. -/
structure Nxt (L : List St) (T : List Nat) (p : Nat) (X : List Nat) (i : Nat) (Y : List Nat) : Prop where
  one : Y.Nodup
  mem : ∀ j, j ∈ Y ↔ ∃ n x c, n < i ∧ X[n]? = some x ∧ T[p]? = some c ∧ ByC L c x j
theorem Nxt.start (L : List St) (T : List Nat) (p : Nat) (X : List Nat) : Nxt L T p X 0 [] :=
  ⟨List.nodup_nil, fun j => ⟨fun h => by simp at h, fun ⟨_, _, _, h, _⟩ => absurd h (Nat.not_lt_zero _)⟩⟩
theorem Nxt.skip {L : List St} {T : List Nat} {p : Nat} {X : List Nat} {i x : Nat} {Y : List Nat} (h : Nxt L T p X i Y) (hx : X[i]? = some x) (hn : ∀ c j, T[p]? = some c → ¬ ByC L c x j) : Nxt L T p X (i + 1) Y := by
  refine ⟨h.one, fun j => (h.mem j).trans ⟨?_, ?_⟩⟩
  · rintro ⟨n, y, c, h1, h2⟩; exact ⟨n, y, c, by omega, h2⟩
  · rintro ⟨n, y, c, h1, h2, h3, h4⟩
    by_cases e : n = i
    · subst e
      rw [hx] at h2
      injection h2 with h2
      subst h2
      exact absurd h4 (hn c j h3)
    · exact ⟨n, y, c, by omega, h2, h3, h4⟩
theorem Nxt.read {L : List St} {T : List Nat} {p : Nat} {X : List Nat} {i x m c : Nat} {Y : List Nat} (h : Nxt L T p X i Y) (hx : X[i]? = some x) (hc : T[p]? = some c) (hn : ∀ j, ByC L c x j ↔ j = m) : Nxt L T p X (i + 1) (addS Y m) := by
  refine ⟨addS_one h.one, fun j => ?_⟩
  rw [mem_addS, h.mem j]
  constructor
  · rintro (⟨n, y, d, h1, h2⟩ | rfl)
    · exact ⟨n, y, d, by omega, h2⟩
    · exact ⟨i, x, c, by omega, hx, hc, (hn _).2 rfl⟩
  · rintro ⟨n, y, d, h1, h2, h3, h4⟩
    by_cases e : n = i
    · subst e
      rw [hx] at h2
      injection h2 with h2
      rw [hc] at h3
      injection h3 with h3
      subst h2 h3
      exact .inr ((hn j).1 h4)
    · exact .inl ⟨n, y, d, by omega, h2, h3, h4⟩
theorem byC_iff {L : List St} {x c : Nat} {s : St} (hs : L[x]? = some s) (j : Nat) : ByC L c x j ↔ s.k = 1 ∧ s.s.has c = true ∧ j = s.x.toNat := by
  constructor
  · rintro ⟨t, ht, h⟩
    rw [hs] at ht
    injection ht with ht
    subst ht
    exact h
  · exact fun h => ⟨s, hs, h⟩
/-- A state of the kind that reads. -/
theorem Nxt.step1 {L : List St} {T : List Nat} {p : Nat} {X : List Nat} {i x : Nat} {Y : List Nat} {s : St} (h : Nxt L T p X i Y) (hx : X[i]? = some x) (hs : L[x]? = some s) (hk : s.k = 1) (b : Nat) (hb : ∀ c, T[p]? = some c → c = b) :
    Nxt L T p X (i + 1) (if p < T.length ∧ s.s.has b = true then addS Y s.x.toNat else Y) := by
  by_cases hc : p < T.length ∧ s.s.has b = true
  · rw [if_pos hc]
    have h1 : T[p]? = some T[p] := List.getElem?_eq_getElem hc.1
    refine h.read hx h1 fun j => ?_
    rw [byC_iff hs, hb _ h1]
    exact ⟨fun h => h.2.2, fun h => ⟨hk, hc.2, h⟩⟩
  · rw [if_neg hc]
    refine h.skip hx fun c j h1 h2 => hc ⟨(List.getElem?_eq_some_iff.1 h1).1, ?_⟩
    rw [← hb _ h1]
    exact ((byC_iff hs j).1 h2).2.1
/-- A state of another kind. -/
theorem Nxt.step2 {L : List St} {T : List Nat} {p : Nat} {X : List Nat} {i x : Nat} {Y : List Nat} {s : St} (h : Nxt L T p X i Y) (hx : X[i]? = some x) (hs : L[x]? = some s) (hk : s.k ≠ 1) : Nxt L T p X (i + 1) Y :=
  h.skip hx fun _ j _ h2 => hk ((byC_iff hs j).1 h2).1
/-- All of a place's states are read: with the start, these are the seeds of the next. -/
theorem Nxt.seeds {L : List St} {q : Nat} {T : List Nat} {p : Nat} {X Y : List Nat} (h : Nxt L T p X X.length Y) (hc : Crowd L q T p X) (hp : p + 1 ≤ T.length) (j : Nat) : j ∈ addS Y q ↔ Seed L q T (p + 1) j := by
  rw [mem_addS, h.mem j]
  constructor
  · rintro (⟨n, x, c, h1, h2, h3, h4⟩ | rfl)
    · exact .inr ⟨p, x, c, rfl, (hc.mem x).1 (List.mem_iff_getElem?.2 ⟨n, h2⟩), h3, h4⟩
    · exact .inl ⟨rfl, hp⟩
  · rintro (⟨rfl, -⟩ | ⟨p', x, c, h1, h2, h3, h4⟩)
    · exact .inr rfl
    · obtain rfl : p = p' := by omega
      obtain ⟨n, hn⟩ := List.mem_iff_getElem?.1 ((hc.mem x).2 h2)
      exact .inl ⟨n, x, c, (List.getElem?_eq_some_iff.1 hn).1, hn, h3, h4⟩
/-- At the beginning the start alone is put up. -/
theorem seeds0 {L : List St} {q : Nat} {T : List Nat} (j : Nat) : j ∈ addS [] q ↔ Seed L q T 0 j := by
  rw [mem_addS]
  constructor
  · rintro (h | rfl)
    · simp at h
    · exact .inl ⟨rfl, Nat.zero_le _⟩
  · rintro (⟨rfl, -⟩ | ⟨p', x, c, h1, _⟩)
    · exact .inr rfl
    · omega
/-- A StateDone among a place's states. -/
theorem Crowd.done {L : List St} {q : Nat} {T : List Nat} {p i x : Nat} {X : List Nat} {s : St} (hc : Crowd L q T p X) (hx : X[i]? = some x) (hs : L[x]? = some s) (hk : s.k = 5) : DoneAt L q T p :=
  ⟨x, s, (hc.mem x).1 (List.mem_iff_getElem?.2 ⟨i, hx⟩), hs, hk⟩
theorem Crowd.undone {L : List St} {q : Nat} {T : List Nat} {p : Nat} {X : List Nat} (hc : Crowd L q T p X) (h : ∀ (n x : Nat) (s : St), n < X.length → X[n]? = some x → L[x]? = some s → s.k ≠ 5) : ¬ DoneAt L q T p := by
  rintro ⟨x, s, h1, h2, h3⟩
  obtain ⟨n, hn⟩ := List.mem_iff_getElem?.1 ((hc.mem x).2 h1)
  exact h n x s (List.getElem?_eq_some_iff.1 hn).1 hn h2 h3
end

section
/-! A machine over a text, reckoned: lists of states are shown, and looked at. Pure. -/
def leadB (L : List St) (b e : Bool) (i : Nat) : List Nat :=
  match L[i]? with
  | none => []
  | some s => if s.k = 2 then [s.x.toNat, s.y.toNat] else if s.k = 3 then (if b then [s.x.toNat] else []) else if s.k = 4 then (if e then [s.x.toNat] else []) else []
def byB (L : List St) (c i : Nat) : List Nat :=
  match L[i]? with
  | none => []
  | some s => if s.k = 1 ∧ s.s.has c = true then [s.x.toNat] else []
theorem leadB_iff {L : List St} {b e : Prop} [Decidable b] [Decidable e] {i j : Nat} : j ∈ leadB L (decide b) (decide e) i ↔ Lead L b e i j := by
  unfold leadB
  cases hs : L[i]? with
  | none =>
    refine ⟨fun h => (by cases h), ?_⟩
    rintro ⟨s, h, -⟩
    rw [hs] at h
    cases h
  | some s =>
    have key : Lead L b e i j ↔ ((s.k = 2 ∧ (j = s.x.toNat ∨ j = s.y.toNat)) ∨ (s.k = 3 ∧ b ∧ j = s.x.toNat) ∨ (s.k = 4 ∧ e ∧ j = s.x.toNat)) := by
      constructor
      · rintro ⟨t, h, h2⟩
        rw [hs] at h
        obtain rfl := Option.some.inj h
        exact h2
      · exact fun h => ⟨s, hs, h⟩
    rw [key]
    simp only
    by_cases h2 : s.k = 2
    · rw [if_pos h2]; simp [h2]
    · rw [if_neg h2]
      by_cases h3 : s.k = 3
      · rw [if_pos h3]
        by_cases hb : b <;> simp [h3, hb]
      · rw [if_neg h3]
        by_cases h4 : s.k = 4
        · rw [if_pos h4]
          by_cases he : e <;> simp [h4, he]
        · rw [if_neg h4]; simp [h2, h3, h4]
theorem byB_iff {L : List St} {c i j : Nat} : j ∈ byB L c i ↔ ByC L c i j := by
  unfold byB
  cases hs : L[i]? with
  | none =>
    refine ⟨fun h => (by cases h), ?_⟩
    rintro ⟨s, h, -⟩
    rw [hs] at h
    cases h
  | some s =>
    rw [byC_iff hs]
    simp only
    by_cases h : s.k = 1 ∧ s.s.has c = true
    · rw [if_pos h]; simp [h.1, h.2]
    · rw [if_neg h]
      refine ⟨fun h => (by cases h), fun h2 => absurd ⟨h2.1, h2.2.1⟩ h⟩
/-- What is put up at a place at once: the start, and what the states ahead lead to. -/
def seedB (L : List St) (q : Nat) (T : List Nat) (p : Nat) (Y : List Nat) : List Nat :=
  q :: match p with
    | 0 => []
    | p' + 1 => match T[p']? with
      | none => []
      | some c => Y.flatMap (byB L c)
/-- Each is put up at once, or led to by one ahead of it. -/
def growB (L : List St) (b e : Bool) (S : List Nat) : List Nat → List Nat → Bool
  | _, [] => true
  | A, x :: r => (S.contains x || A.any fun y => (leadB L b e y).contains x) && growB L b e S (A ++ [x]) r
def crowdOk (L : List St) (q : Nat) (T : List Nat) (p : Nat) (Y X : List Nat) : Bool :=
  decide X.Nodup && (seedB L q T p Y).all (X.contains ·) && X.all (fun x => (leadB L (decide (p = 0)) (decide (p = T.length)) x).all (X.contains ·)) && growB L (decide (p = 0)) (decide (p = T.length)) (seedB L q T p Y) [] X
theorem growB_at {L : List St} {q : Nat} {T : List Nat} {p : Nat} {S : List Nat} (hS : ∀ x, x ∈ S → At L q T p x) : ∀ (X A : List Nat), (∀ x, x ∈ A → At L q T p x) → growB L (decide (p = 0)) (decide (p = T.length)) S A X = true → ∀ x, x ∈ X → At L q T p x
  | [], _, _, _, x, hx => by cases hx
  | y :: r, A, hA, h, x, hx => by
    rw [growB, Bool.and_eq_true, Bool.or_eq_true] at h
    have hy : At L q T p y := by
      rcases h.1 with h1 | h1
      · exact hS y (by simpa using h1)
      · rw [List.any_eq_true] at h1
        obtain ⟨z, hz, h2⟩ := h1
        exact .lead (hA z hz) (leadB_iff.1 (by simpa using h2))
    rcases List.mem_cons.1 hx with e | e
    · rw [e]; exact hy
    · refine growB_at hS r (A ++ [y]) (fun z hz => ?_) h.2 x e
      rcases List.mem_append.1 hz with e | e
      · exact hA z e
      · rw [List.mem_singleton.1 e]; exact hy
theorem seedB_iff {L : List St} {q : Nat} {T : List Nat} {p : Nat} {Y : List Nat} (hp : p ≤ T.length) (hY : ∀ p', p = p' + 1 → Crowd L q T p' Y) (j : Nat) : j ∈ seedB L q T p Y ↔ Seed L q T p j := by
  unfold seedB Seed
  rw [List.mem_cons]
  cases p with
  | zero =>
    simp only [List.not_mem_nil, or_false]
    refine ⟨fun h => .inl ⟨h, hp⟩, ?_⟩
    rintro (⟨h, -⟩ | ⟨p', i, c, h, -⟩)
    · exact h
    · cases h
  | succ p' =>
    have hc := hY p' rfl
    have hT : T[p']? = some T[p'] := List.getElem?_eq_getElem (show p' < T.length by omega)
    simp only [hT]
    rw [List.mem_flatMap]
    constructor
    · rintro (h | ⟨i, hi, h⟩)
      · exact .inl ⟨h, hp⟩
      · exact .inr ⟨p', i, _, rfl, (hc.mem i).1 hi, hT, byB_iff.1 h⟩
    · rintro (⟨h, -⟩ | ⟨p2, i, c, h, h1, h2, h3⟩)
      · exact .inl h
      · obtain rfl : p' = p2 := by omega
        rw [hT] at h2
        obtain rfl := Option.some.inj h2
        exact .inr ⟨i, (hc.mem i).2 h1, byB_iff.2 h3⟩
theorem crowdOk_crowd {L : List St} {q : Nat} {T : List Nat} {p : Nat} {Y X : List Nat} (hp : p ≤ T.length) (hY : ∀ p', p = p' + 1 → Crowd L q T p' Y) (h : crowdOk L q T p Y X = true) : Crowd L q T p X := by
  unfold crowdOk at h
  rw [Bool.and_eq_true, Bool.and_eq_true, Bool.and_eq_true] at h
  obtain ⟨⟨⟨h1, h2⟩, h3⟩, h4⟩ := h
  rw [List.all_eq_true] at h2 h3
  refine ⟨of_decide_eq_true h1, fun i => ⟨fun hi => ?_, fun ha => ?_⟩⟩
  · exact growB_at (fun x hx => ((seedB_iff hp hY x).1 hx).at) X [] (fun x hx => by cases hx) h4 i hi
  · refine At.closed (X := fun i => i ∈ X) (fun j hj => ?_) (fun x j hx hl => ?_) ha
    · have := h2 j ((seedB_iff hp hY j).2 hj)
      simpa using this
    · have := h3 x hx
      rw [List.all_eq_true] at this
      have := this j (leadB_iff.2 hl)
      simpa using this
def doneB (L : List St) (X : List Nat) : Bool := X.any fun x => match L[x]? with | none => false | some s => decide (s.k = 5)
theorem doneB_iff {L : List St} {q : Nat} {T : List Nat} {p : Nat} {X : List Nat} (hc : Crowd L q T p X) : doneB L X = true ↔ DoneAt L q T p := by
  unfold doneB DoneAt
  rw [List.any_eq_true]
  constructor
  · rintro ⟨x, hx, h⟩
    cases hs : L[x]? with
    | none => rw [hs] at h; cases h
    | some s => rw [hs] at h; exact ⟨x, s, (hc.mem x).1 hx, hs, of_decide_eq_true h⟩
  · rintro ⟨x, s, h1, h2, h3⟩
    refine ⟨x, (hc.mem x).2 h1, ?_⟩
    rw [h2]
    exact decide_eq_true h3
/-- The states at each place from one on, looked at: found, and the steps. -/
def goB (L : List St) (q : Nat) (T : List Nat) : Nat → List Nat → List (List Nat) → Option (Bool × Nat)
  | p, _, [] => if p = T.length + 1 then some (false, 0) else none
  | p, Y, X :: r => if decide (p ≤ T.length) && crowdOk L q T p Y X then (if doneB L X then some (true, X.length) else (goB L q T (p + 1) X r).map fun z => (z.1, X.length + z.2)) else none
theorem goB_on {L : List St} {q : Nat} {T : List Nat} (hm : MachOk L q) : ∀ (Xs : List (List Nat)) (p : Nat) (Y : List Nat) (z : Bool × Nat), (∀ p', p = p' + 1 → Crowd L q T p' Y) → goB L q T p Y Xs = some z → goOn L q T p (T.length + 1 - p) = z
  | [], p, Y, z, _, h => by
    rw [goB] at h
    split at h
    · rename_i hp
      rw [hp, Nat.sub_self]
      exact Option.some.inj h
    · cases h
  | X :: r, p, Y, z, hY, h => by
    rw [goB] at h
    split at h
    · rename_i hh
      rw [Bool.and_eq_true] at hh
      have hp : p ≤ T.length := of_decide_eq_true hh.1
      have hc := crowdOk_crowd hp hY hh.2
      have hlen := Crowd.length hm hc
      rw [show T.length + 1 - p = (T.length - p) + 1 by omega]
      split at h
      · rename_i hd
        rw [goOn_done ((doneB_iff hc).1 hd), ← hlen]
        exact Option.some.inj h
      · rename_i hd
        rw [goOn_more (fun e => hd ((doneB_iff hc).2 e)), ← hlen]
        obtain ⟨y, hy, rfl⟩ := Option.map_eq_some_iff.1 h
        have ih := goB_on hm r (p + 1) X y (fun p' e => by
          have e2 : p = p' := by omega
          rw [← e2]
          exact hc) hy
        rw [show T.length - p = T.length + 1 - (p + 1) by omega, ih]
    · cases h
theorem hasM_of {L : List St} {q : Nat} {T : List Nat} (hm : MachOk L q) (Xs : List (List Nat)) {z : Bool × Nat} (h : goB L q T 0 [] Xs = some z) : hasM L q T = z := by
  have := goB_on hm Xs 0 [] z (fun p' e => by cases e) h
  exact this
end
end Go.Proofs.YthhchpmlljfpjaaGreat
