import Derived.Test.YthhchpmlljfpjaaGreatPtB
namespace Go.Proofs.YthhchpmlljfpjaaGreat

/-! Machines: a tree laid state by state. -/
structure St where
  k : Int
  s : S4
  x : Int
  y : Int
def splitS (x y : Nat) : St := ⟨2, .zero, x, y⟩
/-- The splits ahead of the last part of a choice: the begins from the last but one to the first. -/
def splits : List Nat → List St → Nat → List St × Nat
  | [], L, x => (L, x)
  | b :: bs, L, x => splits bs (L ++ [splitS b x]) L.length
def choose (r : List St × List Nat) (q : Nat) : List St × Nat :=
  match r.2.reverse with
  | [] => (r.1, q)
  | b :: bs => splits bs r.1 b
def perhF (f : Nat → List St → List St × Nat) (out : Nat) : Nat → List St → Nat → List St × Nat
  | 0, L, q => (L, q)
  | n + 1, L, q => perhF f out n ((f q L).1 ++ [splitS (f q L).2 out]) (f q L).1.length
def timesF (f : Nat → List St → List St × Nat) : Nat → List St → Nat → List St × Nat
  | 0, L, q => (L, q)
  | n + 1, L, q => if (f q L).1.length = L.length then f q L else timesF f n (f q L).1 (f q L).2
def roundF (f : Nat → List St → List St × Nat) (L : List St) (q : Nat) : List St × Nat :=
  ((f L.length (L ++ [splitS 0 q])).1.set L.length (splitS (f L.length (L ++ [splitS 0 q])).2 q), L.length)
def repF (f : Nat → List St → List St × Nat) (m n : Int) (q : Nat) (L : List St) : List St × Nat :=
  if n = -1 then timesF f m.toNat (roundF f L q).1 (roundF f L q).2 else timesF f m.toNat (perhF f q (n - m).toNat L q).1 (perhF f q (n - m).toNat L q).2
mutual
def layT : PT → Nat → List St → List St × Nat
  | .mk k s m n ps => fun q L =>
    if k = 1 then (L ++ [⟨1, s, q, 0⟩], L.length) else if k = 2 then (L ++ [⟨3, .zero, q, 0⟩], L.length) else if k = 3 then (L ++ [⟨4, .zero, q, 0⟩], L.length)
    else if k = 4 then layRow ps q L else if k = 5 then choose (layAll ps q L) q else if k = 6 then layRep m n ps q L else (L, q)
def layRow : List PT → Nat → List St → List St × Nat
  | [] => fun q L => (L, q)
  | t :: ts => fun q L => layT t (layRow ts q L).2 (layRow ts q L).1
def layAll : List PT → Nat → List St → List St × List Nat
  | [] => fun _ L => (L, [])
  | t :: ts => fun q L => ((layAll ts q (layT t q L).1).1, (layT t q L).2 :: (layAll ts q (layT t q L).1).2)
def layRep (m n : Int) : List PT → Nat → List St → List St × Nat
  | [] => fun q L => (L, q)
  | p :: _ => fun q L => repF (layT p) m n q L
end
theorem layT_eq (k : Int) (s : S4) (m n : Int) (ps : List PT) (q : Nat) (L : List St) : layT (.mk k s m n ps) q L =
    if k = 1 then (L ++ [⟨1, s, q, 0⟩], L.length) else if k = 2 then (L ++ [⟨3, .zero, q, 0⟩], L.length) else if k = 3 then (L ++ [⟨4, .zero, q, 0⟩], L.length)
    else if k = 4 then layRow ps q L else if k = 5 then choose (layAll ps q L) q else if k = 6 then layRep m n ps q L else (L, q) := by rw [layT]
def again (m n : Int) : Nat := if n = -1 then 1 else (n - m).toNat
mutual
/-- How many states a tree lays. -/
def cnt : PT → Nat
  | .mk k _ m n ps => if k = 1 ∨ k = 2 ∨ k = 3 then 1 else if k = 4 then cntL ps else if k = 5 then cntL ps + ps.length - 1 else if k = 6 then cntR m n ps else 0
def cntL : List PT → Nat
  | [] => 0
  | t :: ts => cnt t + cntL ts
def cntR (m n : Int) : List PT → Nat
  | [] => 0
  | p :: _ => again m n * (cnt p + 1) + m.toNat * cnt p
end
/-- A state leads only to states; the first is the one end. -/
def GoodS (L : List St) : Prop := ∀ i (h : i < L.length), 0 ≤ (L[i]).x ∧ (L[i]).x < (L.length : Int) ∧ 0 ≤ (L[i]).y ∧ (L[i]).y < (L.length : Int) ∧ 1 ≤ (L[i]).k ∧ (L[i]).k ≤ 5 ∧ ((L[i]).k = 5 ↔ i = 0) ∧ ((L[i]).k ≠ 2 → (L[i]).y = 0) ∧ ((L[i]).k ≠ 1 → (L[i]).s = .zero) ∧ (L[i]).s.fit
theorem GoodS.add {L : List St} {s : St} (h : GoodS L) (h0 : 0 < L.length) (hx0 : 0 ≤ s.x) (hx : s.x < (L.length : Int)) (hy0 : 0 ≤ s.y) (hy : s.y < (L.length : Int)) (h1 : 1 ≤ s.k) (h4 : s.k ≤ 4) (h2 : s.k ≠ 2 → s.y = 0) (h3 : s.k ≠ 1 → s.s = .zero) (hf : s.s.fit) : GoodS (L ++ [s]) := by
  intro i hi
  rw [List.length_append, List.length_singleton] at hi ⊢
  by_cases hl : i < L.length
  · rw [List.getElem_append_left hl]
    obtain ⟨a, b, c, d, e⟩ := h i hl
    exact ⟨a, by omega, c, by omega, e⟩
  · rw [List.getElem_append_right (by omega), List.getElem_singleton]
    exact ⟨hx0, by omega, hy0, by omega, h1, by omega, by omega, h2, h3, hf⟩
theorem GoodS.split {L : List St} {x y : Nat} (h : GoodS L) (hx : x < L.length) (hy : y < L.length) : GoodS (L ++ [splitS x y]) :=
  h.add (by omega) (by show (0 : Int) ≤ (x : Int); omega) (by show (x : Int) < _; omega) (by show (0 : Int) ≤ (y : Int); omega) (by show (y : Int) < _; omega) (by show (1 : Int) ≤ 2; decide) (by show (2 : Int) ≤ 4; decide) (fun h => absurd rfl h) (fun _ => rfl) S4.zero_fit
theorem GoodS.turn {L : List St} {i x y : Nat} (h : GoodS L) (h0 : 0 < i) (hx : x < L.length) (hy : y < L.length) : GoodS (L.set i (splitS x y)) := by
  intro j hj
  rw [List.length_set] at hj ⊢
  rw [List.getElem_set]
  split
  · rename_i e
    subst e
    exact ⟨by show (0 : Int) ≤ (x : Int); omega, by show (x : Int) < _; omega, by show (0 : Int) ≤ (y : Int); omega, by show (y : Int) < _; omega, by show (1 : Int) ≤ 2; decide, by show (2 : Int) ≤ 5; decide, ⟨fun e => (by cases (show (2 : Int) = 5 from e)), fun e => by omega⟩, fun e => absurd rfl e, fun _ => rfl, S4.zero_fit⟩
  · exact h j hj
/-- What laying keeps: the states are c more; the answer is one of them. -/
def Laid (f : Nat → List St → List St × Nat) (c : Nat) : Prop := ∀ q L, 0 < L.length → q < L.length → GoodS L → (f q L).1.length = L.length + c ∧ (f q L).2 < (f q L).1.length ∧ GoodS (f q L).1
theorem splits_laid : ∀ (bs : List Nat) (L : List St) (x : Nat), GoodS L → x < L.length → (∀ b ∈ bs, b < L.length) → (splits bs L x).1.length = L.length + bs.length ∧ (splits bs L x).2 < (splits bs L x).1.length ∧ GoodS (splits bs L x).1
  | [], L, x, h, hx, _ => ⟨rfl, hx, h⟩
  | b :: bs, L, x, h, hx, hb => by
    have h1 := splits_laid bs (L ++ [splitS b x]) L.length (h.split (hb b (by simp)) hx) (by simp) (fun c hc => by have := hb c (by simp [hc]); simp; omega)
    rw [splits, List.length_cons]
    rw [List.length_append, List.length_singleton] at h1
    exact ⟨by omega, h1.2⟩
theorem perh_laid {f : Nat → List St → List St × Nat} {c : Nat} (hf : Laid f c) (out : Nat) : ∀ (n : Nat) (L : List St) (q : Nat), 0 < L.length → q < L.length → out < L.length → GoodS L → (perhF f out n L q).1.length = L.length + n * (c + 1) ∧ (perhF f out n L q).2 < (perhF f out n L q).1.length ∧ GoodS (perhF f out n L q).1
  | 0, L, q, _, ht, _, h => ⟨by rw [perhF]; show L.length = _; omega, ht, h⟩
  | n + 1, L, q, h0, ht, ho, h => by
    obtain ⟨a, b, d⟩ := hf q L h0 ht h
    have h1 := perh_laid hf out n ((f q L).1 ++ [splitS (f q L).2 out]) (f q L).1.length (by simp) (by simp) (by simp; omega) (d.split b (by omega))
    rw [perhF]
    rw [List.length_append, List.length_singleton, a] at h1
    rw [a]
    exact ⟨by rw [h1.1, Nat.add_mul]; omega, h1.2⟩
theorem times_laid {f : Nat → List St → List St × Nat} {c : Nat} (hf : Laid f c) : ∀ (n : Nat) (L : List St) (q : Nat), 0 < L.length → q < L.length → GoodS L → (timesF f n L q).1.length = L.length + n * c ∧ (timesF f n L q).2 < (timesF f n L q).1.length ∧ GoodS (timesF f n L q).1
  | 0, L, q, _, ht, h => ⟨by rw [timesF]; show L.length = _; omega, ht, h⟩
  | n + 1, L, q, h0, ht, h => by
    obtain ⟨a, b, d⟩ := hf q L h0 ht h
    rw [timesF]
    split
    · rename_i e
      have : c = 0 := by omega
      subst this
      exact ⟨by rw [a]; omega, b, d⟩
    · have h1 := times_laid hf n (f q L).1 (f q L).2 (by omega) b d
      rw [a] at h1
      exact ⟨by rw [h1.1, Nat.add_mul]; omega, h1.2⟩
theorem round_laid {f : Nat → List St → List St × Nat} {c : Nat} (hf : Laid f c) (L : List St) (q : Nat) (h0 : 0 < L.length) (ht : q < L.length) (h : GoodS L) : (roundF f L q).1.length = L.length + (c + 1) ∧ (roundF f L q).2 < (roundF f L q).1.length ∧ GoodS (roundF f L q).1 := by
  obtain ⟨a, b, d⟩ := hf L.length (L ++ [splitS 0 q]) (by simp) (by simp) (h.split h0 ht)
  rw [List.length_append, List.length_singleton] at a
  unfold roundF
  exact ⟨by rw [List.length_set, a]; omega, by rw [List.length_set, a]; omega, d.turn h0 b (by omega)⟩
theorem rep_laid {f : Nat → List St → List St × Nat} {c : Nat} (hf : Laid f c) (m n : Int) : Laid (repF f m n) (again m n * (c + 1) + m.toNat * c) := by
  intro q L h0 ht h
  unfold repF again
  split
  · obtain ⟨a, b, d⟩ := round_laid hf L q h0 ht h
    obtain ⟨a2, b2, d2⟩ := times_laid hf m.toNat _ _ (by omega) b d
    exact ⟨by rw [a2, a]; omega, b2, d2⟩
  · obtain ⟨a, b, d⟩ := perh_laid hf q (n - m).toNat L q h0 ht ht h
    obtain ⟨a2, b2, d2⟩ := times_laid hf m.toNat _ _ (by omega) b d
    exact ⟨by rw [a2, a]; omega, b2, d2⟩
theorem layAll_laid (ps : List PT) (hp : ∀ t ∈ ps, Laid (layT t) (cnt t)) : ∀ q L, 0 < L.length → q < L.length → GoodS L →
    (layAll ps q L).1.length = L.length + cntL ps ∧ (layAll ps q L).2.length = ps.length ∧ (∀ b ∈ (layAll ps q L).2, b < (layAll ps q L).1.length) ∧ GoodS (layAll ps q L).1 := by
  induction ps with
  | nil => intro q L h0 ht h; rw [layAll, cntL]; exact ⟨rfl, rfl, fun b hb => (by cases hb), h⟩
  | cons t ts ih =>
    intro q L h0 ht h
    obtain ⟨a, b, d⟩ := hp t (by simp) q L h0 ht h
    obtain ⟨a2, b2, c2, d2⟩ := ih (fun u hu => hp u (List.mem_cons_of_mem _ hu)) q (layT t q L).1 (by omega) (by omega) d
    rw [layAll, cntL]
    refine ⟨by rw [a2, a]; omega, by simp [b2], fun x hx => ?_, d2⟩
    rcases List.mem_cons.1 hx with e | hx
    · rw [e]; show _ < (layAll ts q (layT t q L).1).1.length; omega
    · exact c2 x hx
theorem layRow_laid (ps : List PT) (hp : ∀ t ∈ ps, Laid (layT t) (cnt t)) : Laid (layRow ps) (cntL ps) := by
  induction ps with
  | nil => intro q L h0 ht h; rw [layRow, cntL]; exact ⟨rfl, ht, h⟩
  | cons t ts ih =>
    intro q L h0 ht h
    obtain ⟨a, b, d⟩ := ih (fun u hu => hp u (List.mem_cons_of_mem _ hu)) q L h0 ht h
    obtain ⟨a2, b2, d2⟩ := hp t (by simp) (layRow ts q L).2 (layRow ts q L).1 (by omega) b d
    rw [layRow, cntL]
    exact ⟨by rw [a2, a]; omega, b2, d2⟩
theorem lay_laid (t : PT) : may t = true → setsOk t → Laid (layT t) (cnt t) := by
  induction t using PT.ind with
  | h k s m n ps ih =>
    rw [may, setsOk, Bool.and_eq_true]
    rintro ⟨hfit, hmay⟩ ⟨hs, hsets⟩
    have hp : ∀ t ∈ ps, Laid (layT t) (cnt t) := fun t ht => ih t ht (mayL_mem hmay t ht) (setsOkL_mem hsets t ht)
    intro q L h0 ht h
    rw [layT_eq, cnt]
    by_cases h1 : k = 1
    · subst h1
      simp only [↓reduceIte, true_or]
      exact ⟨by simp, by simp, h.add h0 (by show (0 : Int) ≤ (q : Int); omega) (by show (q : Int) < _; omega) (by show (0 : Int) ≤ 0; decide) (by show (0 : Int) < _; omega) (by show (1 : Int) ≤ 1; decide) (by show (1 : Int) ≤ 4; decide) (fun _ => rfl) (fun e => absurd rfl e) hs⟩
    · by_cases h2 : k = 2
      · subst h2
        rw [if_neg h1, if_pos rfl, if_pos (show ((2 : Int) = 1 ∨ (2 : Int) = 2 ∨ (2 : Int) = 3) from .inr (.inl rfl))]
        exact ⟨by simp, by simp, h.add h0 (by show (0 : Int) ≤ (q : Int); omega) (by show (q : Int) < _; omega) (by show (0 : Int) ≤ 0; decide) (by show (0 : Int) < _; omega) (by show (1 : Int) ≤ 3; decide) (by show (3 : Int) ≤ 4; decide) (fun _ => rfl) (fun _ => rfl) S4.zero_fit⟩
      · by_cases h3 : k = 3
        · subst h3
          rw [if_neg h1, if_neg h2, if_pos rfl, if_pos (show ((3 : Int) = 1 ∨ (3 : Int) = 2 ∨ (3 : Int) = 3) from .inr (.inr rfl))]
          exact ⟨by simp, by simp, h.add h0 (by show (0 : Int) ≤ (q : Int); omega) (by show (q : Int) < _; omega) (by show (0 : Int) ≤ 0; decide) (by show (0 : Int) < _; omega) (by show (1 : Int) ≤ 4; decide) (by show (4 : Int) ≤ 4; decide) (fun _ => rfl) (fun _ => rfl) S4.zero_fit⟩
        · rw [if_neg h1, if_neg h2, if_neg h3, if_neg (show ¬ (k = 1 ∨ k = 2 ∨ k = 3) by omega)]
          by_cases h4 : k = 4
          · rw [if_pos h4, if_pos h4]
            exact layRow_laid ps hp q L h0 ht h
          · rw [if_neg h4, if_neg h4]
            by_cases h5 : k = 5
            · subst h5
              rw [if_pos rfl, if_pos rfl]
              have hlen : 2 ≤ ps.length := by
                unfold fitT at hfit
                simp at hfit
                omega
              obtain ⟨a, b, c, d⟩ := layAll_laid ps hp q L h0 ht h
              unfold choose
              cases hr : (layAll ps q L).2.reverse with
              | nil => have := congrArg List.length hr; simp at this; rw [this] at b; simp at b; omega
              | cons x bs =>
                have hlr := congrArg List.length hr
                rw [List.length_reverse, b, List.length_cons] at hlr
                have hmem : ∀ y ∈ x :: bs, y < (layAll ps q L).1.length := fun y hy => c y (by rw [← hr] at hy; simpa using hy)
                obtain ⟨a2, b2, d2⟩ := splits_laid bs (layAll ps q L).1 x d (hmem x (by simp)) (fun y hy => hmem y (by simp [hy]))
                exact ⟨by show (splits bs (layAll ps q L).1 x).1.length = _; rw [a2, a]; omega, b2, d2⟩
            · rw [if_neg h5, if_neg h5]
              by_cases h6 : k = 6
              · rw [if_pos h6, if_pos h6]
                cases ps with
                | nil => rw [layRep, cntR]; exact ⟨rfl, ht, h⟩
                | cons p r => rw [layRep, cntR]; exact rep_laid (hp p (by simp)) m n q L h0 ht h
              · rw [if_neg h6, if_neg h6]
                exact ⟨rfl, ht, h⟩
end Go.Proofs.YthhchpmlljfpjaaGreat
