import Derived.Test.YtdaaapingaebkaaFdK
namespace Go.Proofs.Ytdaaapingaebkaa
open Go.RowKit

/-! fields, on numbers: lines, names, the walk over lines. -/
def mayB (c : Nat) : Bool := decide (c = 9 ∨ c = 10 ∨ c = 13 ∨ (32 ≤ c ∧ c ≤ 126))
def goesB (c : Nat) : Bool := decide (c = 9 ∨ c = 10 ∨ c = 13 ∨ c = 32)
def smA (c : Nat) : Nat := if 65 ≤ c ∧ c ≤ 90 then c + 32 else c
def nameN : Nat → List Nat
  | 1 => [75, 101, 121, 78, 111, 116, 101, 45, 86, 101, 114, 115, 105, 111, 110]
  | 2 => [65, 117, 116, 104, 111, 114, 105, 122, 101, 114]
  | 3 => [76, 105, 99, 101, 110, 115, 101, 101, 115]
  | 4 => [76, 111, 99, 97, 108, 45, 67, 111, 110, 115, 116, 97, 110, 116, 115]
  | 5 => [67, 111, 110, 100, 105, 116, 105, 111, 110, 115]
  | 6 => [67, 111, 109, 109, 101, 110, 116]
  | 7 => [83, 105, 103, 110, 97, 116, 117, 114, 101]
  | _ => []
def isK (l : List Nat) (k : Nat) : Bool := decide (l.map smA = (nameN k).map smA)
def kindFrom (l : List Nat) : Nat → Nat → Nat
  | 0, _ => 0
  | n + 1, k => if isK l k then k else kindFrom l n (k + 1)
/-- The kind that a name names; 0, if none. -/
def kindN (l : List Nat) : Nat := kindFrom l 7 1
theorem kindFrom_spec (l : List Nat) : ∀ n k, (kindFrom l n k = 0 ∧ ∀ j, k ≤ j → j < k + n → isK l j = false) ∨ (k ≤ kindFrom l n k ∧ kindFrom l n k < k + n ∧ isK l (kindFrom l n k) = true)
  | 0, k => .inl ⟨rfl, fun j h1 h2 => by omega⟩
  | n + 1, k => by
    by_cases h : isK l k = true
    · refine .inr ?_
      simp only [kindFrom, h, if_true]
      exact ⟨Nat.le_refl _, by omega, trivial⟩
    · have e : kindFrom l (n + 1) k = kindFrom l n (k + 1) := by simp [kindFrom, h]
      rw [e]
      rcases kindFrom_spec l n (k + 1) with ⟨h1, h2⟩ | ⟨h1, h2, h3⟩
      · refine .inl ⟨h1, fun j h3 h4 => ?_⟩
        by_cases hj : j = k
        · subst hj; simpa using h
        · exact h2 j (by omega) (by omega)
      · exact .inr ⟨by omega, by omega, h3⟩
theorem kindN_le (l : List Nat) : kindN l ≤ 7 := by
  rcases kindFrom_spec l 7 1 with ⟨h, _⟩ | ⟨_, h, _⟩
  · unfold kindN; omega
  · unfold kindN; omega
theorem kindN_is {l : List Nat} (h : kindN l ≠ 0) : isK l (kindN l) = true := by
  rcases kindFrom_spec l 7 1 with ⟨h1, _⟩ | ⟨_, _, h1⟩
  · exact absurd h1 h
  · exact h1
theorem kindN_of {l : List Nat} {k : Nat} (h1 : 1 ≤ k) (h2 : k ≤ 7) (h : isK l k = true) : kindN l = k := by
  rcases kindFrom_spec l 7 1 with ⟨_, h3⟩ | ⟨h3, h4, h5⟩
  · rw [h3 k h1 (by omega)] at h; cases h
  · have h6 : kindFrom l 7 1 = k := by
      generalize kindFrom l 7 1 = j at h3 h4 h5
      have e : (nameN j).map smA = (nameN k).map smA := (of_decide_eq_true h5).symm.trans (of_decide_eq_true h)
      have : ∀ j, j < 8 → ∀ k, k < 8 → 1 ≤ j → 1 ≤ k → (nameN j).map smA = (nameN k).map smA → j = k := by decide
      exact this j (by omega) k (by omega) h3 h1 e
    exact h6
theorem kindN_small {l m : List Nat} (h : l.map smA = m.map smA) : kindN l = kindN m := by
  have : ∀ n k, kindFrom l n k = kindFrom m n k := by
    intro n
    induction n with
    | zero => intro k; rfl
    | succ n ih =>
      intro k
      have e : isK l k = isK m k := by unfold isK; rw [h]
      simp [kindFrom, e, ih]
  exact this 7 1
theorem kindN_len {l : List Nat} (h : kindN l ≠ 0) : l.length ≤ 15 := by
  have h1 := kindN_le l
  have h2 : l.map smA = (nameN (kindN l)).map smA := of_decide_eq_true (kindN_is h)
  have h3 := congrArg List.length h2
  rw [List.length_map, List.length_map] at h3
  generalize kindN l = k at h1 h3
  have : ∀ k, k < 8 → (nameN k).length ≤ 15 := by decide
  have := this k (by omega)
  omega
theorem kindN_name {k : Nat} (h1 : 1 ≤ k) (h2 : k ≤ 7) : kindN (nameN k) = k := kindN_of h1 h2 (decide_eq_true rfl)

/-- How many bytes a line has, with its byte 10. -/
def behL : List Nat → Nat
  | [] => 0
  | c :: r => if c = 10 then 1 else behL r + 1
theorem behL_le : ∀ l : List Nat, behL l ≤ l.length
  | [] => Nat.le_refl _
  | c :: r => by
    have := behL_le r
    simp only [behL, List.length_cons]
    split <;> omega
theorem behL_pos {l : List Nat} (h : l ≠ []) : 0 < behL l := by
  cases l with
  | nil => exact absurd rfl h
  | cons c r => simp only [behL]; split <;> omega
theorem behL_cut : ∀ {f d : List Nat}, 10 ∉ f → behL (f ++ 10 :: d) = f.length + 1
  | [], d, _ => rfl
  | c :: f, d, h => by
    have h1 : c ≠ 10 := fun e => h (by simp [e])
    have h2 : 10 ∉ f := fun e => h (by simp [e])
    simp [behL, h1, behL_cut h2]
theorem behL_all : ∀ {l : List Nat}, 10 ∉ l → behL l = l.length
  | [], _ => rfl
  | c :: r, h => by
    have h1 : c ≠ 10 := fun e => h (by simp [e])
    have h2 : 10 ∉ r := fun e => h (by simp [e])
    simp [behL, h1, behL_all h2]
theorem behL_in : ∀ {l : List Nat} {j : Nat}, j + 1 < behL l → at0 l j ≠ 10
  | [], j, h => by simp [behL] at h
  | c :: r, j, h => by
    simp only [behL] at h
    split at h
    · omega
    · rename_i hc
      cases j with
      | zero => rwa [at0_cons_zero]
      | succ j => rw [at0_cons_succ]; exact behL_in (by omega)
theorem behL_end : ∀ {l : List Nat}, behL l < l.length → at0 l (behL l - 1) = 10
  | [], h => by simp [behL] at h
  | c :: r, h => by
    simp only [behL] at h ⊢
    split
    · rename_i hc; rw [hc]; rfl
    · rename_i hc
      rw [if_neg hc, List.length_cons] at h
      have hr : r ≠ [] := fun e => by subst e; simp [behL] at h
      have := behL_pos hr
      rw [show behL r + 1 - 1 = (behL r - 1) + 1 by omega, at0_cons_succ]
      exact behL_end (by omega)
/-- The place of a line's first colon. -/
def colL : List Nat → Option Nat
  | [] => none
  | c :: r => if c = 58 then some 0 else if c = 10 then none else (colL r).map (· + 1)
theorem colL_some : ∀ {l f d : List Nat}, l.take (behL l) = f ++ 58 :: d → 58 ∉ f → colL l = some f.length
  | [], f, d, h, _ => by simp [behL] at h
  | c :: r, f, d, h, hf => by
    simp only [behL] at h
    split at h
    · rename_i hc
      subst hc
      cases f with
      | nil => simp at h
      | cons x f => simp at h
    · rename_i hc
      cases f with
      | nil =>
        have : c = 58 := by simpa using (List.cons.inj h).1
        simp [colL, this]
      | cons x f =>
        obtain ⟨h1, h2⟩ := List.cons.inj h
        subst h1
        have h3 : c ≠ 58 := fun e => hf (by simp [e])
        have h4 : 58 ∉ f := fun e => hf (by simp [e])
        simp [colL, h3, hc, colL_some h2 h4]
theorem colL_none : ∀ {l : List Nat}, 58 ∉ l.take (behL l) → colL l = none
  | [], _ => rfl
  | c :: r, h => by
    simp only [behL] at h
    simp only [colL]
    split at h
    · rename_i hc
      subst hc
      simp
    · rename_i hc
      have h1 : c ≠ 58 := fun e => h (by simp [e])
      have h2 : 58 ∉ r.take (behL r) := fun e => h (by simp [e])
      simp [h1, hc, colL_none h2]
theorem colL_get : ∀ {l : List Nat} {m : Nat}, colL l = some m → m < behL l ∧ at0 l m = 58 ∧ m < l.length
  | [], m, h => by simp [colL] at h
  | c :: r, m, h => by
    simp only [colL] at h
    split at h
    · rename_i hc
      obtain rfl : 0 = m := by simpa using h
      subst hc
      simp [behL, at0_cons_zero]
    · split at h
      · cases h
      · rename_i h1 h2
        obtain ⟨q, hq, rfl⟩ := Option.map_eq_some_iff.1 h
        obtain ⟨a, b, c2⟩ := colL_get hq
        simp only [behL, h2, if_false, at0_cons_succ, List.length_cons]
        exact ⟨by omega, b, by omega⟩

/-- A field. -/
structure Fd where
  k : Nat
  a : Nat
  b : Nat
  e : Nat
def hasK (k : Nat) (fs : List Fd) : Bool := fs.any fun f => decide (f.k = k)
theorem hasK_app (k : Nat) (fs : List Fd) (f : Fd) : hasK k (fs ++ [f]) = (hasK k fs || decide (f.k = k)) := by simp [hasK]
inductive Res where
  | bad (at_ code : Nat)
  | ok (fs : List Fd)
/-- The field that a line begins. -/
def begL (l : List Nat) (i : Nat) : Option Fd :=
  match colL (l.drop i) with
  | none => none
  | some m => if kindN ((l.drop i).take m) = 0 then none else some ⟨kindN ((l.drop i).take m), i, i + m + 1, 0⟩
/-- May one more stand behind these? -/
def ordK (fs : List Fd) (k : Nat) : Nat := if hasK k fs then 132 else if hasK 7 fs || (decide (k = 1) && !fs.isEmpty) then 133 else 0
/-- The walk over lines. -/
def walk (l : List Nat) (i : Nat) (fs : List Fd) : Res :=
  if _h : i < l.length then
    if goesB (at0 l i) then walk l (i + behL (l.drop i)) fs
    else match begL l i with
      | none => .bad i 131
      | some f => if ordK fs f.k = 0 then walk l (i + behL (l.drop i)) (fs ++ [f]) else .bad i (ordK fs f.k)
  else if hasK 2 fs then .ok fs else .bad l.length 134
termination_by l.length - i
decreasing_by
  all_goals
    have h1 : l.drop i ≠ [] := fun e => by have := congrArg List.length e; simp at this; omega
    have := behL_pos h1
    omega
theorem walk_goes {l : List Nat} {i : Nat} {fs : List Fd} (h : i < l.length) (hg : goesB (at0 l i) = true) : walk l i fs = walk l (i + behL (l.drop i)) fs := by
  rw [walk, dif_pos h, if_pos hg]
theorem walk_none {l : List Nat} {i : Nat} {fs : List Fd} (h : i < l.length) (hg : goesB (at0 l i) = false) (hb : begL l i = none) : walk l i fs = .bad i 131 := by
  rw [walk, dif_pos h, if_neg (by rw [hg]; decide), hb]
theorem walk_some {l : List Nat} {i : Nat} {fs : List Fd} {f : Fd} (h : i < l.length) (hg : goesB (at0 l i) = false) (hb : begL l i = some f) : walk l i fs = if ordK fs f.k = 0 then walk l (i + behL (l.drop i)) (fs ++ [f]) else .bad i (ordK fs f.k) := by
  rw [walk, dif_pos h, if_neg (by rw [hg]; decide), hb]
theorem walk_end {l : List Nat} {i : Nat} {fs : List Fd} (h : l.length ≤ i) : walk l i fs = if hasK 2 fs then .ok fs else .bad l.length 134 := by
  rw [walk, dif_neg (by omega)]
/-- Where a field ends: where the next one begins. -/
def hA (n : Nat) : List Fd → Nat
  | [] => n
  | f :: _ => f.a
def ends (n : Nat) : List Fd → List Fd
  | [] => []
  | f :: r => ⟨f.k, f.a, f.b, hA n r⟩ :: ends n r
theorem ends_len (n : Nat) : ∀ fs : List Fd, (ends n fs).length = fs.length
  | [] => rfl
  | _ :: r => by simp [ends, ends_len n r]
theorem hasK_ends (n k : Nat) : ∀ fs : List Fd, hasK k (ends n fs) = hasK k fs
  | [] => rfl
  | f :: r => by
    have := hasK_ends n k r
    unfold hasK at this ⊢
    simp [ends, this]
def Res.fin (n : Nat) : Res → Res
  | .bad i c => .bad i c
  | .ok fs => .ok (ends n fs)
/-- The first byte that may not stand. -/
def badB (l : List Nat) : Option Nat := l.findIdx? fun c => !mayB c
theorem badB_some {l : List Nat} {i : Nat} (hi : i < l.length) (h1 : ∀ j, j < i → mayB (at0 l j) = true) (h2 : mayB (at0 l i) = false) : badB l = some i := by
  unfold badB
  rw [List.findIdx?_eq_some_iff_getElem]
  refine ⟨hi, by rw [← at0_getElem hi, h2]; rfl, fun j hj => ?_⟩
  rw [← at0_getElem (by omega), h1 j hj]
  decide
theorem badB_none {l : List Nat} (h : ∀ j, j < l.length → mayB (at0 l j) = true) : badB l = none := by
  unfold badB
  rw [List.findIdx?_eq_none_iff]
  intro x hx
  obtain ⟨i, hi, rfl⟩ := List.getElem_of_mem hx
  rw [← at0_getElem hi, h i hi]
  rfl
theorem badB_all {l : List Nat} (h : badB l = none) : ∀ x ∈ l, mayB x = true := by
  unfold badB at h
  rw [List.findIdx?_eq_none_iff] at h
  intro x hx
  have := h x hx
  simpa using this
/-- A text as fields. -/
def splitR (l : List Nat) : Res :=
  if 65536 < l.length then .bad 0 3
  else match badB l with
    | some i => .bad i 130
    | none => if l.isEmpty || goesB (at0 l 0) then .bad 0 131 else walk l 0 []
end Go.Proofs.Ytdaaapingaebkaa
