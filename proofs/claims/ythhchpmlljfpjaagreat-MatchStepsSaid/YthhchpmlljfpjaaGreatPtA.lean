import Derived.Test.YthhchpmlljfpjaaGreatPtK
namespace Go.Proofs.YthhchpmlljfpjaaGreat

/-! Patterns without a program: sets of bytes, trees, what a text is read as. -/
/-- The number of the bits f 0 to f (n - 1). -/
def bitsOf (f : Nat → Bool) : Nat → Nat
  | 0 => 0
  | n + 1 => bitsOf f n ||| (if f n then 2 ^ n else 0)
theorem bitsOf_testBit (f : Nat → Bool) (n k : Nat) : (bitsOf f n).testBit k = (decide (k < n) && f k) := by
  induction n with
  | zero => simp [bitsOf]
  | succ n ih =>
    rw [bitsOf, Nat.testBit_or, ih]
    by_cases hf : f n = true
    · rw [if_pos hf, Nat.testBit_two_pow]
      by_cases hk : n = k
      · subst hk; simp [hf]
      · have : decide (k < n + 1) = decide (k < n) := by rw [Bool.eq_iff_iff]; simp; omega
        simp [hk, this]
    · rw [if_neg hf, Nat.zero_testBit, Bool.or_false]
      by_cases hk : n = k
      · subst hk; simp [hf]
      · have : decide (k < n + 1) = decide (k < n) := by rw [Bool.eq_iff_iff]; simp; omega
        rw [this]
theorem bitsOf_lt (f : Nat → Bool) (n : Nat) : bitsOf f n < 2 ^ n := by
  induction n with
  | zero => simp [bitsOf]
  | succ n ih =>
    rw [bitsOf]
    refine Nat.or_lt_two_pow (Nat.lt_of_lt_of_le ih (Nat.pow_le_pow_right (by decide) (by omega))) ?_
    split
    · exact Nat.pow_lt_pow_right (by decide) (by omega)
    · exact Nat.two_pow_pos _
/-- A set of bytes: four words. -/
structure S4 where
  a : Nat
  b : Nat
  c : Nat
  d : Nat
def S4.word (s : S4) (i : Nat) : Nat := match i with | 0 => s.a | 1 => s.b | 2 => s.c | _ => s.d
def S4.fit (s : S4) : Prop := s.a < 2 ^ 64 ∧ s.b < 2 ^ 64 ∧ s.c < 2 ^ 64 ∧ s.d < 2 ^ 64
def S4.has (s : S4) (c : Nat) : Bool := (s.word (c / 64)).testBit (c % 64)
def S4.of (p : Nat → Bool) : S4 := ⟨bitsOf p 64, bitsOf (fun k => p (64 + k)) 64, bitsOf (fun k => p (128 + k)) 64, bitsOf (fun k => p (192 + k)) 64⟩
def S4.zero : S4 := ⟨0, 0, 0, 0⟩
def S4.or (s t : S4) : S4 := ⟨s.a ||| t.a, s.b ||| t.b, s.c ||| t.c, s.d ||| t.d⟩
def S4.cpl (s : S4) : S4 := S4.of (fun c => !s.has c)
theorem S4.of_fit (p : Nat → Bool) : (S4.of p).fit := ⟨bitsOf_lt _ _, bitsOf_lt _ _, bitsOf_lt _ _, bitsOf_lt _ _⟩
theorem S4.zero_fit : S4.zero.fit := by unfold S4.fit S4.zero; decide
theorem S4.or_fit {s t : S4} (h : s.fit) (k : t.fit) : (s.or t).fit :=
  ⟨Nat.or_lt_two_pow h.1 k.1, Nat.or_lt_two_pow h.2.1 k.2.1, Nat.or_lt_two_pow h.2.2.1 k.2.2.1, Nat.or_lt_two_pow h.2.2.2 k.2.2.2⟩
theorem lt256 {c : Nat} (h : c < 256) : c / 64 = 0 ∨ c / 64 = 1 ∨ c / 64 = 2 ∨ c / 64 = 3 := by omega
theorem S4.has_of (p : Nat → Bool) (c : Nat) (h : c < 256) : (S4.of p).has c = p c := by
  have hm : c % 64 < 64 := Nat.mod_lt _ (by decide)
  unfold S4.has
  rcases lt256 h with e | e | e | e <;> rw [e] <;> simp only [S4.word, S4.of, bitsOf_testBit, hm, decide_true, Bool.true_and] <;> congr 1 <;> omega
theorem S4.has_zero (c : Nat) : S4.zero.has c = false := by
  unfold S4.has S4.zero S4.word
  split <;> exact Nat.zero_testBit _
theorem S4.has_cpl (s : S4) (c : Nat) (h : c < 256) : s.cpl.has c = !s.has c := S4.has_of _ c h
theorem word_ext {x y : Nat} (hx : x < 2 ^ 64) (hy : y < 2 ^ 64) (h : ∀ k, k < 64 → x.testBit k = y.testBit k) : x = y := by
  refine Nat.eq_of_testBit_eq fun i => ?_
  by_cases hi : i < 64
  · exact h i hi
  · have hp : 2 ^ 64 ≤ 2 ^ i := Nat.pow_le_pow_right (by decide) (by omega)
    rw [Nat.testBit_lt_two_pow (Nat.lt_of_lt_of_le hx hp), Nat.testBit_lt_two_pow (Nat.lt_of_lt_of_le hy hp)]
theorem S4.ext {s t : S4} (hs : s.fit) (ht : t.fit) (h : ∀ c, c < 256 → s.has c = t.has c) : s = t := by
  obtain ⟨a, b, c, d⟩ := s
  obtain ⟨a', b', c', d'⟩ := t
  have key : ∀ i k, i < 4 → k < 64 → (S4.word ⟨a, b, c, d⟩ i).testBit k = (S4.word ⟨a', b', c', d'⟩ i).testBit k := by
    intro i k hi hk
    have := h (64 * i + k) (by omega)
    unfold S4.has at this
    rwa [show (64 * i + k) / 64 = i by omega, show (64 * i + k) % 64 = k by omega] at this
  obtain rfl : a = a' := word_ext hs.1 ht.1 (fun k hk => key 0 k (by omega) hk)
  obtain rfl : b = b' := word_ext hs.2.1 ht.2.1 (fun k hk => key 1 k (by omega) hk)
  obtain rfl : c = c' := word_ext hs.2.2.1 ht.2.2.1 (fun k hk => key 2 k (by omega) hk)
  obtain rfl : d = d' := word_ext hs.2.2.2 ht.2.2.2 (fun k hk => key 3 k (by omega) hk)
  rfl
def S4.span (x y : Nat) : S4 := S4.of (fun c => decide (x ≤ c) && decide (c ≤ y))
def S4.all : S4 := S4.of (fun _ => true)
theorem S4.has_all (c : Nat) (h : c < 256) : S4.all.has c = true := S4.has_of _ c h

/-- Trees. -/
inductive PT where
  | mk (k : Int) (s : S4) (m n : Int) (ps : List PT)
def noneT : PT := .mk 0 .zero 0 0 []
def setT (s : S4) : PT := .mk 1 s 0 0 []
def beginT : PT := .mk 2 .zero 0 0 []
def endT : PT := .mk 3 .zero 0 0 []
def repT4 (m n : Int) (t : PT) : PT := .mk 6 .zero m n [t]
/-- Several parts together: none, the one, or a node of them. -/
def joinT (k : Int) : List PT → PT
  | [] => noneT
  | [t] => t
  | ps => .mk k .zero 0 0 ps

/-- What reading a part of a text comes to: what was read and what is left, or an error. -/
inductive Res (α : Type) where
  | ok (v : α) (r : List Nat)
  | no (e : Nat)

/-- A text cut at its first c. -/
def cutAt (c : Nat) : List Nat → Option (List Nat × List Nat)
  | [] => none
  | x :: r => if x = c then some ([], r) else (cutAt c r).map fun p => (x :: p.1, p.2)
theorem cutAt_some {c : Nat} {l a r : List Nat} : cutAt c l = some (a, r) ↔ l = a ++ c :: r ∧ c ∉ a := by
  induction l generalizing a with
  | nil => simp [cutAt]
  | cons x t ih =>
    unfold cutAt
    by_cases hx : x = c
    · rw [if_pos hx]
      subst hx
      constructor
      · intro h
        simp at h
        obtain ⟨rfl, rfl⟩ := h
        exact ⟨rfl, by simp⟩
      · rintro ⟨h1, h2⟩
        cases a with
        | nil => simp at h1; rw [h1]
        | cons y b => simp at h1; exact absurd (by simp [h1.1]) h2
    · rw [if_neg hx]
      cases a with
      | nil =>
        constructor
        · intro h; simp at h
        · rintro ⟨h1, _⟩; simp at h1; exact absurd h1.1 hx
      | cons y b =>
        constructor
        · intro h
          simp only [Option.map_eq_some_iff] at h
          obtain ⟨⟨p1, p2⟩, h1, h2⟩ := h
          simp only [Prod.mk.injEq, List.cons.injEq] at h2
          obtain ⟨⟨rfl, rfl⟩, rfl⟩ := h2
          obtain ⟨e1, e2⟩ := ih.1 h1
          exact ⟨by rw [e1]; rfl, by simp [e2]; exact fun h => hx h.symm⟩
        · rintro ⟨h1, h2⟩
          simp only [List.cons_append, List.cons.injEq] at h1
          simp only [List.mem_cons, not_or] at h2
          rw [ih.2 ⟨h1.2, h2.2⟩, h1.1]
          rfl
theorem cutAt_none {c : Nat} {l : List Nat} : cutAt c l = none ↔ c ∉ l := by
  induction l with
  | nil => simp [cutAt]
  | cons x t ih =>
    unfold cutAt
    by_cases hx : x = c
    · simp [hx]
    · rw [if_neg hx, Option.map_eq_none_iff, ih]
      simp only [List.mem_cons, not_or]
      exact ⟨fun h => ⟨fun e => hx e.symm, h⟩, fun h => h.2⟩
/-- A text cut at its first two letters c, d side by side. -/
def cutAt2 (c d : Nat) : List Nat → Option (List Nat × List Nat)
  | x :: y :: r => if x = c ∧ y = d then some ([], r) else (cutAt2 c d (y :: r)).map fun p => (x :: p.1, p.2)
  | _ => none

def digit (c : Nat) : Prop := 48 ≤ c ∧ c ≤ 57
/-- The number of digits. -/
def decv (l : List Nat) : Nat := l.foldl (fun n c => 10 * n + (c - 48)) 0
/-- One to three digits. -/
def Digs (l : List Nat) (m : Nat) : Prop := 1 ≤ l.length ∧ l.length ≤ 3 ∧ (∀ c ∈ l, digit c) ∧ decv l = m
/-- An interval behind its sign. -/
def Intv (l : List Nat) (m n : Int) (r : List Nat) : Prop :=
  ∃ x k, Digs x k ∧ k ≤ 255 ∧ m = (k : Nat) ∧ ((l = x ++ 125 :: r ∧ n = m) ∨ (l = x ++ 44 :: 125 :: r ∧ n = -1) ∨ ∃ y j, l = x ++ 44 :: (y ++ 125 :: r) ∧ Digs y j ∧ k ≤ j ∧ j ≤ 255 ∧ n = (j : Nat))
theorem digs_split {x x' t t' : List Nat} {c c' : Nat} (h : x ++ c :: t = x' ++ c' :: t') (h1 : ∀ y ∈ x, digit y) (h2 : ∀ y ∈ x', digit y) (hc : ¬ digit c) (hc' : ¬ digit c') : x = x' ∧ c = c' ∧ t = t' := by
  induction x generalizing x' with
  | nil =>
    cases x' with
    | nil => simp at h; exact ⟨rfl, h⟩
    | cons y s => simp at h; exact absurd (h.1 ▸ h2 y (by simp)) hc
  | cons y s ih =>
    cases x' with
    | nil => simp at h; exact absurd (h.1 ▸ h1 y (by simp)) hc'
    | cons z u =>
      simp only [List.cons_append, List.cons.injEq] at h
      obtain ⟨e1, e2, e3⟩ := ih h.2 (fun y hy => h1 y (by simp [hy])) (fun y hy => h2 y (by simp [hy]))
      exact ⟨by rw [h.1, e1], e2, e3⟩
theorem nodig (c : Nat) (h : c = 44 ∨ c = 125) : ¬ digit c := by unfold digit; omega
theorem Intv.one {l r r' : List Nat} {m n m' n' : Int} (h : Intv l m n r) (k : Intv l m' n' r') : m = m' ∧ n = n' ∧ r = r' := by
  obtain ⟨x, a, d1, _, e1, h1⟩ := h
  obtain ⟨x', a', d1', _, e1', h1'⟩ := k
  rcases h1 with ⟨hl, hn⟩ | ⟨hl, hn⟩ | ⟨y, j, hl, d2, _, _, hn⟩ <;> rcases h1' with ⟨hl', hn'⟩ | ⟨hl', hn'⟩ | ⟨y', j', hl', d2', _, _, hn'⟩ <;> rw [hl] at hl'
  all_goals
    obtain ⟨rfl, u1, u2⟩ := digs_split hl' d1.2.2.1 d1'.2.2.1 (nodig _ (by simp)) (nodig _ (by simp))
    have ha : a = a' := d1.2.2.2.symm.trans d1'.2.2.2
    subst ha
  · exact ⟨by rw [e1, e1'], by rw [hn, hn', e1, e1'], u2⟩
  · exact absurd u1 (by decide)
  · exact absurd u1 (by decide)
  · exact absurd u1 (by decide)
  · simp at u2; exact ⟨by rw [e1, e1'], by rw [hn, hn'], u2⟩
  · exfalso
    cases y' with
    | nil => exact absurd d2'.1 (by simp)
    | cons z u => simp at u2; exact absurd (u2.1 ▸ d2'.2.2.1 z (by simp)) (nodig _ (by simp))
  · exact absurd u1 (by decide)
  · exfalso
    cases y with
    | nil => exact absurd d2.1 (by simp)
    | cons z u => simp at u2; exact absurd (u2.1 ▸ d2.2.2.1 z (by simp)) (nodig _ (by simp))
  · obtain ⟨rfl, _, u3⟩ := digs_split u2 d2.2.2.1 d2'.2.2.1 (nodig _ (by simp)) (nodig _ (by simp))
    have hj : j = j' := d2.2.2.2.symm.trans d2'.2.2.2
    exact ⟨by rw [e1, e1'], by rw [hn, hn', hj], u3⟩

/-- The signs of repetition. -/
def isRep (c : Nat) : Prop := c = 42 ∨ c = 43 ∨ c = 63 ∨ c = 123
/-- Does a text begin with one such letter? -/
def hd (p : Nat → Prop) : List Nat → Prop
  | [] => False
  | c :: _ => p c
/-- A sign of repetition read. -/
inductive Times : List Nat → Int → Int → List Nat → Prop where
  | star (r) : Times (42 :: r) 0 (-1) r
  | plus (r) : Times (43 :: r) 1 (-1) r
  | may (r) : Times (63 :: r) 0 1 r
  | intv {l m n r} : Intv l m n r → Times (123 :: l) m n r
theorem Times.one {l r r' : List Nat} {m n m' n' : Int} (h : Times l m n r) (k : Times l m' n' r') : m = m' ∧ n = n' ∧ r = r' := by
  cases h <;> cases k
  case intv.intv h k => exact h.one k
  all_goals exact ⟨rfl, rfl, rfl⟩

/-- The classes: sixteen letters at most. -/
def up (c : Nat) : Bool := decide (65 ≤ c) && decide (c ≤ 90)
def lw (c : Nat) : Bool := decide (97 ≤ c) && decide (c ≤ 122)
def dg (c : Nat) : Bool := decide (48 ≤ c) && decide (c ≤ 57)
def gr (c : Nat) : Bool := decide (33 ≤ c) && decide (c ≤ 126)
def classes : List (List Nat × (Nat → Bool)) :=
  [([97, 108, 112, 104, 97], fun c => up c || lw c), ([117, 112, 112, 101, 114], up), ([108, 111, 119, 101, 114], lw), ([100, 105, 103, 105, 116], dg), ([97, 108, 110, 117, 109], fun c => up c || lw c || dg c),
   ([120, 100, 105, 103, 105, 116], fun c => dg c || (decide (65 ≤ c) && decide (c ≤ 70)) || (decide (97 ≤ c) && decide (c ≤ 102))), ([115, 112, 97, 99, 101], fun c => (decide (9 ≤ c) && decide (c ≤ 13)) || decide (c = 32)), ([98, 108, 97, 110, 107], fun c => decide (c = 9) || decide (c = 32)),
   ([99, 110, 116, 114, 108], fun c => decide (c ≤ 31) || decide (c = 127)), ([103, 114, 97, 112, 104], gr), ([112, 114, 105, 110, 116], fun c => decide (c = 32) || gr c), ([112, 117, 110, 99, 116], fun c => gr c && !(up c || lw c || dg c))]
def classOf (name : List Nat) : Option (Nat → Bool) := (classes.find? fun p => p.1 == name).map (·.2)

/-- A member: a byte, perhaps told as [.c.]. -/
def memb (second : Bool) : List Nat → Option (Nat × List Nat)
  | 91 :: 46 :: t => match t with | c :: 46 :: 93 :: r => some (c, r) | _ => none
  | 91 :: 58 :: r => if second then none else some (91, 58 :: r)
  | 91 :: 61 :: r => if second then none else some (91, 61 :: r)
  | c :: r => some (c, r)
  | [] => none
/-- What a bracket's item has. -/
def item : List Nat → Res S4
  | 91 :: 58 :: t => match cutAt2 58 93 t with
    | none => .no 101
    | some (name, r) => match classOf name with
      | none => .no 103
      | some p => .ok (S4.of p) r
  | 91 :: 61 :: t => match t with | c :: 61 :: 93 :: r => .ok (S4.span c c) r | _ => .no 101
  | l => match memb false l with
    | none => .no 101
    | some (c, 45 :: r) => if r.head? = some 93 then .ok (S4.span c c) (45 :: r) else match memb true r with
      | none => .no 101
      | some (d, r') => if d < c then .no 102 else .ok (S4.span c d) r'
    | some (c, r) => .ok (S4.span c c) r
/-- The items of a bracket. -/
inductive Brk : Bool → S4 → List Nat → Res S4 → Prop where
  | stop (acc r) : Brk false acc (93 :: r) (.ok acc r)
  | err {f acc l e} : (f = true ∨ l.head? ≠ some 93) → item l = .no e → Brk f acc l (.no e)
  | step {f acc l s r res} : (f = true ∨ l.head? ≠ some 93) → item l = .ok s r → Brk false (acc.or s) r res → Brk f acc l res
theorem Brk.one {f : Bool} {acc : S4} {l : List Nat} {x y : Res S4} (h : Brk f acc l x) (k : Brk f acc l y) : x = y := by
  induction h with
  | stop acc r =>
    cases k with
    | stop => rfl
    | err h1 => simp at h1
    | step h1 => simp at h1
  | err h1 h2 =>
    cases k with
    | stop => simp at h1
    | err _ h4 => rw [h2] at h4; cases h4; rfl
    | step _ h4 => rw [h2] at h4; cases h4
  | step h1 h2 _ ih =>
    cases k with
    | stop => simp at h1
    | err _ h4 => rw [h2] at h4; cases h4
    | step _ h4 h5 => rw [h2] at h4; cases h4; exact ih h5
/-- A bracket behind its sign. -/
def Brkt (l : List Nat) (res : Res PT) : Prop :=
  ∃ f s, Brk true .zero (if l.head? = some 94 then l.tail else l) f ∧ s = (if l.head? = some 94 then S4.cpl else id) ∧ res = match f with | .no e => .no e | .ok t r => .ok (setT (s t)) r
theorem Brkt.one {l : List Nat} {x y : Res PT} (h : Brkt l x) (k : Brkt l y) : x = y := by
  obtain ⟨f, s, h1, h2, h3⟩ := h
  obtain ⟨f', s', h1', h2', h3'⟩ := k
  obtain rfl := h1.one h1'
  rw [h3, h3', h2, h2']

/-- What is being read. -/
inductive Ph where
  | pat (acc : List PT)
  | alt (acc : List PT)
  | piece
  | rep (t : PT)
  | atom
/-- Letters that end an alternative. -/
def isEnd (c : Nat) : Prop := c = 124 ∨ c = 41
def atomPlain (c : Nat) : Prop := ¬ isRep c ∧ c ≠ 40 ∧ c ≠ 91 ∧ c ≠ 46 ∧ c ≠ 94 ∧ c ≠ 36 ∧ c ≠ 92
/-- What a text is read as, o parentheses being open. -/
inductive Run : Nat → Ph → List Nat → Res PT → Prop where
  | patErr {o acc l e} : Run o (.alt []) l (.no e) → Run o (.pat acc) l (.no e)
  | patMore {o acc l t r res} : Run o (.alt []) l (.ok t (124 :: r)) → Run o (.pat (acc ++ [t])) r res → Run o (.pat acc) l res
  | patEnd {o acc l t r} : Run o (.alt []) l (.ok t r) → r.head? ≠ some 124 → Run o (.pat acc) l (.ok (joinT 5 (acc ++ [t])) r)
  | altEnd {o acc l} : (l = [] ∨ hd isEnd l) → Run o (.alt acc) l (.ok (joinT 4 acc) l)
  | altErr {o acc l e} : l ≠ [] → ¬ hd isEnd l → Run o .piece l (.no e) → Run o (.alt acc) l (.no e)
  | altMore {o acc l t r res} : l ≠ [] → ¬ hd isEnd l → Run o .piece l (.ok t r) → Run o (.alt (acc ++ [t])) r res → Run o (.alt acc) l res
  | pieceErr {o l e} : Run o .atom l (.no e) → Run o .piece l (.no e)
  | pieceOk {o l t r res} : Run o .atom l (.ok t r) → Run o (.rep t) r res → Run o .piece l res
  | repEnd {o t l} : ¬ hd isRep l → Run o (.rep t) l (.ok t l)
  | repErr {o t l} : hd isRep l → (∀ m n r, ¬ Times l m n r) → Run o (.rep t) l (.no 105)
  | repOk {o t l m n r res} : Times l m n r → Run o (.rep (repT4 m n t)) r res → Run o (.rep t) l res
  | atomRep {o l} : hd isRep l → Run o .atom l (.no 104)
  | atomDeep {o r} : o = 64 → Run o .atom (40 :: r) (.no 3)
  | atomErr {o r e} : o ≠ 64 → Run (o + 1) (.pat []) r (.no e) → Run o .atom (40 :: r) (.no e)
  | atomOpen {o r t l} : o ≠ 64 → Run (o + 1) (.pat []) r (.ok t l) → l.head? ≠ some 41 → Run o .atom (40 :: r) (.no 100)
  | atomGroup {o r t l} : o ≠ 64 → Run (o + 1) (.pat []) r (.ok t (41 :: l)) → Run o .atom (40 :: r) (.ok t l)
  | atomBrk {o r res} : Brkt r res → Run o .atom (91 :: r) res
  | atomAny {o r} : Run o .atom (46 :: r) (.ok (setT .all) r)
  | atomBegin {o r} : Run o .atom (94 :: r) (.ok beginT r)
  | atomEnd {o r} : Run o .atom (36 :: r) (.ok endT r)
  | atomEsc {o} : Run o .atom [92] (.no 106)
  | atomLit {o c r} : Run o .atom (92 :: c :: r) (.ok (setT (S4.span c c)) r)
  | atomByte {o c r} : atomPlain c → Run o .atom (c :: r) (.ok (setT (S4.span c c)) r)
theorem Times.hd {l r : List Nat} {m n : Int} (h : Times l m n r) : hd isRep l := by
  cases h <;> simp [Proofs.YthhchpmlljfpjaaGreat.hd, isRep]
theorem Run.one {o : Nat} {p : Ph} {l : List Nat} {x y : Res PT} (h : Run o p l x) (k : Run o p l y) : x = y := by
  induction h generalizing y with
  | patErr _ ih => cases k with
    | patErr h => exact ih h
    | patMore h _ => cases ih h
    | patEnd h _ => cases ih h
  | patMore _ _ ih1 ih2 => cases k with
    | patErr h => cases ih1 h
    | patMore h g => cases ih1 h; exact ih2 g
    | patEnd h g => cases ih1 h; simp at g
  | patEnd _ hr ih => cases k with
    | patErr h => cases ih h
    | patMore h _ => cases ih h; simp at hr
    | patEnd h _ => cases ih h; rfl
  | altEnd h0 => cases k with
    | altEnd => rfl
    | altErr h1 h2 => rcases h0 with h0 | h0 <;> contradiction
    | altMore h1 h2 => rcases h0 with h0 | h0 <;> contradiction
  | altErr h1 h2 _ ih => cases k with
    | altEnd h0 => rcases h0 with h0 | h0 <;> contradiction
    | altErr _ _ h => exact ih h
    | altMore _ _ h _ => cases ih h
  | altMore h1 h2 _ _ ih1 ih2 => cases k with
    | altEnd h0 => rcases h0 with h0 | h0 <;> contradiction
    | altErr _ _ h => cases ih1 h
    | altMore _ _ h g => cases ih1 h; exact ih2 g
  | pieceErr _ ih => cases k with
    | pieceErr h => exact ih h
    | pieceOk h _ => cases ih h
  | pieceOk _ _ ih1 ih2 => cases k with
    | pieceErr h => cases ih1 h
    | pieceOk h g => cases ih1 h; exact ih2 g
  | repEnd h0 => cases k with
    | repEnd => rfl
    | repErr h => exact absurd h h0
    | repOk h => exact absurd h.hd h0
  | repErr h0 h1 => cases k with
    | repEnd h => exact absurd h0 h
    | repErr => rfl
    | repOk h => exact absurd h (h1 _ _ _)
  | repOk h0 _ ih => cases k with
    | repEnd h => exact absurd h0.hd h
    | repErr _ h => exact absurd h0 (h _ _ _)
    | repOk h g => obtain ⟨rfl, rfl, rfl⟩ := h0.one h; exact ih g
  | atomRep h => cases k <;> first | rfl | (simp [hd, isRep] at h; done) | (rename_i g; simp_all [hd, atomPlain])
  | atomDeep h => cases k <;> first | rfl | contradiction | (rename_i g; simp [hd, isRep, atomPlain] at g; done)
  | atomErr h _ ih => cases k with
    | atomRep g => simp [hd, isRep] at g
    | atomDeep g => contradiction
    | atomErr _ g => exact ih g
    | atomOpen _ g _ => cases ih g
    | atomGroup _ g => cases ih g
    | atomByte g => simp [atomPlain] at g
  | atomOpen h _ h2 ih => cases k with
    | atomRep g => simp [hd, isRep] at g
    | atomDeep g => contradiction
    | atomErr _ g => cases ih g
    | atomOpen _ g _ => rfl
    | atomGroup _ g => cases ih g; simp at h2
    | atomByte g => simp [atomPlain] at g
  | atomGroup h _ ih => cases k with
    | atomRep g => simp [hd, isRep] at g
    | atomDeep g => contradiction
    | atomErr _ g => cases ih g
    | atomOpen _ g g2 => cases ih g; simp at g2
    | atomGroup _ g => cases ih g; rfl
    | atomByte g => simp [atomPlain] at g
  | atomBrk h => cases k with
    | atomRep g => simp [hd, isRep] at g
    | atomBrk g => exact h.one g
    | atomByte g => simp [atomPlain] at g
  | atomAny => cases k <;> first | rfl | (rename_i g; simp [hd, isRep, atomPlain] at g; done)
  | atomBegin => cases k <;> first | rfl | (rename_i g; simp [hd, isRep, atomPlain] at g; done)
  | atomEnd => cases k <;> first | rfl | (rename_i g; simp [hd, isRep, atomPlain] at g; done)
  | atomEsc => cases k <;> first | rfl | (rename_i g; simp [hd, isRep, atomPlain] at g; done)
  | atomLit => cases k <;> first | rfl | (rename_i g; simp [hd, isRep, atomPlain] at g; done)
  | atomByte h => cases k <;> first | rfl | (simp [atomPlain] at h; done) | (rename_i g; simp [atomPlain] at h; simp_all [hd])
end Go.Proofs.YthhchpmlljfpjaaGreat
