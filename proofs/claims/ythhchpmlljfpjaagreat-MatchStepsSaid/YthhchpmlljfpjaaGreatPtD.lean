import Derived.Test.YthhchpmlljfpjaaGreatPtQ
namespace Go.Proofs.YthhchpmlljfpjaaGreat

/-! What was read is shorter; it may be; it is read alike within parentheses. -/
theorem ext2 {a b : Nat} {l : List Nat} (h : ∀ u, l ≠ a :: b :: u) (h2 : 2 ≤ l.length) (x : List Nat) : ∀ u, l ++ x ≠ a :: b :: u := by
  intro u e
  match l, h2 with
  | p :: q :: t, _ =>
    have e : p :: q :: (t ++ x) = a :: b :: u := e
    obtain ⟨rfl, e2⟩ := List.cons.inj e
    obtain ⟨rfl, _⟩ := List.cons.inj e2
    exact h t rfl
theorem encl_yes (a b c : Nat) (r : List Nat) : encl a b (c :: a :: b :: r) = some (c, r) := by simp [encl]
theorem encl_some {a b : Nat} {l r : List Nat} {c : Nat} (h : encl a b l = some (c, r)) : l = c :: a :: b :: r := by
  match l with
  | [] => cases h
  | [_] => cases h
  | [_, _] => cases h
  | x :: y :: z :: u =>
    by_cases hyz : y = a ∧ z = b
    · obtain ⟨rfl, rfl⟩ := hyz
      rw [show encl y z (x :: y :: z :: u) = some (x, u) from if_pos ⟨rfl, rfl⟩] at h
      cases h
      rfl
    · rw [show encl a b (x :: y :: z :: u) = none from if_neg hyz] at h
      cases h
theorem memb_some {f : Bool} {l r : List Nat} {c : Nat} (h : memb f l = some (c, r)) : (∃ u, l = 91 :: 46 :: u ∧ u = c :: 46 :: 93 :: r) ∨ (l = c :: r ∧ (∀ u, l ≠ 91 :: 46 :: u) ∧ (f = true → (∀ u, l ≠ 91 :: 58 :: u) ∧ ∀ u, l ≠ 91 :: 61 :: u)) := by
  cases l with
  | nil => cases h
  | cons d u =>
    by_cases h1 : ∃ v, d :: u = 91 :: 46 :: v
    · obtain ⟨v, hv⟩ := h1
      rw [hv, memb_dot] at h
      exact .inl ⟨v, hv, encl_some h⟩
    · have h1' : ∀ v, d :: u ≠ 91 :: 46 :: v := fun v e => h1 ⟨v, e⟩
      by_cases h2 : f = true ∧ ((∃ v, d :: u = 91 :: 58 :: v) ∨ ∃ v, d :: u = 91 :: 61 :: v)
      · obtain ⟨rfl, ⟨v, hv⟩ | ⟨v, hv⟩⟩ := h2 <;> rw [hv] at h <;> cases h
      · have h2' : f = true → (∀ v, d :: u ≠ 91 :: 58 :: v) ∧ ∀ v, d :: u ≠ 91 :: 61 :: v := fun hf => ⟨fun v e => h2 ⟨hf, .inl ⟨v, e⟩⟩, fun v e => h2 ⟨hf, .inr ⟨v, e⟩⟩⟩
        rw [memb_other h1' h2'] at h
        cases h
        exact .inr ⟨rfl, h1', h2'⟩
theorem memb_ext {f : Bool} {l r : List Nat} {c : Nat} (h : memb f l = some (c, r)) (hr : r ≠ []) (x : List Nat) : memb f (l ++ x) = some (c, r ++ x) := by
  rcases memb_some h with ⟨u, rfl, rfl⟩ | ⟨rfl, h1, h2⟩
  · show memb f (91 :: 46 :: (c :: 46 :: 93 :: r ++ x)) = _
    rw [memb_dot]
    exact encl_yes _ _ _ _
  · obtain ⟨d, t, rfl⟩ : ∃ d t, r = d :: t := by cases r with | nil => exact absurd rfl hr | cons d t => exact ⟨d, t, rfl⟩
    exact memb_other (ext2 h1 (by simp) x) (fun hf => ⟨ext2 (h2 hf).1 (by simp) x, ext2 (h2 hf).2 (by simp) x⟩)
/-- The ways an item is read. -/
inductive ItemOk : List Nat → S4 → List Nat → Prop where
  | cls {t name r p} : cutP [58, 93] t = some (name, r) → classOf name = some p → ItemOk (91 :: 58 :: t) (S4.of p) r
  | equ {c r} : ItemOk (91 :: 61 :: c :: 61 :: 93 :: r) (S4.span c c) r
  | one {l c r} : (∀ u, l ≠ 91 :: 58 :: u) → (∀ u, l ≠ 91 :: 61 :: u) → memb false l = some (c, r) → rng r = false → ItemOk l (S4.span c c) r
  | span {l c r d r'} : (∀ u, l ≠ 91 :: 58 :: u) → (∀ u, l ≠ 91 :: 61 :: u) → memb false l = some (c, 45 :: r) → rng (45 :: r) = true → memb true r = some (d, r') → c ≤ d → ItemOk l (S4.span c d) r'
theorem item_ok {l : List Nat} {s : S4} {r : List Nat} (h : item l = .ok s r) : ItemOk l s r := by
  by_cases h1 : ∃ u, l = 91 :: 58 :: u
  · obtain ⟨u, rfl⟩ := h1
    rw [item_cls] at h
    unfold clsR at h
    cases hc : cutP [58, 93] u with
    | none => rw [hc] at h; cases h
    | some q =>
      obtain ⟨name, r'⟩ := q
      rw [hc] at h
      simp only at h
      cases hp : classOf name with
      | none => rw [hp] at h; cases h
      | some p => rw [hp] at h; cases h; exact .cls hc hp
  · have h1' : ∀ u, l ≠ 91 :: 58 :: u := fun u e => h1 ⟨u, e⟩
    by_cases h2 : ∃ u, l = 91 :: 61 :: u
    · obtain ⟨u, rfl⟩ := h2
      rw [item_eq] at h
      cases he : encl 61 93 u with
      | none => rw [he] at h; cases h
      | some q =>
        obtain ⟨c, r'⟩ := q
        rw [he] at h
        cases h
        rw [encl_some he]
        exact .equ
    · have h2' : ∀ u, l ≠ 91 :: 61 :: u := fun u e => h2 ⟨u, e⟩
      cases hm : memb false l with
      | none => rw [item_err h1' h2' hm] at h; cases h
      | some q =>
        obtain ⟨c, r'⟩ := q
        by_cases hr : rng r' = true
        · obtain ⟨u, rfl⟩ := rng_cons hr
          rw [item_rng h1' h2' hm hr] at h
          cases hd : memb true u with
          | none => rw [hd] at h; cases h
          | some q2 =>
            obtain ⟨d, r2⟩ := q2
            rw [hd] at h
            simp only at h
            split at h
            · cases h
            · cases h
              exact .span h1' h2' hm hr hd (by omega)
        · simp only [Bool.not_eq_true] at hr
          rw [item_no_rng h1' h2' hm hr] at h
          cases h
          exact .one h1' h2' hm hr
theorem memb_len {f : Bool} {l r : List Nat} {c : Nat} (h : memb f l = some (c, r)) : r.length < l.length := by
  rcases memb_some h with ⟨u, rfl, rfl⟩ | ⟨rfl, _⟩ <;> simp <;> omega
theorem item_len {l : List Nat} {s : S4} {r : List Nat} (h : item l = .ok s r) : r.length < l.length := by
  cases item_ok h with
  | cls h1 h2 => have := cutP_len h1; simp at this ⊢; omega
  | equ => simp; omega
  | one _ _ h3 _ => exact memb_len h3
  | span _ _ h3 _ h5 _ => have := memb_len h3; have := memb_len h5; simp at *; omega
theorem item_fit {l : List Nat} {s : S4} {r : List Nat} (h : item l = .ok s r) : s.fit := by
  cases item_ok h <;> exact S4.of_fit _
theorem cutP_ext {P l a r : List Nat} (h : cutP P l = some (a, r)) (x : List Nat) : cutP P (l ++ x) = some (a, r ++ x) := by
  induction l generalizing a with
  | nil => cases h
  | cons y t ih =>
    unfold cutP at h
    rw [List.cons_append, cutP]
    by_cases hp : P.isPrefixOf (y :: t) = true
    · rw [if_pos hp] at h
      cases h
      have hp2 := List.isPrefixOf_iff_prefix.1 hp
      rw [if_pos (by rw [← List.cons_append]; exact List.isPrefixOf_iff_prefix.2 (hp2.trans (List.prefix_append _ _))), ← List.cons_append, List.drop_append_of_le_length hp2.length_le]
    · rw [if_neg hp] at h
      rw [Option.map_eq_some_iff] at h
      obtain ⟨⟨p1, p2⟩, h1, h2⟩ := h
      simp only [Prod.mk.injEq] at h2
      obtain ⟨rfl, rfl⟩ := h2
      have hlen := cutP_len h1
      by_cases hq : P.isPrefixOf (y :: (t ++ x)) = true
      · exfalso
        apply hp
        have h3 := List.isPrefixOf_iff_prefix.1 hq
        rw [← List.cons_append] at h3
        exact List.isPrefixOf_iff_prefix.2 (List.prefix_of_prefix_length_le h3 (List.prefix_append _ _) (by simp; omega))
      · rw [if_neg hq, ih h1]
        rfl
theorem item_ext {l : List Nat} {s : S4} {r : List Nat} (h : item l = .ok s r) (hr : r ≠ []) (x : List Nat) : item (l ++ x) = .ok s (r ++ x) := by
  cases item_ok h with
  | cls h1 h2 =>
    rw [List.cons_append, List.cons_append, item_cls]
    unfold clsR
    rw [cutP_ext h1]
    simp only [h2]
  | equ =>
    rename_i c
    show item (91 :: 61 :: (c :: 61 :: 93 :: (r ++ x))) = _
    rw [item_eq, encl_yes]
  | one h1 h2 h3 h4 =>
    have hl := memb_len h3
    have h2l : l.length ≥ 2 := by cases r with | nil => exact absurd rfl hr | cons => simp at hl; omega
    refine item_no_rng (ext2 h1 h2l x) (ext2 h2 h2l x) (memb_ext h3 hr x) ?_
    cases r with
    | nil => exact absurd rfl hr
    | cons c t =>
      by_cases hc : c = 45
      · subst hc
        cases t with
        | nil => cases h4
        | cons d u => exact h4
      · show rng (c :: (t ++ x)) = false
        unfold rng
        split
        · simp_all
        · rfl
  | span h1 h2 h3 h4 h5 h6 =>
    rename_i c r0 d
    have hl := memb_len h3
    have hne0 : r0 ≠ [] := by rintro rfl; cases h5
    have h2l : l.length ≥ 2 := by simp at hl; omega
    rw [item_rng (r := r0 ++ x) (ext2 h1 h2l x) (ext2 h2 h2l x) (memb_ext h3 (by simp) x) ?_, memb_ext h5 hr x]
    · simp only
      rw [if_neg (by omega)]
    · cases r0 with
      | nil => exact absurd rfl hne0
      | cons y u => exact h4
theorem Brk.ne {f : Bool} {acc : S4} {l : List Nat} {t : S4} {r : List Nat} (h : Brk f acc l (.ok t r)) : l ≠ [] := by
  rintro rfl
  cases h with
  | step _ h2 _ => have := item_len h2; simp at this
theorem Brk.len {f : Bool} {acc : S4} {l : List Nat} {res : Res S4} (h : Brk f acc l res) : ∀ t r, res = .ok t r → r.length < l.length ∧ (acc.fit → t.fit) := by
  induction h with
  | stop acc r =>
    intro t r' e
    cases e
    exact ⟨by simp, id⟩
  | err => intro t r e; cases e
  | step h1 h2 _ ih =>
    intro t r' e
    have := ih t r' e
    have h3 := item_len h2
    exact ⟨by omega, fun hf => this.2 (S4.or_fit hf (item_fit h2))⟩
theorem Brk.ext {f : Bool} {acc : S4} {l : List Nat} {res : Res S4} (h : Brk f acc l res) : ∀ t r, res = .ok t r → ∀ x, Brk f acc (l ++ x) (.ok t (r ++ x)) := by
  induction h with
  | stop acc r =>
    intro t r' e x
    cases e
    exact .stop _ _
  | err => intro t r e; cases e
  | step h1 h2 h3 ih =>
    rename_i f acc l s r res
    intro t r' e x
    subst e
    have hne := h3.ne
    have hl : l ≠ [] := by rintro rfl; have := item_len h2; simp at this
    refine .step (h1.imp id fun hh => ?_) (item_ext h2 hne x) (ih t r' rfl x)
    cases l with
    | nil => exact absurd rfl hl
    | cons => exact hh
theorem Brkt.len {l : List Nat} {t : PT} {r : List Nat} (h : Brkt l (.ok t r)) : r.length < l.length ∧ ∃ s, s.fit ∧ t = setT s := by
  obtain ⟨f, s, h1, h2, h3⟩ := h
  cases f with
  | no e => cases h3
  | ok u r' =>
    cases h3
    have := Brk.len h1 u r rfl
    refine ⟨?_, _, ?_, rfl⟩
    · split at this
      · rw [List.length_tail] at this; omega
      · exact this.1
    · rw [h2]
      split
      · exact S4.of_fit _
      · exact this.2 S4.zero_fit
theorem Brkt.ext {l : List Nat} {t : PT} {r : List Nat} (h : Brkt l (.ok t r)) (x : List Nat) : Brkt (l ++ x) (.ok t (r ++ x)) := by
  obtain ⟨f, s, h1, h2, h3⟩ := h
  cases f with
  | no e => cases h3
  | ok u r' =>
    cases h3
    have hne : l ≠ [] := by
      rintro rfl
      exact h1.ne rfl
    obtain ⟨c, v, rfl⟩ : ∃ c v, l = c :: v := by cases l with | nil => exact absurd rfl hne | cons c v => exact ⟨c, v, rfl⟩
    refine ⟨.ok u (r ++ x), s, ?_, h2, rfl⟩
    have := Brk.ext h1 u r rfl x
    by_cases hc : c = 94
    · subst hc; exact this
    · have e1 : ¬ (c :: v).head? = some 94 := by simp; exact hc
      have e2 : ¬ (c :: v ++ x).head? = some 94 := by simp; exact hc
      rw [if_neg e1] at this
      rw [if_neg e2]
      exact this
theorem Times.len {l r : List Nat} {m n : Int} (h : Times l m n r) : r.length < l.length := by
  cases h with
  | star => simp
  | plus => simp
  | may => simp
  | intv h =>
    obtain ⟨x, k, d1, _, _, h | h | h⟩ := h
    · rw [h.1]; simp; omega
    · rw [h.1]; simp; omega
    · obtain ⟨y, j, e, _⟩ := h; rw [e]; simp; omega
theorem Times.ext {l r : List Nat} {m n : Int} (h : Times l m n r) (x : List Nat) : Times (l ++ x) m n (r ++ x) := by
  cases h with
  | star => exact .star _
  | plus => exact .plus _
  | may => exact .may _
  | intv h =>
    refine .intv ?_
    obtain ⟨a, k, d1, h1, h2, h | h | h⟩ := h
    · exact ⟨a, k, d1, h1, h2, .inl ⟨by rw [h.1]; simp, h.2⟩⟩
    · exact ⟨a, k, d1, h1, h2, .inr (.inl ⟨by rw [h.1]; simp, h.2⟩)⟩
    · obtain ⟨y, j, e, g⟩ := h
      exact ⟨a, k, d1, h1, h2, .inr (.inr ⟨y, j, by rw [e]; simp, g⟩)⟩
/-- What was read is shorter than the text; a piece is one byte at least. -/
theorem Run.len {o : Nat} {p : Ph} {l : List Nat} {res : Res PT} (h : Run o p l res) : ∀ t r, res = .ok t r → r.length ≤ l.length ∧ ((p = .atom ∨ p = .piece) → r.length < l.length) := by
  induction h with
  | patErr | altErr | pieceErr | repErr | atomRep | atomDeep | atomErr | atomOpen | atomEsc => intro t r e; cases e
  | patMore _ _ ih1 ih2 =>
    intro t r e
    have h1 := (ih1 _ _ rfl).1
    have h2 := (ih2 _ _ e).1
    simp at h1
    exact ⟨by omega, fun h => by rcases h with h | h <;> cases h⟩
  | patEnd _ _ ih => intro t r e; cases e; exact ⟨(ih _ _ rfl).1, fun h => by rcases h with h | h <;> cases h⟩
  | altEnd => intro t r e; cases e; exact ⟨Nat.le_refl _, fun h => by rcases h with h | h <;> cases h⟩
  | altMore _ _ _ _ ih1 ih2 =>
    intro t r e
    have h1 := (ih1 _ _ rfl).1
    have h2 := (ih2 _ _ e).1
    exact ⟨by omega, fun h => by rcases h with h | h <;> cases h⟩
  | pieceOk _ _ ih1 ih2 =>
    intro t r e
    have h1 := (ih1 _ _ rfl).2 (.inl rfl)
    have h2 := (ih2 _ _ e).1
    exact ⟨by omega, fun _ => by omega⟩
  | repEnd => intro t r e; cases e; exact ⟨Nat.le_refl _, fun h => by rcases h with h | h <;> cases h⟩
  | repOk h1 _ ih =>
    intro t r e
    have h2 := h1.len
    have h3 := (ih _ _ e).1
    exact ⟨by omega, fun h => by rcases h with h | h <;> cases h⟩
  | atomGroup _ _ ih =>
    intro t r e
    cases e
    have h1 := (ih _ _ rfl).1
    simp at h1 ⊢
    omega
  | atomBrk h1 =>
    intro t r e
    subst e
    have := h1.len.1
    simp
    omega
  | atomAny | atomBegin | atomEnd | atomByte | atomLit => intro t r e; cases e; simp; try omega
end Go.Proofs.YthhchpmlljfpjaaGreat
