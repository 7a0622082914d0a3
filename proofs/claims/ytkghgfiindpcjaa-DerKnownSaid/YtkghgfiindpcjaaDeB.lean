import Derived.Test.YtkghgfiindpcjaaDeA
namespace Go.Proofs.Ytkghgfiindpcjaa
open Go.RowKit

/-! Integers' contents and keys' bytes, over lists of numbers. -/
/-- The content that tells a number. -/
def IntB (n : Nat) (c : List Nat) : Prop := (BNum c n ∧ c ≠ [] ∧ at0 c 0 < 128) ∨ (∃ m, BNum m n ∧ (m = [] ∨ 128 ≤ at0 m 0) ∧ c = 0 :: m)
theorem IntB.one {n : Nat} {c c' : List Nat} (h : IntB n c) (g : IntB n c') : c = c' := by
  rcases h with ⟨h1, h2, h3⟩ | ⟨m, h1, h2, rfl⟩ <;> rcases g with ⟨g1, g2, g3⟩ | ⟨m', g1, g2, rfl⟩
  · exact BNum.unique _ (Nat.le_refl _) h1 g1
  · have e : c = m' := BNum.unique _ (Nat.le_refl _) h1 g1
    subst e
    rcases g2 with g2 | g2
    · exact absurd g2 h2
    · omega
  · have e : m = c' := BNum.unique _ (Nat.le_refl _) h1 g1
    subst e
    rcases h2 with h2 | h2
    · exact absurd h2 g2
    · omega
  · rw [BNum.unique _ (Nat.le_refl _) h1 g1]
theorem IntB.ex (n : Nat) : ∃ c, IntB n c := by
  obtain ⟨m, hm⟩ := bnum_ex n
  by_cases h : m = [] ∨ 128 ≤ at0 m 0
  · exact ⟨0 :: m, .inr ⟨m, hm, h, rfl⟩⟩
  · exact ⟨m, .inl ⟨hm, fun e => h (.inl e), by have : ¬ 128 ≤ at0 m 0 := fun e => h (.inr e); omega⟩⟩
theorem IntB.b8 {n : Nat} {c : List Nat} (h : IntB n c) : B8 c := by
  rcases h with ⟨h1, _, _⟩ | ⟨m, h1, _, rfl⟩
  · exact h1.b8
  · intro x hx
    rcases List.mem_cons.1 hx with rfl | hx
    · omega
    · exact h1.b8 x hx
theorem IntB.pos {n : Nat} {c : List Nat} (h : IntB n c) : 0 < c.length := by
  rcases h with ⟨_, h2, _⟩ | ⟨m, _, _, rfl⟩
  · exact List.length_pos_iff.2 h2
  · simp
theorem IntB.len {n k : Nat} {c : List Nat} (h : IntB n c) (hn : n < 256 ^ k) : c.length ≤ k + 1 := by
  rcases h with ⟨h1, _, _⟩ | ⟨m, h1, _, rfl⟩
  · have := bnum_len h1 hn; omega
  · have := bnum_len h1 hn; simp; omega
theorem IntB.val {n : Nat} {c : List Nat} (h : IntB n c) : bval c = n := by
  rcases h with ⟨h1, _, _⟩ | ⟨m, h1, _, rfl⟩
  · exact h1.vl
  · rw [bval_cons, h1.vl]; omega

/-- Whether bytes are an integer's content. -/
def intOK (c : List Nat) : Bool := 0 < c.length && at0 c 0 < 128 && (at0 c 0 != 0 || c.length == 1 || 128 ≤ at0 c 1)
theorem intOK_of {n : Nat} {c : List Nat} (h : IntB n c) : intOK c = true := by
  rcases h with ⟨h1, h2, h3⟩ | ⟨m, h1, h2, rfl⟩
  · have hp : 0 < c.length := List.length_pos_iff.2 h2
    have := h1.cn hp
    simp [intOK, hp, h3, this]
  · rcases h2 with rfl | h2
    · rfl
    · have e : at0 (0 :: m) 1 = at0 m 0 := rfl
      have e0 : at0 (0 :: m) 0 = 0 := rfl
      simp [intOK, e, e0, h2]
theorem intOK_ok {c : List Nat} (h8 : B8 c) (h : intOK c = true) : IntB (bval c) c := by
  simp only [intOK, Bool.and_eq_true, Bool.or_eq_true, decide_eq_true_eq, bne_iff_ne, beq_iff_eq] at h
  obtain ⟨⟨h1, h2⟩, h3⟩ := h
  by_cases h0 : at0 c 0 = 0
  · rcases c with _ | ⟨x, m⟩
    · simp at h1
    · have hx : x = 0 := h0
      subst hx
      have hv : bval (0 :: m) = bval m := by rw [bval_cons]; omega
      have e1 : at0 (0 :: m) 1 = at0 m 0 := rfl
      rcases h3 with (h3 | h3) | h3
      · exact absurd h0 h3
      · have hm : m = [] := by simpa using h3
        subst hm
        exact .inr ⟨[], BNum.nil, .inl rfl, rfl⟩
      · rw [e1] at h3
        exact .inr ⟨m, ⟨b8_tail h8, fun _ => by omega, hv.symm⟩, .inr h3, rfl⟩
  · exact .inl ⟨⟨h8, fun _ => h0, rfl⟩, List.length_pos_iff.1 h1, h2⟩
/-- An integer's error. -/
def intE (c : List Nat) : Int := if intOK c then (if bval c < 2 ^ 4096 then 0 else 3) else 73

/-- A whole item. -/
def ItemB (t : Nat) (c b : List Nat) : Prop := ∃ l, LenB c.length l ∧ b = t :: (l ++ c)
theorem ItemB.one {t : Nat} {c b b' : List Nat} (h : ItemB t c b) (g : ItemB t c b') : b = b' := by
  obtain ⟨l, h1, rfl⟩ := h
  obtain ⟨l', g1, rfl⟩ := g
  rw [h1.one g1]
theorem ItemB.ex (t : Nat) (c : List Nat) (h : c.length < 4294967296) : ∃ b, ItemB t c b := by
  obtain ⟨l, hl⟩ := LenB.ex _ h
  exact ⟨_, l, hl, rfl⟩
theorem ItemB.b8 {t : Nat} {c b : List Nat} (h : ItemB t c b) (ht : t < 256) (h8 : B8 c) : B8 b := by
  obtain ⟨l, h1, rfl⟩ := h
  intro x hx
  rcases List.mem_cons.1 hx with rfl | hx
  · exact ht
  · exact b8_app h1.b8 h8 x hx
theorem ItemB.of {t : Nat} {c b post : List Nat} (h : ItemB t c b) : item0 (b ++ post) = (0, t, b.length - c.length, b.length) ∧ (b ++ post).take b.length = b ∧ b.drop (b.length - c.length) = c ∧ c.length + 2 ≤ b.length := by
  obtain ⟨l, h1, rfl⟩ := h
  have hl := h1.len
  refine ⟨?_, List.take_left' rfl, ?_, ?_⟩
  · rw [List.cons_append, List.append_assoc, item0_of h1 rfl]
    simp only [List.length_cons, List.length_append, Prod.mk.injEq, true_and]
    omega
  · have e : (t :: (l ++ c)).length - c.length = l.length + 1 := by simp; omega
    rw [e]
    simp
  · simp; omega
theorem ItemB.ok {b : List Nat} {t f o : Nat} (h8 : B8 b) (h : item0 b = (0, t, f, o)) : ∃ c x post, b = x ++ post ∧ ItemB t c x ∧ o = x.length ∧ f = x.length - c.length ∧ (b.take o).drop f = c ∧ b.drop o = post := by
  obtain ⟨l, c, post, rfl, hl, rfl, rfl⟩ := item0_ok h8 h
  have e : t :: (l ++ (c ++ post)) = (t :: (l ++ c)) ++ post := by simp
  have e2 : 1 + l.length + c.length = (t :: (l ++ c)).length := by simp; omega
  refine ⟨c, t :: (l ++ c), post, e, ⟨l, hl, rfl⟩, e2, ?_, ?_, ?_⟩
  · simp; omega
  · rw [e, e2, List.take_left']
    · rw [Nat.add_comm]; simp
    · rfl
  · rw [e, e2, List.drop_left' rfl]

/-- A key's bytes. -/
def KeyB (n e : Nat) (b : List Nat) : Prop := ∃ cn ce xn xe, IntB n cn ∧ IntB e ce ∧ ItemB 2 cn xn ∧ ItemB 2 ce xe ∧ ItemB 48 (xn ++ xe) b
theorem KeyB.one {n e : Nat} {b b' : List Nat} (h : KeyB n e b) (g : KeyB n e b') : b = b' := by
  obtain ⟨cn, ce, xn, xe, h1, h2, h3, h4, h5⟩ := h
  obtain ⟨cn', ce', xn', xe', g1, g2, g3, g4, g5⟩ := g
  obtain rfl := h1.one g1
  obtain rfl := h2.one g2
  obtain rfl := h3.one g3
  obtain rfl := h4.one g4
  exact h5.one g5

/-- An integer in an item at the beginning, and what stands behind it. -/
def int0 (c : List Nat) : Int × Nat × List Nat :=
  let i := item0 c
  if i.1 ≠ 0 then (i.1, 0, [])
  else if i.2.1 ≠ 2 then (71, 0, [])
  else if intE ((c.take i.2.2.2).drop i.2.2.1) ≠ 0 then (intE ((c.take i.2.2.2).drop i.2.2.1), 0, [])
  else (0, bval ((c.take i.2.2.2).drop i.2.2.1), c.drop i.2.2.2)
/-- What a key's bytes tell. -/
def dec0 (b : List Nat) : Int × Nat × Nat :=
  let i := item0 b
  if i.1 ≠ 0 then (i.1, 0, 0)
  else if i.2.1 ≠ 48 then (71, 0, 0)
  else if i.2.2.2 < b.length then (74, 0, 0)
  else
    let p := int0 (b.drop i.2.2.1)
    if p.1 ≠ 0 then (p.1, 0, 0)
    else
      let q := int0 p.2.2
      if q.1 ≠ 0 then (q.1, 0, 0)
      else if q.2.2 ≠ [] then (74, 0, 0)
      else (0, p.2.1, q.2.1)
theorem intE_of {n : Nat} {c : List Nat} (h : IntB n c) (hn : n < 2 ^ 4096) : intE c = 0 := by
  rw [intE, intOK_of h, if_pos rfl, h.val, if_pos hn]
theorem int0_of {n : Nat} {c x post : List Nat} (h : IntB n c) (hn : n < 2 ^ 4096) (g : ItemB 2 c x) : int0 (x ++ post) = (0, n, post) := by
  obtain ⟨g1, g2, g3, g4⟩ := g.of (post := post)
  have e : (((x ++ post).take x.length).drop (x.length - c.length)) = c := by rw [g2, g3]
  simp only [int0, g1, e, intE_of h hn, h.val, ne_eq, not_true_eq_false, if_false]
  rw [List.drop_left' rfl]
theorem dec0_of {n e : Nat} {b : List Nat} (h : KeyB n e b) (hn : n < 2 ^ 4096) (he : e < 2 ^ 4096) : dec0 b = (0, n, e) := by
  obtain ⟨cn, ce, xn, xe, h1, h2, h3, h4, h5⟩ := h
  obtain ⟨g1, g2, g3, g4⟩ := h5.of (post := [])
  rw [List.append_nil] at g1
  have i1 := int0_of (post := xe) h1 hn h3
  have i2 := int0_of (post := []) h2 he h4
  rw [List.append_nil] at i2
  simp only [dec0, g1, g3, i1, i2, ne_eq, not_true_eq_false, if_false, Nat.lt_irrefl]
theorem int0_ok {c post : List Nat} {n : Nat} (h8 : B8 c) (h : int0 c = (0, n, post)) : ∃ k x, c = x ++ post ∧ IntB n k ∧ ItemB 2 k x ∧ n < 2 ^ 4096 := by
  rcases hi : item0 c with ⟨er, t, f, o⟩
  simp only [int0, hi] at h
  by_cases h1 : er = 0
  · subst h1
    rw [if_neg (by simp)] at h
    by_cases h2 : t = 2
    · subst h2
      rw [if_neg (by simp)] at h
      by_cases h3 : intE ((c.take o).drop f) = 0
      · rw [if_neg (by simp [h3])] at h
        simp only [Prod.mk.injEq, true_and] at h
        obtain ⟨hv, hp⟩ := h
        obtain ⟨k, x, post', e, hx, ho, hf, ek, ep⟩ := ItemB.ok h8 hi
        rw [ek] at h3 hv
        rw [ep] at hp
        subst hp
        have hk8 : B8 k := by rw [← ek]; exact (h8.take _).drop _
        have hok : intOK k = true := by
          cases h4 : intOK k with
          | true => rfl
          | false => rw [intE, h4] at h3; simp at h3
        have hlt : bval k < 2 ^ 4096 := by
          refine Decidable.byContradiction fun h5 => ?_
          rw [intE, hok, if_pos rfl, if_neg h5] at h3
          omega
        have hb := intOK_ok hk8 hok
        rw [hv] at hb hlt
        exact ⟨k, x, e, hb, hx, hlt⟩
      · rw [if_pos h3] at h
        simp only [Prod.mk.injEq] at h
        exact absurd h.1 h3
    · rw [if_pos h2] at h
      simp at h
  · rw [if_pos h1] at h
    simp only [Prod.mk.injEq] at h
    exact absurd h.1 h1
theorem dec0_ok {b : List Nat} {n e : Nat} (h8 : B8 b) (h : dec0 b = (0, n, e)) : KeyB n e b ∧ n < 2 ^ 4096 ∧ e < 2 ^ 4096 := by
  rcases hi : item0 b with ⟨er, t, f, o⟩
  simp only [dec0, hi] at h
  by_cases h1 : er = 0
  · subst h1
    rw [if_neg (by simp)] at h
    by_cases h2 : t = 48
    · subst h2
      rw [if_neg (by simp)] at h
      by_cases h3 : o < b.length
      · rw [if_pos h3] at h; simp at h
      · rw [if_neg h3] at h
        obtain ⟨k, x, post, eb, hx, ho, hf, ek, ep⟩ := ItemB.ok h8 hi
        have hp0 : post = [] := by
          rcases post with _ | ⟨y, ys⟩
          · rfl
          · rw [eb, ho] at h3; simp at h3
        subst hp0
        rw [List.append_nil] at eb
        subst eb
        have ek' : b.drop f = k := by
          rw [ho, List.take_of_length_le (Nat.le_refl _)] at ek
          exact ek
        rw [ek'] at h
        have hk8 : B8 k := by rw [← ek']; exact h8.drop _
        rcases hp : int0 k with ⟨e1, n1, p1⟩
        rw [hp] at h
        by_cases h4 : e1 = 0
        · subst h4
          rw [if_neg (by simp)] at h
          obtain ⟨k1, x1, ek1, hk1, hx1, hn1⟩ := int0_ok hk8 hp
          have hp8 : B8 p1 := fun y hy => hk8 y (by rw [ek1]; exact List.mem_append_right _ hy)
          rcases hq : int0 p1 with ⟨e2, n2, p2⟩
          rw [hq] at h
          by_cases h5 : e2 = 0
          · subst h5
            rw [if_neg (by simp)] at h
            obtain ⟨k2, x2, ek2, hk2, hx2, hn2⟩ := int0_ok hp8 hq
            by_cases h6 : p2 = []
            · subst h6
              rw [if_neg (by simp)] at h
              simp only [Prod.mk.injEq, true_and] at h
              obtain ⟨rfl, rfl⟩ := h
              rw [List.append_nil] at ek2
              subst ek2
              subst ek1
              exact ⟨⟨k1, k2, x1, p1, hk1, hk2, hx1, hx2, hx⟩, hn1, hn2⟩
            · rw [if_pos h6] at h; simp at h
          · rw [if_pos h5] at h
            simp only [Prod.mk.injEq] at h
            exact absurd h.1 h5
        · rw [if_pos h4] at h
          simp only [Prod.mk.injEq] at h
          exact absurd h.1 h4
    · rw [if_pos h2] at h; simp at h
  · rw [if_pos h1] at h
    simp only [Prod.mk.injEq] at h
    exact absurd h.1 h1
/-- What is cut short. -/
theorem dec0_cut {n e : Nat} {b : List Nat} (h : KeyB n e b) (k : Nat) (hk : k < b.length) : dec0 (b.take k) = (70, 0, 0) := by
  obtain ⟨cn, ce, xn, xe, h1, h2, h3, h4, l, h5, rfl⟩ := h
  have := item0_cut (t := 48) h5 rfl k hk
  simp only [dec0, this]
  rfl
/-- What goes on behind. -/
theorem dec0_more {n e : Nat} {b post : List Nat} (h : KeyB n e b) (hp : post ≠ []) : dec0 (b ++ post) = (74, 0, 0) := by
  obtain ⟨cn, ce, xn, xe, h1, h2, h3, h4, h5⟩ := h
  obtain ⟨g1, g2, g3, g4⟩ := h5.of (post := post)
  have : 0 < post.length := List.length_pos_iff.2 hp
  simp only [dec0, g1, ne_eq, not_true_eq_false, if_false]
  rw [if_pos (by rw [List.length_append]; omega)]
set_option exponentiation.threshold 10000 in
theorem key_lim : (2 : Nat) ^ 4096 = 256 ^ 512 := by decide
theorem KeyB.ex (n e : Nat) (hn : n < 2 ^ 4096) (he : e < 2 ^ 4096) : ∃ b, KeyB n e b ∧ b.length ≤ 1046 := by
  have e1 := key_lim
  obtain ⟨cn, hcn⟩ := IntB.ex n
  obtain ⟨ce, hce⟩ := IntB.ex e
  have l1 := hcn.len (k := 512) (e1 ▸ hn)
  have l2 := hce.len (k := 512) (e1 ▸ he)
  obtain ⟨xn, hxn⟩ := ItemB.ex 2 cn (by omega)
  obtain ⟨xe, hxe⟩ := ItemB.ex 2 ce (by omega)
  have len2 : ∀ {t : Nat} {c x : List Nat} {j : Nat}, ItemB t c x → c.length < 256 ^ j → j ≤ 2 → x.length ≤ c.length + 2 + j := by
    rintro t c x j ⟨l, hl, rfl⟩ hc hj
    rcases hl with ⟨_, rfl⟩ | ⟨_, m, hm, _, rfl⟩
    · simp <;> omega
    · have := bnum_len hm hc
      simp; omega
  have l3 := len2 (j := 2) hxn (by omega) (by omega)
  have l4 := len2 (j := 2) hxe (by omega) (by omega)
  obtain ⟨b, hb⟩ := ItemB.ex 48 (xn ++ xe) (by rw [List.length_append]; omega)
  have l5 := len2 (j := 2) hb (by rw [List.length_append]; omega) (by omega)
  rw [List.length_append] at l5
  exact ⟨b, ⟨cn, ce, xn, xe, hcn, hce, hxn, hxe, hb⟩, by omega⟩
end Go.Proofs.Ytkghgfiindpcjaa
