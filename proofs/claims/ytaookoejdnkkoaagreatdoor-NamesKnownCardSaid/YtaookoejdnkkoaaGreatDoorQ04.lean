import Derived.Test.YtaookoejdnkkoaaGreatDoorQHv
namespace Go.Proofs.YtaookoejdnkkoaaGreatDoor
open Go.RowKit

/-! Items of bytes that tell their length, over lists of numbers. -/
theorem b8_tail {x : Nat} {xs : List Nat} (h : B8 (x :: xs)) : B8 xs := fun y hy => h y (List.mem_cons_of_mem _ hy)
theorem b8_app {xs ys : List Nat} (h : B8 xs) (k : B8 ys) : B8 (xs ++ ys) := fun y hy => by
  rcases List.mem_append.1 hy with h1 | h1
  · exact h y h1
  · exact k y h1
theorem bnum_ex : ∀ n : Nat, ∃ l, BNum l n := by
  intro n
  induction n using Nat.strongRecOn with
  | ind n ih =>
    by_cases h0 : n = 0
    · subst h0; exact ⟨[], BNum.nil⟩
    · obtain ⟨l, hl⟩ := ih (n / 256) (by omega)
      have e : 256 * (n / 256) + n % 256 = n := by omega
      refine ⟨l ++ [n % 256], ?_⟩
      have := hl.snoc (c := n % 256) (by omega) ?_
      · rwa [e] at this
      · by_cases h1 : n % 256 = 0
        · refine .inr ?_
          rcases l with _ | ⟨x, l⟩
          · exfalso
            have := hl.vl
            simp [bval] at this
            omega
          · simp
        · exact .inl h1
theorem bnum_len {l : List Nat} {n k : Nat} (h : BNum l n) (hn : n < 256 ^ k) : l.length ≤ k := by
  refine Nat.le_of_not_lt fun hk => ?_
  rcases l with _ | ⟨x, l⟩
  · simp at hk
  · have h0 := h.cn (by simp)
    have h1 := h.vl
    rw [bval_cons] at h1
    have h2 : at0 (x :: l) 0 = x := rfl
    rw [h2] at h0
    have h3 : 256 ^ k ≤ 256 ^ l.length := Nat.pow_le_pow_right (by decide) (by simp at hk; omega)
    have h4 : 1 * 256 ^ l.length ≤ x * 256 ^ l.length := Nat.mul_le_mul_right _ (by omega)
    omega
theorem bnum_lt {l : List Nat} {n : Nat} (h : BNum l n) : n < 256 ^ l.length := by
  have := bval_lt h.b8
  rwa [h.vl] at this

/-- A length's bytes. -/
def LenB (n : Nat) (l : List Nat) : Prop := (n < 128 ∧ l = [n]) ∨ (128 ≤ n ∧ ∃ m, BNum m n ∧ m.length ≤ 4 ∧ l = (128 + m.length) :: m)
theorem LenB.one {n : Nat} {l l' : List Nat} (h : LenB n l) (g : LenB n l') : l = l' := by
  rcases h with ⟨h1, rfl⟩ | ⟨h1, m, h2, h3, rfl⟩ <;> rcases g with ⟨g1, rfl⟩ | ⟨g1, m', g2, g3, rfl⟩
  · rfl
  · omega
  · omega
  · rw [BNum.unique _ (Nat.le_refl _) h2 g2]
theorem LenB.ex (n : Nat) (h : n < 4294967296) : ∃ l, LenB n l := by
  by_cases h1 : n < 128
  · exact ⟨_, .inl ⟨h1, rfl⟩⟩
  · obtain ⟨m, hm⟩ := bnum_ex n
    exact ⟨_, .inr ⟨by omega, m, hm, bnum_len hm (by simpa using h), rfl⟩⟩
theorem LenB.len {n : Nat} {l : List Nat} (h : LenB n l) : 1 ≤ l.length ∧ l.length ≤ 5 := by
  rcases h with ⟨_, rfl⟩ | ⟨_, m, _, h3, rfl⟩
  · simp
  · simp; omega
theorem LenB.b8 {n : Nat} {l : List Nat} (h : LenB n l) : B8 l := by
  rcases h with ⟨h1, rfl⟩ | ⟨_, m, h2, h3, rfl⟩
  · intro x hx; simp at hx; omega
  · intro x hx
    rcases List.mem_cons.1 hx with rfl | hx
    · omega
    · exact h2.b8 x hx
theorem LenB.lt {n : Nat} {l : List Nat} (h : LenB n l) : n < 4294967296 := by
  rcases h with ⟨h1, rfl⟩ | ⟨_, m, h2, h3, rfl⟩
  · omega
  · have h4 := bnum_lt h2
    have h5 : 256 ^ m.length ≤ 256 ^ 4 := Nat.pow_le_pow_right (by decide) h3
    have h6 : (256 : Nat) ^ 4 = 4294967296 := by decide
    omega

/-- The item at the beginning: what is wrong, the tag, where the content begins and ends. -/
def item0 : List Nat → Int × Nat × Nat × Nat
  | [] => (70, 0, 0, 0)
  | [_] => (70, 0, 0, 0)
  | t :: n :: r =>
    if n = 128 ∨ 132 < n then (72, 0, 0, 0)
    else if 128 < n then
      if r.length < n - 128 then (70, 0, 0, 0)
      else if bval (r.take (n - 128)) < 128 ∨ at0 r 0 = 0 then (72, 0, 0, 0)
      else if r.length - (n - 128) < bval (r.take (n - 128)) then (70, 0, 0, 0)
      else (0, t, 2 + (n - 128), 2 + (n - 128) + bval (r.take (n - 128)))
    else if r.length < n then (70, 0, 0, 0)
    else (0, t, 2, 2 + n)
theorem item0_of {t n : Nat} {l c post : List Nat} (hl : LenB n l) (hc : c.length = n) : item0 (t :: (l ++ (c ++ post))) = (0, t, 1 + l.length, 1 + l.length + n) := by
  rcases hl with ⟨h1, rfl⟩ | ⟨h1, m, h2, h3, rfl⟩
  · show item0 (t :: n :: (c ++ post)) = _
    rw [item0, if_neg (by omega), if_neg (by omega), if_neg (by rw [List.length_append]; omega)]
    rfl
  · have hm0 : 0 < m.length := by
      refine Nat.pos_of_ne_zero fun h => ?_
      have := bnum_lt h2
      rw [h] at this
      simp at this
      omega
    have e1 : 128 + m.length - 128 = m.length := by omega
    have e2 : (m ++ (c ++ post)).take m.length = m := by simp
    have e3 : at0 (m ++ (c ++ post)) 0 = at0 m 0 := at0_append_left hm0
    show item0 (t :: (128 + m.length) :: (m ++ (c ++ post))) = _
    rw [item0, if_neg (by omega), if_pos (by omega), e1, if_neg (by rw [List.length_append]; omega), e2, h2.vl, e3, if_neg (by have := h2.cn hm0; omega), if_neg (by rw [List.length_append, List.length_append]; omega)]
    simp only [List.length_cons]
    rw [show 1 + (m.length + 1) = 2 + m.length by omega]
theorem item0_ok {b : List Nat} {t f o : Nat} (h8 : B8 b) (h : item0 b = (0, t, f, o)) : ∃ l c post, b = t :: (l ++ (c ++ post)) ∧ LenB c.length l ∧ f = 1 + l.length ∧ o = f + c.length := by
  match b, h8, h with
  | [], _, h => simp [item0] at h
  | [_], _, h => simp [item0] at h
  | t' :: n :: r, h8, h =>
    rw [item0] at h
    by_cases h1 : n = 128 ∨ 132 < n
    · rw [if_pos h1] at h; simp at h
    · rw [if_neg h1] at h
      by_cases h2 : 128 < n
      · rw [if_pos h2] at h
        by_cases h3 : r.length < n - 128
        · rw [if_pos h3] at h; simp at h
        · rw [if_neg h3] at h
          by_cases h4 : bval (r.take (n - 128)) < 128 ∨ at0 r 0 = 0
          · rw [if_pos h4] at h; simp at h
          · rw [if_neg h4] at h
            by_cases h5 : r.length - (n - 128) < bval (r.take (n - 128))
            · rw [if_pos h5] at h; simp at h
            · rw [if_neg h5] at h
              simp only [Prod.mk.injEq, true_and] at h
              obtain ⟨rfl, rfl, rfl⟩ := h
              have hml : (r.take (n - 128)).length = n - 128 := by rw [List.length_take]; omega
              refine ⟨n :: r.take (n - 128), (r.drop (n - 128)).take (bval (r.take (n - 128))), (r.drop (n - 128)).drop (bval (r.take (n - 128))), ?_, .inr ⟨?_, r.take (n - 128), ⟨?_, fun _ => ?_, ?_⟩, by omega, by rw [hml, show 128 + (n - 128) = n by omega]⟩, ?_, ?_⟩
              · rw [List.take_append_drop, List.cons_append, List.take_append_drop]
              · rw [List.length_take, List.length_drop]; omega
              · exact (b8_tail (b8_tail h8)).take _
              · rw [at0_take (by omega)]; omega
              · rw [List.length_take, List.length_drop]; omega
              · simp only [List.length_cons, hml]; omega
              · rw [List.length_take, List.length_drop]; omega
      · rw [if_neg h2] at h
        by_cases h3 : r.length < n
        · rw [if_pos h3] at h; simp at h
        · rw [if_neg h3] at h
          simp only [Prod.mk.injEq, true_and] at h
          obtain ⟨rfl, rfl, rfl⟩ := h
          have hml : (r.take n).length = n := by rw [List.length_take]; omega
          refine ⟨[n], r.take n, r.drop n, ?_, ?_, rfl, by rw [hml]⟩
          · rw [List.take_append_drop]; rfl
          · rw [hml]; exact .inl ⟨by omega, rfl⟩
/-- An item that is cut short is none. -/
theorem item0_cut {t n : Nat} {l c : List Nat} (hl : LenB n l) (hc : c.length = n) (k : Nat) (hk : k < (t :: (l ++ c)).length) : item0 ((t :: (l ++ c)).take k) = (70, 0, 0, 0) := by
  rcases hl with ⟨h1, rfl⟩ | ⟨h1, m, h2, h3, rfl⟩
  · match k with
    | 0 => rfl
    | 1 => rfl
    | k + 2 =>
      show item0 (t :: n :: c.take k) = _
      have hl : (c.take k).length < n := by rw [List.length_take]; simp at hk; omega
      rw [item0, if_neg (by omega), if_neg (by omega), if_pos hl]
  · have hm0 : 0 < m.length := by
      refine Nat.pos_of_ne_zero fun h => ?_
      have := bnum_lt h2
      rw [h] at this
      simp at this
      omega
    match k with
    | 0 => rfl
    | 1 => rfl
    | k + 2 =>
      show item0 (t :: (128 + m.length) :: (m ++ c).take k) = _
      have e1 : 128 + m.length - 128 = m.length := by omega
      have hkl : k < m.length + n := by simp at hk; omega
      rw [item0, if_neg (by omega), if_pos (by omega), e1]
      by_cases hkm : k < m.length
      · rw [if_pos (by rw [List.length_take]; omega)]
      · have e2 : ((m ++ c).take k).take m.length = m := by rw [List.take_take, Nat.min_eq_left (by omega)]; simp
        have e3 : at0 ((m ++ c).take k) 0 = at0 m 0 := by rw [at0_take (by omega)]; exact at0_append_left hm0
        have hl : ((m ++ c).take k).length = k := by rw [List.length_take, List.length_append]; omega
        rw [if_neg (by omega), e2, h2.vl, e3, if_neg (by have := h2.cn hm0; omega), if_pos (by omega)]

/-! Integers' contents and keys' bytes, over lists of numbers. -/
/-- The content that tells a number. -/
def IntB (n : Nat) (c : List Nat) : Prop := (BNum c n ∧ c ≠ [] ∧ at0 c 0 < 128) ∨ (∃ m, BNum m n ∧ (m = [] ∨ 128 ≤ at0 m 0) ∧ c = 0 :: m)
theorem IntB.one {n : Nat} {c c' : List Nat} (h : IntB n c) (g : IntB n c') : c = c' := by
  rcases h with ⟨h1, h2, h3⟩ | ⟨m, h1, h2, rfl⟩ <;> rcases g with ⟨g1, g2, g3⟩ | ⟨m', g1, g2, rfl⟩
  · exact BNum.unique _ (Nat.le_refl _) h1 g1
  · have e : c = m' := BNum.unique _ (Nat.le_refl _) h1 g1
    subst e
    rcases g2 with g2 | g2
    · exact absurd g2 h2
    · omega
  · have e : m = c' := BNum.unique _ (Nat.le_refl _) h1 g1
    subst e
    rcases h2 with h2 | h2
    · exact absurd h2 g2
    · omega
  · rw [BNum.unique _ (Nat.le_refl _) h1 g1]
theorem IntB.ex (n : Nat) : ∃ c, IntB n c := by
  obtain ⟨m, hm⟩ := bnum_ex n
  by_cases h : m = [] ∨ 128 ≤ at0 m 0
  · exact ⟨0 :: m, .inr ⟨m, hm, h, rfl⟩⟩
  · exact ⟨m, .inl ⟨hm, fun e => h (.inl e), by have : ¬ 128 ≤ at0 m 0 := fun e => h (.inr e); omega⟩⟩
theorem IntB.b8 {n : Nat} {c : List Nat} (h : IntB n c) : B8 c := by
  rcases h with ⟨h1, _, _⟩ | ⟨m, h1, _, rfl⟩
  · exact h1.b8
  · intro x hx
    rcases List.mem_cons.1 hx with rfl | hx
    · omega
    · exact h1.b8 x hx
theorem IntB.pos {n : Nat} {c : List Nat} (h : IntB n c) : 0 < c.length := by
  rcases h with ⟨_, h2, _⟩ | ⟨m, _, _, rfl⟩
  · exact List.length_pos_iff.2 h2
  · simp
theorem IntB.len {n k : Nat} {c : List Nat} (h : IntB n c) (hn : n < 256 ^ k) : c.length ≤ k + 1 := by
  rcases h with ⟨h1, _, _⟩ | ⟨m, h1, _, rfl⟩
  · have := bnum_len h1 hn; omega
  · have := bnum_len h1 hn; simp; omega
theorem IntB.val {n : Nat} {c : List Nat} (h : IntB n c) : bval c = n := by
  rcases h with ⟨h1, _, _⟩ | ⟨m, h1, _, rfl⟩
  · exact h1.vl
  · rw [bval_cons, h1.vl]; omega

/-- Whether bytes are an integer's content. -/
def intOK (c : List Nat) : Bool := 0 < c.length && at0 c 0 < 128 && (at0 c 0 != 0 || c.length == 1 || 128 ≤ at0 c 1)
theorem intOK_of {n : Nat} {c : List Nat} (h : IntB n c) : intOK c = true := by
  rcases h with ⟨h1, h2, h3⟩ | ⟨m, h1, h2, rfl⟩
  · have hp : 0 < c.length := List.length_pos_iff.2 h2
    have := h1.cn hp
    simp [intOK, hp, h3, this]
  · rcases h2 with rfl | h2
    · rfl
    · have e : at0 (0 :: m) 1 = at0 m 0 := rfl
      have e0 : at0 (0 :: m) 0 = 0 := rfl
      simp [intOK, e, e0, h2]
/-- An integer's error. -/
def intE (c : List Nat) : Int := if intOK c then (if bval c < 2 ^ 4096 then 0 else 3) else 73

/-- A whole item. -/
def ItemB (t : Nat) (c b : List Nat) : Prop := ∃ l, LenB c.length l ∧ b = t :: (l ++ c)
theorem ItemB.one {t : Nat} {c b b' : List Nat} (h : ItemB t c b) (g : ItemB t c b') : b = b' := by
  obtain ⟨l, h1, rfl⟩ := h
  obtain ⟨l', g1, rfl⟩ := g
  rw [h1.one g1]
theorem ItemB.ex (t : Nat) (c : List Nat) (h : c.length < 4294967296) : ∃ b, ItemB t c b := by
  obtain ⟨l, hl⟩ := LenB.ex _ h
  exact ⟨_, l, hl, rfl⟩
theorem ItemB.b8 {t : Nat} {c b : List Nat} (h : ItemB t c b) (ht : t < 256) (h8 : B8 c) : B8 b := by
  obtain ⟨l, h1, rfl⟩ := h
  intro x hx
  rcases List.mem_cons.1 hx with rfl | hx
  · exact ht
  · exact b8_app h1.b8 h8 x hx
theorem ItemB.of {t : Nat} {c b post : List Nat} (h : ItemB t c b) : item0 (b ++ post) = (0, t, b.length - c.length, b.length) ∧ (b ++ post).take b.length = b ∧ b.drop (b.length - c.length) = c ∧ c.length + 2 ≤ b.length := by
  obtain ⟨l, h1, rfl⟩ := h
  have hl := h1.len
  refine ⟨?_, List.take_left' rfl, ?_, ?_⟩
  · rw [List.cons_append, List.append_assoc, item0_of h1 rfl]
    simp only [List.length_cons, List.length_append, Prod.mk.injEq, true_and]
    omega
  · have e : (t :: (l ++ c)).length - c.length = l.length + 1 := by simp; omega
    rw [e]
    simp
  · simp; omega
theorem ItemB.ok {b : List Nat} {t f o : Nat} (h8 : B8 b) (h : item0 b = (0, t, f, o)) : ∃ c x post, b = x ++ post ∧ ItemB t c x ∧ o = x.length ∧ f = x.length - c.length ∧ (b.take o).drop f = c ∧ b.drop o = post := by
  obtain ⟨l, c, post, rfl, hl, rfl, rfl⟩ := item0_ok h8 h
  have e : t :: (l ++ (c ++ post)) = (t :: (l ++ c)) ++ post := by simp
  have e2 : 1 + l.length + c.length = (t :: (l ++ c)).length := by simp; omega
  refine ⟨c, t :: (l ++ c), post, e, ⟨l, hl, rfl⟩, e2, ?_, ?_, ?_⟩
  · simp; omega
  · rw [e, e2, List.take_left']
    · rw [Nat.add_comm]; simp
    · rfl
  · rw [e, e2, List.drop_left' rfl]

/-- A key's bytes. -/
def KeyB (n e : Nat) (b : List Nat) : Prop := ∃ cn ce xn xe, IntB n cn ∧ IntB e ce ∧ ItemB 2 cn xn ∧ ItemB 2 ce xe ∧ ItemB 48 (xn ++ xe) b
theorem KeyB.one {n e : Nat} {b b' : List Nat} (h : KeyB n e b) (g : KeyB n e b') : b = b' := by
  obtain ⟨cn, ce, xn, xe, h1, h2, h3, h4, h5⟩ := h
  obtain ⟨cn', ce', xn', xe', g1, g2, g3, g4, g5⟩ := g
  obtain rfl := h1.one g1
  obtain rfl := h2.one g2
  obtain rfl := h3.one g3
  obtain rfl := h4.one g4
  exact h5.one g5

/-- An integer in an item at the beginning, and what stands behind it. -/
def int0 (c : List Nat) : Int × Nat × List Nat :=
  let i := item0 c
  if i.1 ≠ 0 then (i.1, 0, [])
  else if i.2.1 ≠ 2 then (71, 0, [])
  else if intE ((c.take i.2.2.2).drop i.2.2.1) ≠ 0 then (intE ((c.take i.2.2.2).drop i.2.2.1), 0, [])
  else (0, bval ((c.take i.2.2.2).drop i.2.2.1), c.drop i.2.2.2)
/-- What a key's bytes tell. -/
def dec0 (b : List Nat) : Int × Nat × Nat :=
  let i := item0 b
  if i.1 ≠ 0 then (i.1, 0, 0)
  else if i.2.1 ≠ 48 then (71, 0, 0)
  else if i.2.2.2 < b.length then (74, 0, 0)
  else
    let p := int0 (b.drop i.2.2.1)
    if p.1 ≠ 0 then (p.1, 0, 0)
    else
      let q := int0 p.2.2
      if q.1 ≠ 0 then (q.1, 0, 0)
      else if q.2.2 ≠ [] then (74, 0, 0)
      else (0, p.2.1, q.2.1)
theorem intE_of {n : Nat} {c : List Nat} (h : IntB n c) (hn : n < 2 ^ 4096) : intE c = 0 := by
  rw [intE, intOK_of h, if_pos rfl, h.val, if_pos hn]
theorem int0_of {n : Nat} {c x post : List Nat} (h : IntB n c) (hn : n < 2 ^ 4096) (g : ItemB 2 c x) : int0 (x ++ post) = (0, n, post) := by
  obtain ⟨g1, g2, g3, g4⟩ := g.of (post := post)
  have e : (((x ++ post).take x.length).drop (x.length - c.length)) = c := by rw [g2, g3]
  simp only [int0, g1, e, intE_of h hn, h.val, ne_eq, not_true_eq_false, if_false]
  rw [List.drop_left' rfl]
theorem dec0_of {n e : Nat} {b : List Nat} (h : KeyB n e b) (hn : n < 2 ^ 4096) (he : e < 2 ^ 4096) : dec0 b = (0, n, e) := by
  obtain ⟨cn, ce, xn, xe, h1, h2, h3, h4, h5⟩ := h
  obtain ⟨g1, g2, g3, g4⟩ := h5.of (post := [])
  rw [List.append_nil] at g1
  have i1 := int0_of (post := xe) h1 hn h3
  have i2 := int0_of (post := []) h2 he h4
  rw [List.append_nil] at i2
  simp only [dec0, g1, g3, i1, i2, ne_eq, not_true_eq_false, if_false, Nat.lt_irrefl]
set_option exponentiation.threshold 10000 in
theorem key_lim : (2 : Nat) ^ 4096 = 256 ^ 512 := by decide
theorem KeyB.ex (n e : Nat) (hn : n < 2 ^ 4096) (he : e < 2 ^ 4096) : ∃ b, KeyB n e b ∧ b.length ≤ 1046 := by
  have e1 := key_lim
  obtain ⟨cn, hcn⟩ := IntB.ex n
  obtain ⟨ce, hce⟩ := IntB.ex e
  have l1 := hcn.len (k := 512) (e1 ▸ hn)
  have l2 := hce.len (k := 512) (e1 ▸ he)
  obtain ⟨xn, hxn⟩ := ItemB.ex 2 cn (by omega)
  obtain ⟨xe, hxe⟩ := ItemB.ex 2 ce (by omega)
  have len2 : ∀ {t : Nat} {c x : List Nat} {j : Nat}, ItemB t c x → c.length < 256 ^ j → j ≤ 2 → x.length ≤ c.length + 2 + j := by
    rintro t c x j ⟨l, hl, rfl⟩ hc hj
    rcases hl with ⟨_, rfl⟩ | ⟨_, m, hm, _, rfl⟩
    · simp <;> omega
    · have := bnum_len hm hc
      simp; omega
  have l3 := len2 (j := 2) hxn (by omega) (by omega)
  have l4 := len2 (j := 2) hxe (by omega) (by omega)
  obtain ⟨b, hb⟩ := ItemB.ex 48 (xn ++ xe) (by rw [List.length_append]; omega)
  have l5 := len2 (j := 2) hb (by rw [List.length_append]; omega) (by omega)
  rw [List.length_append] at l5
  exact ⟨b, ⟨cn, ce, xn, xe, hcn, hce, hxn, hxe, hb⟩, by omega⟩

/-! Where an item lies; what an error tells besides. -/
theorem item0_err {b : List Nat} (h : (item0 b).1 ≠ 0) : (item0 b = (70, 0, 0, 0) ∨ item0 b = (72, 0, 0, 0)) := by
  match b, h with
  | [], _ => exact .inl rfl
  | [_], _ => exact .inl rfl
  | t :: n :: r, h =>
    rw [item0] at h ⊢
    split
    · exact .inr rfl
    · split
      · split
        · exact .inl rfl
        · split
          · exact .inr rfl
          · split
            · exact .inl rfl
            · rename_i h1 h2 h3 h4 h5
              rw [if_neg h1, if_pos h2, if_neg h3, if_neg h4, if_neg h5] at h
              exact absurd rfl h
      · split
        · exact .inl rfl
        · rename_i h1 h2 h3
          rw [if_neg h1, if_neg h2, if_neg h3] at h
          exact absurd rfl h
theorem item0_cases (b : List Nat) : (∃ t f o, item0 b = (0, t, f, o)) ∨ item0 b = (70, 0, 0, 0) ∨ item0 b = (72, 0, 0, 0) := by
  by_cases h : (item0 b).1 = 0
  · rcases hi : item0 b with ⟨e, t, f, o⟩
    rw [hi] at h
    have h : e = 0 := h
    subst h
    exact .inl ⟨t, f, o, rfl⟩
  · exact .inr (item0_err h)
/-- Where an item lies. -/
theorem item0_lies {b : List Nat} {t f o : Nat} (h8 : B8 b) (h : item0 b = (0, t, f, o)) :
    2 ≤ f ∧ f ≤ 6 ∧ f ≤ o ∧ o ≤ b.length ∧ at0 b 0 = t ∧ (∀ post, item0 (b ++ post) = (0, t, f, o)) ∧ item0 (b.take o) = (0, t, f, o) ∧ item0 (b.take (o - 1)) = (70, 0, 0, 0) := by
  obtain ⟨l, c, post, rfl, hl, rfl, rfl⟩ := item0_ok h8 h
  have h1 := hl.len
  have e2 : 1 + l.length + c.length = (t :: (l ++ c)).length := by simp; omega
  have e : t :: (l ++ (c ++ post)) = (t :: (l ++ c)) ++ post := by simp
  refine ⟨by omega, by omega, by omega, ?_, rfl, fun q => ?_, ?_, ?_⟩
  · simp; omega
  · have : t :: (l ++ (c ++ post)) ++ q = t :: (l ++ (c ++ (post ++ q))) := by simp
    rw [this, item0_of hl rfl]
  · rw [e, e2, List.take_left' rfl]
    have := item0_of (t := t) (post := []) hl rfl
    rw [List.append_nil] at this
    rw [this, e2]
  · rw [e, List.take_append_of_le_length (by rw [← e2]; omega)]
    exact item0_cut hl rfl _ (by rw [← e2]; omega)
/-- The item at a place. -/
def itemA (b : List Nat) (a : Nat) : Int × Nat × Nat × Nat :=
  let i := item0 (b.drop a)
  if i.1 ≠ 0 then i else (0, i.2.1, a + i.2.2.1, a + i.2.2.2)
theorem itemA_lies {b : List Nat} {a t f o : Nat} (h8 : B8 b) (ha : a ≤ b.length) (h : itemA b a = (0, t, f, o)) :
    a + 2 ≤ f ∧ f ≤ a + 6 ∧ f ≤ o ∧ o ≤ b.length ∧ at0 b a = t ∧ (∀ post, itemA (b ++ post) a = (0, t, f, o)) ∧ itemA ((b.take o).drop a) 0 = (0, t, f - a, o - a) ∧ itemA (b.take (o - 1)) a = (70, 0, 0, 0) := by
  rcases hi : item0 (b.drop a) with ⟨e, t', f', o'⟩
  simp only [itemA, hi] at h
  by_cases he : e = 0
  · subst he
    rw [if_neg (by simp)] at h
    simp only [Prod.mk.injEq, true_and] at h
    obtain ⟨rfl, rfl, rfl⟩ := h
    obtain ⟨h1, h2, h3, h4, h5, h6, h7, h9⟩ := item0_lies (h8.drop _) hi
    rw [List.length_drop] at h4
    refine ⟨by omega, by omega, by omega, by omega, ?_, fun q => ?_, ?_, ?_⟩
    · rw [← h5, at0_drop]; rfl
    · simp only [itemA]
      rw [List.drop_append_of_le_length ha, h6 q]
      simp
    · have e1 : (b.take (a + o')).drop a = (b.drop a).take o' := by rw [List.drop_take]; congr 1; omega
      simp only [itemA, List.drop_zero]
      rw [e1, h7]
      simp
    · have e1 : (b.take (a + o' - 1)).drop a = (b.drop a).take (o' - 1) := by rw [List.drop_take]; congr 1; omega
      simp only [itemA]
      rw [e1, h9]
      simp
  · rw [if_pos he] at h
    simp only [Prod.mk.injEq] at h
    exact absurd h.1 he
theorem itemA_cases (b : List Nat) (a : Nat) : (∃ t f o, itemA b a = (0, t, f, o)) ∨ itemA b a = (70, 0, 0, 0) ∨ itemA b a = (72, 0, 0, 0) := by
  rcases item0_cases (b.drop a) with ⟨t, f, o, h⟩ | h | h <;> simp [itemA, h]
/-- The integer at a place, and where it ends. -/
def intA (c : List Nat) (a : Nat) : Int × Nat × Nat :=
  let i := itemA c a
  if i.1 ≠ 0 then (i.1, 0, 0)
  else if i.2.1 ≠ 2 then (71, 0, 0)
  else if intE ((c.take i.2.2.2).drop i.2.2.1) ≠ 0 then (intE ((c.take i.2.2.2).drop i.2.2.1), 0, 0)
  else (0, bval ((c.take i.2.2.2).drop i.2.2.1), i.2.2.2)
theorem int0_at (c : List Nat) (a : Nat) : int0 (c.drop a) = ((intA c a).1, (intA c a).2.1, if (intA c a).1 = 0 then c.drop (intA c a).2.2 else []) := by
  rcases item0_cases (c.drop a) with ⟨t, f, o, h⟩ | h | h
  · have e1 : (c.take (a + o)).drop (a + f) = ((c.drop a).take o).drop f := by
      rw [List.drop_take, List.drop_take, List.drop_drop]; congr 1; omega
    simp only [int0, intA, itemA, h, ne_eq, not_true_eq_false, if_false, e1]
    by_cases h2 : t = 2
    · subst h2
      simp only [not_true_eq_false, if_false]
      by_cases h3 : intE (((c.drop a).take o).drop f) = 0
      · simp only [h3, not_true_eq_false, if_false, if_true, List.drop_drop]
      · simp only [h3, not_false_eq_true, if_true, if_false]
    · simp only [h2, not_false_eq_true, if_true]
      rfl
  · simp only [int0, intA, itemA, h]; rfl
  · simp only [int0, intA, itemA, h]; rfl

/-! A length alone; the item at any place; what the program's and the reference's calls tell. -/
/-- A length at the beginning: what is wrong, the length, how many bytes it takes. -/
def len0 : List Nat → Int × Nat × Nat
  | [] => (70, 0, 0)
  | n :: r =>
    if n < 128 then (0, n, 1)
    else if n = 128 ∨ 132 < n then (72, 0, 0)
    else if r.length < n - 128 then (70, 0, 0)
    else if bval (r.take (n - 128)) < 128 ∨ at0 r 0 = 0 then (72, 0, 0)
    else (0, bval (r.take (n - 128)), 1 + (n - 128))
theorem item0_len (t : Nat) (r : List Nat) (hr : 0 < r.length) :
    item0 (t :: r) = if (len0 r).1 ≠ 0 then ((len0 r).1, 0, 0, 0) else if r.length - (len0 r).2.2 < (len0 r).2.1 then (70, 0, 0, 0) else (0, t, 1 + (len0 r).2.2, 1 + (len0 r).2.2 + (len0 r).2.1) := by
  match r, hr with
  | n :: r, _ =>
    rw [item0, len0]
    by_cases h0 : n < 128
    · rw [if_neg (by omega), if_neg (by omega)]
      simp only [if_pos h0, List.length_cons, Nat.add_sub_cancel, ne_eq, not_true_eq_false, if_false, Nat.reduceAdd]
    · by_cases h1 : n = 128 ∨ 132 < n
      · rw [if_pos h1]; simp [h0, h1]
      · rw [if_neg h1, if_pos (by omega)]
        simp only [if_neg h0, if_neg h1]
        by_cases h2 : r.length < n - 128
        · simp [h2]
        · simp only [if_neg h2]
          by_cases h3 : bval (r.take (n - 128)) < 128 ∨ at0 r 0 = 0
          · simp [h3]
          · simp only [if_neg h3, List.length_cons, ne_eq, not_true_eq_false, if_false]
            rw [show r.length + 1 - (1 + (n - 128)) = r.length - (n - 128) by omega, show 1 + (1 + (n - 128)) = 2 + (n - 128) by omega]
theorem len0_cases (r : List Nat) : (∃ n u, len0 r = (0, n, u)) ∨ len0 r = (70, 0, 0) ∨ len0 r = (72, 0, 0) := by
  match r with
  | [] => exact .inr (.inl rfl)
  | n :: r =>
    rw [len0]
    split
    · exact .inl ⟨_, _, rfl⟩
    · split
      · exact .inr (.inr rfl)
      · split
        · exact .inr (.inl rfl)
        · split
          · exact .inr (.inr rfl)
          · exact .inl ⟨_, _, rfl⟩
theorem len0_lt {r : List Nat} {n u : Nat} (h8 : B8 r) (h : len0 r = (0, n, u)) : n < 4294967296 ∧ u ≤ r.length ∧ 1 ≤ u ∧ u ≤ 5 := by
  match r, h8, h with
  | [], _, h => simp [len0] at h
  | x :: r, h8, h =>
    rw [len0] at h
    split at h
    · simp only [Prod.mk.injEq, true_and] at h
      obtain ⟨rfl, rfl⟩ := h
      simp; omega
    · split at h
      · simp at h
      · split at h
        · simp at h
        · split at h
          · simp at h
          · simp only [Prod.mk.injEq, true_and] at h
            obtain ⟨rfl, rfl⟩ := h
            have h1 := bval_lt ((b8_tail h8).take (x - 128))
            have h2 : (256 : Nat) ^ (r.take (x - 128)).length ≤ 256 ^ 4 := Nat.pow_le_pow_right (by decide) (by rw [List.length_take]; omega)
            have h3 : (256 : Nat) ^ 4 = 4294967296 := by decide
            simp; omega
/-- The item at any place. -/
def itemI (b : List Nat) (at' : Int) : Int × Nat × Nat × Nat := if at' < 0 ∨ (b.length : Int) < at' then (2, 0, 0, 0) else itemA b at'.toNat
theorem itemI_in {b : List Nat} {a : Nat} (h : a ≤ b.length) : itemI b (a : Nat) = itemA b a := by
  rw [itemI, if_neg (by omega)]; rfl
theorem itemA_len {b : List Nat} {a : Nat} (h : a + 2 ≤ b.length) :
    itemA b a = if (len0 (b.drop (a + 1))).1 ≠ 0 then ((len0 (b.drop (a + 1))).1, 0, 0, 0) else if b.length - (a + 1 + (len0 (b.drop (a + 1))).2.2) < (len0 (b.drop (a + 1))).2.1 then (70, 0, 0, 0)
      else (0, at0 b a, a + 1 + (len0 (b.drop (a + 1))).2.2, a + 1 + (len0 (b.drop (a + 1))).2.2 + (len0 (b.drop (a + 1))).2.1) := by
  have e1 : b.drop a = at0 b a :: b.drop (a + 1) := by
    rw [List.drop_eq_getElem_cons (by omega), at0_getElem (by omega)]
  have e2 : (b.drop (a + 1)).length = b.length - (a + 1) := by rw [List.length_drop]
  rw [itemA, e1, item0_len _ _ (by omega), e2, show b.length - (a + 1) - (len0 (b.drop (a + 1))).2.2 = b.length - (a + 1 + (len0 (b.drop (a + 1))).2.2) by omega]
  rcases len0_cases (b.drop (a + 1)) with ⟨n, u, h⟩ | h | h
  · simp only [h, ne_eq, not_true_eq_false, if_false]
    split
    · simp
    · simp only [not_true_eq_false, if_false]
      rw [show a + (1 + u) = a + 1 + u by omega, show a + (1 + u + n) = a + 1 + u + n by omega]
  · simp [h]
  · simp [h]
theorem itemA_short {b : List Nat} {a : Nat} (h : b.length < a + 2) : itemA b a = (70, 0, 0, 0) := by
  have hl : (b.drop a).length < 2 := by rw [List.length_drop]; omega
  rw [itemA]
  match b.drop a, hl with
  | [], _ => simp [item0]
  | [_], _ => simp [item0]
  | _ :: _ :: _, h => simp at h; omega
end Go.Proofs.YtaookoejdnkkoaaGreatDoor
