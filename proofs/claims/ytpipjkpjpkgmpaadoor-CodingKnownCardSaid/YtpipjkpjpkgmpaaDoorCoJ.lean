import Derived.Test.YtpipjkpjpkgmpaaDoorCoA
namespace Go.Proofs.YtpipjkpjpkgmpaaDoor
open Go.RowKit

def D64 (l : List Nat) : Prop := ∀ x ∈ l, x < 64
theorem D64.snoc {ds : List Nat} {d : Nat} (h : D64 ds) (hd : d < 64) : D64 (ds ++ [d]) := fun x hx => by
  rcases List.mem_append.1 hx with h1 | h1
  · exact h x h1
  · simp at h1; omega
/-- What letters' worths tell: the bytes, and the bits that are left. -/
def dec : List Nat → List Nat × Nat
  | [] => ([], 0)
  | [a] => ([], a)
  | [a, b] => ([a * 4 + b / 16], b % 16)
  | [a, b, c] => ([a * 4 + b / 16, b % 16 * 16 + c / 4], c % 4)
  | a :: b :: c :: d :: t => ((a * 4 + b / 16) :: (b % 16 * 16 + c / 4) :: (c % 4 * 64 + d) :: (dec t).1, (dec t).2)
/-- The worths of bytes' letters. -/
def encW : List Nat → List Nat
  | [] => []
  | [a] => [a / 4, a % 4 * 16]
  | [a, b] => [a / 4, a % 4 * 16 + b / 16, b % 16 * 4]
  | a :: b :: c :: t => (a / 4) :: (a % 4 * 16 + b / 16) :: (b % 16 * 4 + c / 64) :: (c % 64) :: encW t
def fillN (c : List Nat) : Nat := (3 - c.length % 3) % 3
theorem encW_64 : ∀ c : List Nat, B8 c → D64 (encW c)
  | [], _ => fun x hx => by cases hx
  | [a], h => fun x hx => by
    have := h.head
    simp [encW] at hx; omega
  | [a, b], h => fun x hx => by
    have := h.head
    have := h.tail.head
    simp [encW] at hx; omega
  | a :: b :: c :: t, h => fun x hx => by
    have := h.head
    have := h.tail.head
    have := h.tail.tail.head
    simp only [encW, List.mem_cons] at hx
    rcases hx with rfl | rfl | rfl | rfl | hx
    · omega
    · omega
    · omega
    · omega
    · exact encW_64 t h.tail.tail.tail x hx
theorem b64L_enc : ∀ c : List Nat, b64L c = (encW c).map b64D ++ List.replicate (fillN c) 61
  | [] => rfl
  | [_] => rfl
  | [_, _] => rfl
  | a :: b :: c :: t => by
    have e : fillN (a :: b :: c :: t) = fillN t := by unfold fillN; simp only [List.length_cons]; omega
    rw [e]
    simp only [b64L, encW, List.map_cons, List.cons_append, b64L_enc t]
theorem dec_encW : ∀ c : List Nat, B8 c → dec (encW c) = (c, 0)
  | [], _ => rfl
  | [a], h => by
    have := h.head
    simp only [encW, dec]
    rw [show a / 4 * 4 + a % 4 * 16 / 16 = a by omega, show a % 4 * 16 % 16 = 0 by omega]
  | [a, b], h => by
    have := h.head
    have := h.tail.head
    simp only [encW, dec]
    rw [show a / 4 * 4 + (a % 4 * 16 + b / 16) / 16 = a by omega, show (a % 4 * 16 + b / 16) % 16 * 16 + b % 16 * 4 / 4 = b by omega, show b % 16 * 4 % 4 = 0 by omega]
  | a :: b :: c :: t, h => by
    have := h.head
    have := h.tail.head
    have := h.tail.tail.head
    simp only [encW, dec, dec_encW t h.tail.tail.tail]
    rw [show a / 4 * 4 + (a % 4 * 16 + b / 16) / 16 = a by omega, show (a % 4 * 16 + b / 16) % 16 * 16 + (b % 16 * 4 + c / 64) / 4 = b by omega, show (b % 16 * 4 + c / 64) % 4 * 64 + c % 64 = c by omega]
theorem dec_8 : ∀ ws : List Nat, D64 ws → B8 (dec ws).1
  | [], _ => fun x hx => by cases hx
  | [a], _ => fun x hx => by cases hx
  | [a, b], h => fun x hx => by
    have h1 := h a (by simp)
    have h2 := h b (by simp)
    simp [dec] at hx; omega
  | [a, b, c], h => fun x hx => by
    have h1 := h a (by simp)
    have h2 := h b (by simp)
    have h3 := h c (by simp)
    simp [dec] at hx; omega
  | a :: b :: c :: d :: t, h => fun x hx => by
    have h1 := h a (by simp)
    have h2 := h b (by simp)
    have h3 := h c (by simp)
    have h4 := h d (by simp)
    simp only [dec, List.mem_cons] at hx
    rcases hx with rfl | rfl | rfl | hx
    · omega
    · omega
    · omega
    · exact dec_8 t (fun y hy => h y (by simp [hy])) x hx
theorem dec_len : ∀ ws : List Nat, (dec ws).1.length = ws.length * 6 / 8
  | [] => rfl
  | [_] => by simp [dec]
  | [_, _] => by simp [dec]
  | [_, _, _] => by simp [dec]
  | a :: b :: c :: d :: t => by simp only [dec, List.length_cons, dec_len t]; omega
/-- One letter more. -/
theorem dec_snoc : ∀ (ws : List Nat) (w : Nat), D64 ws → w < 64 →
    (ws.length % 4 = 0 ∧ (dec ws).2 = 0 ∧ dec (ws ++ [w]) = ((dec ws).1, w)) ∨
    (ws.length % 4 = 1 ∧ (dec ws).2 < 64 ∧ dec (ws ++ [w]) = ((dec ws).1 ++ [((dec ws).2 * 64 + w) / 16], ((dec ws).2 * 64 + w) % 16)) ∨
    (ws.length % 4 = 2 ∧ (dec ws).2 < 16 ∧ dec (ws ++ [w]) = ((dec ws).1 ++ [((dec ws).2 * 64 + w) / 4], ((dec ws).2 * 64 + w) % 4)) ∨
    (ws.length % 4 = 3 ∧ (dec ws).2 < 4 ∧ dec (ws ++ [w]) = ((dec ws).1 ++ [(dec ws).2 * 64 + w], 0))
  | [], w, _, _ => .inl ⟨rfl, rfl, rfl⟩
  | [a], w, h, hw => .inr (.inl ⟨rfl, h a (by simp), by
    have := h a (by simp)
    simp only [List.cons_append, List.nil_append, dec]
    rw [show (a * 64 + w) / 16 = a * 4 + w / 16 by omega, show (a * 64 + w) % 16 = w % 16 by omega]⟩)
  | [a, b], w, h, hw => .inr (.inr (.inl ⟨rfl, by simp only [dec]; omega, by
    have := h b (by simp)
    simp only [List.cons_append, List.nil_append, dec]
    rw [show (b % 16 * 64 + w) / 4 = b % 16 * 16 + w / 4 by omega, show (b % 16 * 64 + w) % 4 = w % 4 by omega]⟩))
  | [a, b, c], w, h, hw => .inr (.inr (.inr ⟨rfl, by simp only [dec]; omega, by
    simp only [List.cons_append, List.nil_append, dec]⟩))
  | a :: b :: c :: d :: t, w, h, hw => by
    have hl : (a :: b :: c :: d :: t).length % 4 = t.length % 4 := by simp only [List.length_cons]; omega
    rw [hl]
    have e1 : (dec (a :: b :: c :: d :: t)).1 = (a * 4 + b / 16) :: (b % 16 * 16 + c / 4) :: (c % 4 * 64 + d) :: (dec t).1 := rfl
    have e2 : (dec (a :: b :: c :: d :: t)).2 = (dec t).2 := rfl
    have e3 : dec (a :: b :: c :: d :: t ++ [w]) = ((a * 4 + b / 16) :: (b % 16 * 16 + c / 4) :: (c % 4 * 64 + d) :: (dec (t ++ [w])).1, (dec (t ++ [w])).2) := rfl
    rw [e1, e2, e3]
    rcases dec_snoc t w (fun y hy => h y (by simp [hy])) hw with ⟨g1, g2, g3⟩ | ⟨g1, g2, g3⟩ | ⟨g1, g2, g3⟩ | ⟨g1, g2, g3⟩
    · exact .inl ⟨g1, g2, by rw [g3]⟩
    · exact .inr (.inl ⟨g1, g2, by rw [g3]; rfl⟩)
    · exact .inr (.inr (.inl ⟨g1, g2, by rw [g3]; rfl⟩))
    · exact .inr (.inr (.inr ⟨g1, g2, by rw [g3]; rfl⟩))
/-- Letters that are whole tell their text. -/
theorem dec_text : ∀ (ws : List Nat) (f : Nat), D64 ws → f ≤ 2 → (ws.length + f) % 4 = 0 → (dec ws).2 = 0 → b64L (dec ws).1 = ws.map b64D ++ List.replicate f 61
  | [], f, _, hf, hl, _ => by
    obtain rfl : f = 0 := by simp at hl; omega
    rfl
  | [_], f, _, hf, hl, _ => by simp at hl; omega
  | [a, b], f, h, hf, hl, hb => by
    obtain rfl : f = 2 := by simp at hl; omega
    have h1 := h a (by simp)
    have h2 := h b (by simp)
    have hb : b % 16 = 0 := hb
    simp only [dec, b64L]
    rw [show (a * 4 + b / 16) / 4 = a by omega, show (a * 4 + b / 16) % 4 * 16 = b by omega]
    rfl
  | [a, b, c], f, h, hf, hl, hb => by
    obtain rfl : f = 1 := by simp at hl; omega
    have h1 := h a (by simp)
    have h2 := h b (by simp)
    have h3 := h c (by simp)
    have hb : c % 4 = 0 := hb
    simp only [dec, b64L]
    rw [show (a * 4 + b / 16) / 4 = a by omega, show (a * 4 + b / 16) % 4 * 16 + (b % 16 * 16 + c / 4) / 16 = b by omega, show (b % 16 * 16 + c / 4) % 16 * 4 = c by omega]
    rfl
  | a :: b :: c :: d :: t, f, h, hf, hl, hb => by
    have h1 := h a (by simp)
    have h2 := h b (by simp)
    have h3 := h c (by simp)
    have h4 := h d (by simp)
    have ih := dec_text t f (fun y hy => h y (by simp [hy])) hf (by simp only [List.length_cons] at hl; omega) hb
    simp only [dec, b64L, List.map_cons, List.cons_append, ih]
    rw [show (a * 4 + b / 16) / 4 = a by omega, show (a * 4 + b / 16) % 4 * 16 + (b % 16 * 16 + c / 4) / 16 = b by omega, show (b % 16 * 16 + c / 4) % 16 * 4 + (c % 4 * 64 + d) / 64 = c by omega, show (c % 4 * 64 + d) % 64 = d by omega]
theorem map64_inj : ∀ (a b : List Nat), D64 a → D64 b → a.map b64D = b.map b64D → a = b
  | [], [], _, _, _ => rfl
  | [], _ :: _, _, _, h => by simp at h
  | _ :: _, [], _, _, h => by simp at h
  | x :: a, y :: b, ha, hb, h => by
    simp only [List.map_cons, List.cons.injEq] at h
    rw [b64D_inj (ha x (by simp)) (hb y (by simp)) h.1, map64_inj a b (fun z hz => ha z (by simp [hz])) (fun z hz => hb z (by simp [hz])) h.2]
/-- A text, and what is left of it without its fills. -/
def Unf (l u : List Nat) : Prop := ∃ f, f ≤ 2 ∧ l = u ++ List.replicate f 61 ∧ (f < 2 → u.getLast? ≠ some 61)
theorem Unf.of_enc {l u : List Nat} (h : Unf l u) {c : List Nat} (hc : B8 c) (he : b64L c = l) : u = (encW c).map b64D := by
  obtain ⟨f, hf, hl, hn⟩ := h
  rw [b64L_enc] at he
  have hg : fillN c ≤ 2 := by unfold fillN; omega
  have hd : ∀ x ∈ (encW c).map b64D, x ≠ 61 := fun x hx => by
    obtain ⟨y, hy, rfl⟩ := List.mem_map.1 hx
    exact (b64D_lt (encW_64 c hc y hy)).2
  generalize (encW c).map b64D = v at *
  generalize fillN c = g at *
  have key : v ++ List.replicate g 61 = u ++ List.replicate f 61 := he.trans hl
  rcases Nat.lt_trichotomy f g with h | h | h
  · exfalso
    obtain ⟨k, rfl⟩ : ∃ k, g = k + 1 + f := ⟨g - f - 1, by omega⟩
    rw [← List.replicate_append_replicate, ← List.append_assoc] at key
    have := List.append_cancel_right key
    rw [List.replicate_succ', ← List.append_assoc] at this
    refine hn (by omega) ?_
    rw [← this]
    simp
  · subst h
    exact (List.append_cancel_right key).symm
  · exfalso
    obtain ⟨k, rfl⟩ : ∃ k, f = k + 1 + g := ⟨f - g - 1, by omega⟩
    rw [← List.replicate_append_replicate, ← List.append_assoc] at key
    have := List.append_cancel_right key
    exact hd 61 (by rw [this]; simp [List.replicate_succ]) rfl
theorem un64_len {l : List Nat} (h : l.length % 4 ≠ 0) : Un64Tells l 61 [] := .inr ⟨rfl, rfl, fun c _ he => by
  have := congrArg List.length he
  rw [b64L_len] at this
  omega⟩
theorem un64_no {l u : List Nat} (h : Unf l u) {i : Nat} (hi : i < u.length) (hn : ∀ d, d < 64 → b64D d ≠ at0 u i) : Un64Tells l 61 [] := .inr ⟨rfl, rfl, fun c hc he => by
  have e := h.of_enc hc he
  have h1 : at0 u i ∈ u := by rw [at0_getElem hi]; exact List.getElem_mem hi
  rw [e] at h1
  obtain ⟨y, hy, h2⟩ := List.mem_map.1 h1
  rw [← e] at h2
  exact hn y (encW_64 c hc y hy) h2⟩
theorem un64_high {l u : List Nat} (h : Unf l u) {i : Nat} (hi : i < u.length) (hn : 128 ≤ at0 u i) : Un64Tells l 61 [] := un64_no h hi fun d hd e => by
  have := (b64D_lt hd).1
  omega
theorem un64_bits {l u ws : List Nat} (h : Unf l u) (hd : D64 ws) (hm : ws.map b64D = u) (hb : (dec ws).2 ≠ 0) : Un64Tells l 61 [] := .inr ⟨rfl, rfl, fun c hc he => by
  have e := h.of_enc hc he
  rw [← hm] at e
  have e2 := map64_inj _ _ hd (encW_64 c hc) e
  rw [e2, dec_encW c hc] at hb
  exact hb rfl⟩
theorem un64_yes {l u ws : List Nat} (h : Unf l u) (hl : l.length % 4 = 0) (hd : D64 ws) (hm : ws.map b64D = u) (hb : (dec ws).2 = 0) : Un64Tells l 0 (dec ws).1 := .inl ⟨rfl, dec_8 ws hd, by
  obtain ⟨f, hf, he, _⟩ := h
  have hwl : ws.length = u.length := by rw [← hm]; simp
  rw [dec_text ws f hd hf (by rw [he] at hl; simpa [hwl] using hl) hb, hm, he]⟩
end Go.Proofs.YtpipjkpjpkgmpaaDoor
