import Derived.Test.YtdaaapingaebkaaFdA
namespace Go.Proofs.Ytdaaapingaebkaa
open Go.RowKit

/-! fields: what is found lies side by side. -/
structure FOk (l : List Nat) (i : Nat) (f : Fd) : Prop where
  lt : f.a < f.b
  le : f.b ≤ i
  col : at0 l (f.b - 1) = 58
  knd : kindN ((l.drop f.a).take (f.b - 1 - f.a)) = f.k
  k0 : f.k ≠ 0
  beg : f.a = 0 ∨ at0 l (f.a - 1) = 10
structure WInv (l : List Nat) (i : Nat) (fs : List Fd) : Prop where
  all : ∀ f ∈ fs, FOk l i f
  pair : fs.Pairwise fun f g => f.b ≤ g.a ∧ f.k ≠ g.k ∧ f.k ≠ 7
  head : ∀ f r, fs = f :: r → f.a = 0
  le : i ≤ l.length
  line : i = 0 ∨ at0 l (i - 1) = 10 ∨ i = l.length
  first : fs = [] → i = 0
theorem FOk.mono {l : List Nat} {i j : Nat} {f : Fd} (h : FOk l i f) (hij : i ≤ j) : FOk l j f := ⟨h.lt, Nat.le_trans h.le hij, h.col, h.knd, h.k0, h.beg⟩
theorem line_next {l : List Nat} {i : Nat} (h : i < l.length) : i < i + behL (l.drop i) ∧ i + behL (l.drop i) ≤ l.length ∧ (at0 l (i + behL (l.drop i) - 1) = 10 ∨ i + behL (l.drop i) = l.length) := by
  have h1 : l.drop i ≠ [] := fun e => by have := congrArg List.length e; simp at this; omega
  have h2 := behL_pos h1
  have h3 := behL_le (l.drop i)
  rw [List.length_drop] at h3
  refine ⟨by omega, by omega, ?_⟩
  by_cases he : i + behL (l.drop i) = l.length
  · exact .inr he
  · left
    have h4 := behL_end (l := l.drop i) (by rw [List.length_drop]; omega)
    rw [at0_drop] at h4
    rwa [show i + behL (l.drop i) - 1 = i + (behL (l.drop i) - 1) by omega]
theorem begL_ok {l : List Nat} {i : Nat} {f : Fd} (h : begL l i = some f) (hi : i < l.length) (hl : i = 0 ∨ at0 l (i - 1) = 10 ∨ i = l.length) : FOk l (i + behL (l.drop i)) f ∧ f.a = i ∧ f.e = 0 := by
  unfold begL at h
  cases hc : colL (l.drop i) with
  | none => rw [hc] at h; cases h
  | some m =>
    rw [hc] at h
    simp only at h
    obtain ⟨g1, g2, g3⟩ := colL_get hc
    by_cases hk : kindN ((l.drop i).take m) = 0
    · rw [if_pos hk] at h; cases h
    · rw [if_neg hk] at h
      obtain rfl := Option.some.inj h
      refine ⟨⟨by simp only; omega, by simp only; omega, ?_, ?_, hk, ?_⟩, rfl, rfl⟩
      · show at0 l (i + m + 1 - 1) = 58
        rw [at0_drop] at g2
        exact g2
      · show kindN ((l.drop i).take (i + m + 1 - 1 - i)) = _
        rw [show i + m + 1 - 1 - i = m by omega]
      · rcases hl with h | h | h
        · exact .inl h
        · exact .inr h
        · omega
theorem hasK_no {k : Nat} {fs : List Fd} (h : hasK k fs = false) : ∀ f ∈ fs, f.k ≠ k := by
  intro f hf e
  have : hasK k fs = true := by
    unfold hasK
    rw [List.any_eq_true]
    exact ⟨f, hf, decide_eq_true e⟩
  rw [h] at this
  cases this
theorem ordK_ok {fs : List Fd} {k : Nat} (h : ordK fs k = 0) : hasK k fs = false ∧ hasK 7 fs = false ∧ (k = 1 → fs = []) := by
  unfold ordK at h
  by_cases h1 : hasK k fs = true
  · rw [if_pos h1] at h; cases h
  · rw [if_neg h1] at h
    by_cases h2 : (hasK 7 fs || (decide (k = 1) && !fs.isEmpty)) = true
    · rw [if_pos h2] at h; cases h
    · have h3 : (hasK 7 fs || (decide (k = 1) && !fs.isEmpty)) = false := by simpa using h2
      rw [Bool.or_eq_false_iff, Bool.and_eq_false_iff] at h3
      refine ⟨by simpa using h1, h3.1, fun e => ?_⟩
      rcases h3.2 with h4 | h4
      · exact absurd e (of_decide_eq_false h4)
      · cases fs with
        | nil => rfl
        | cons a b => cases h4
theorem WInv.push {l : List Nat} {i : Nat} {fs : List Fd} {f : Fd} (h : WInv l i fs) (hi : i < l.length) (hb : begL l i = some f) (ho : ordK fs f.k = 0) : WInv l (i + behL (l.drop i)) (fs ++ [f]) := by
  obtain ⟨l1, l2, l3⟩ := line_next hi
  obtain ⟨f1, f2, _⟩ := begL_ok hb hi h.line
  obtain ⟨o1, o2, _⟩ := ordK_ok ho
  refine ⟨fun g hg => ?_, ?_, ?_, l2, .inr l3, fun e => by simp at e⟩
  · rcases List.mem_append.1 hg with h1 | h1
    · exact (h.all g h1).mono (by omega)
    · obtain rfl := List.mem_singleton.1 h1
      exact f1
  · rw [List.pairwise_append]
    refine ⟨h.pair, by simp, fun g hg x hx => ?_⟩
    obtain rfl := List.mem_singleton.1 hx
    exact ⟨by rw [f2]; exact (h.all g hg).le, hasK_no o1 g hg, hasK_no o2 g hg⟩
  · intro g r e
    cases hfs : fs with
    | nil =>
      rw [hfs] at e
      obtain ⟨rfl, -⟩ := List.cons.inj e
      rw [f2]
      exact h.first hfs
    | cons x y =>
      rw [hfs] at e
      obtain ⟨rfl, -⟩ := List.cons.inj e
      exact h.head _ _ hfs
theorem walk_inv {l : List Nat} (h0 : goesB (at0 l 0) = false) : ∀ (n i : Nat) (fs gs : List Fd), l.length - i ≤ n → WInv l i fs → walk l i fs = .ok gs → WInv l l.length gs ∧ hasK 2 gs = true
  | n, i, fs, gs, hn, h, hw => by
    by_cases hi : i < l.length
    · obtain ⟨l1, l2, l3⟩ := line_next hi
      cases n with
      | zero => omega
      | succ n =>
        cases hg : goesB (at0 l i) with
        | true =>
          rw [walk_goes hi hg] at hw
          refine walk_inv h0 n _ fs gs (by omega) ⟨fun f hf => (h.all f hf).mono (by omega), h.pair, h.head, l2, .inr l3, fun e => ?_⟩ hw
          have := h.first e
          subst this
          rw [h0] at hg
          cases hg
        | false =>
          cases hb : begL l i with
          | none => rw [walk_none hi hg hb] at hw; cases hw
          | some f =>
            rw [walk_some hi hg hb] at hw
            by_cases ho : ordK fs f.k = 0
            · rw [if_pos ho] at hw
              exact walk_inv h0 n _ _ gs (by omega) (h.push hi hb ho) hw
            · rw [if_neg ho] at hw; cases hw
    · rw [walk_end (by omega)] at hw
      by_cases h2 : hasK 2 fs = true
      · rw [if_pos h2] at hw
        obtain rfl := Res.ok.inj hw
        have : i = l.length := by have := h.le; omega
        subst this
        exact ⟨h, h2⟩
      · rw [if_neg h2] at hw; cases hw
/-- Fields that lie side by side. -/
structure Tile (l : List Nat) (G : List Fd) : Prop where
  pos : 0 < G.length
  at_ : ∀ i (hi : i < G.length), (G[i]).a < (G[i]).b ∧ (G[i]).b ≤ (G[i]).e ∧ (G[i]).e ≤ l.length ∧ at0 l ((G[i]).b - 1) = 58 ∧ kindN ((l.drop (G[i]).a).take ((G[i]).b - 1 - (G[i]).a)) = (G[i]).k ∧ (G[i]).k ≠ 0
  zero : ∀ _h : 0 < G.length, (G[0]).a = 0
  next : ∀ i (hi : i + 1 < G.length), (G[i + 1]).a = (G[i]).e ∧ at0 l ((G[i + 1]).a - 1) = 10
  apart : ∀ i j (hi : i < G.length) (hj : j < i), (G[j]).k ≠ (G[i]).k ∧ (G[j]).k ≠ 7
  last : ∀ _h : 0 < G.length, (G[G.length - 1]).e = l.length
  has : hasK 2 G = true
theorem ends_at (n : Nat) : ∀ (fs : List Fd) (i : Nat) (hi : i < fs.length), (ends n fs)[i]? = some ⟨(fs[i]).k, (fs[i]).a, (fs[i]).b, hA n (fs.drop (i + 1))⟩
  | [], i, hi => by cases hi
  | f :: r, 0, _ => rfl
  | f :: r, i + 1, hi => by
    rw [ends, List.getElem?_cons_succ]
    exact ends_at n r i (by simpa using hi)
theorem ends_get (n : Nat) (fs : List Fd) (i : Nat) (hi : i < fs.length) (h2 : i < (ends n fs).length) : (ends n fs)[i] = ⟨(fs[i]).k, (fs[i]).a, (fs[i]).b, hA n (fs.drop (i + 1))⟩ := by
  have := ends_at n fs i hi
  rw [List.getElem?_eq_getElem h2] at this
  exact Option.some.inj this
theorem WInv.tile {l : List Nat} {fs : List Fd} (h : WInv l l.length fs) (h2 : hasK 2 fs = true) : Tile l (ends l.length fs) := by
  have hlen := ends_len l.length fs
  have hpos : 0 < fs.length := by
    cases fs with
    | nil => cases h2
    | cons f r => simp
  have hpw := List.pairwise_iff_getElem.1 h.pair
  refine ⟨by omega, fun i hi => ?_, fun h0 => ?_, fun i hi => ?_, fun i j hi hj => ?_, fun h0 => ?_, by rw [hasK_ends]; exact h2⟩
  · have hi' : i < fs.length := by omega
    rw [ends_get _ _ _ hi' hi]
    have hf := h.all _ (List.getElem_mem hi')
    refine ⟨hf.lt, ?_, ?_, hf.col, hf.knd, hf.k0⟩
    · by_cases hn : i + 1 < fs.length
      · rw [List.drop_eq_getElem_cons hn]
        exact (hpw i (i + 1) hi' hn (by omega)).1
      · rw [List.drop_eq_nil_of_le (by omega)]
        exact hf.le
    · by_cases hn : i + 1 < fs.length
      · rw [List.drop_eq_getElem_cons hn]
        have hg := h.all _ (List.getElem_mem hn)
        have := hg.lt
        have := hg.le
        show (fs[i + 1]).a ≤ _
        omega
      · rw [List.drop_eq_nil_of_le (by omega)]
        exact Nat.le_refl _
  · rw [ends_get _ _ _ hpos h0]
    obtain ⟨f, r, hfs⟩ := List.exists_cons_of_length_pos hpos
    have e : fs[0]? = some f := by rw [hfs]; rfl
    rw [List.getElem?_eq_getElem hpos] at e
    show (fs[0]).a = 0
    rw [Option.some.inj e]
    exact h.head f r hfs
  · have hi' : i < fs.length := by omega
    have hn : i + 1 < fs.length := by omega
    rw [ends_get _ _ _ hi' (by omega), ends_get _ _ _ hn (by omega), List.drop_eq_getElem_cons hn]
    refine ⟨rfl, ?_⟩
    have hf := h.all _ (List.getElem_mem hi')
    have hg := h.all _ (List.getElem_mem hn)
    rcases hg.beg with e | e
    · have := (hpw i (i + 1) hi' hn (by omega)).1
      have := hf.lt
      omega
    · exact e
  · have hi' : i < fs.length := by omega
    have hj' : j < fs.length := by omega
    rw [ends_get _ _ _ hi' (by omega), ends_get _ _ _ hj' (by omega)]
    exact (hpw j i hj' hi' hj).2
  · have hla : (ends l.length fs).length - 1 < fs.length := by omega
    rw [ends_get _ _ _ hla (by omega), List.drop_eq_nil_of_le (by omega)]
    rfl
theorem split_tile {l : List Nat} {G : List Fd} (h : (splitR l).fin l.length = .ok G) : Tile l G ∧ l.length ≤ 65536 ∧ badB l = none := by
  unfold splitR at h
  by_cases hb : 65536 < l.length
  · rw [if_pos hb] at h; cases h
  · rw [if_neg hb] at h
    cases hx : badB l with
    | some i => rw [hx] at h; cases h
    | none =>
      rw [hx] at h
      simp only at h
      by_cases hg : (l.isEmpty || goesB (at0 l 0)) = true
      · rw [if_pos hg] at h; cases h
      · rw [if_neg hg] at h
        have h0 : goesB (at0 l 0) = false := by
          have : (l.isEmpty || goesB (at0 l 0)) = false := by simpa using hg
          rw [Bool.or_eq_false_iff] at this
          exact this.2
        cases hw : walk l 0 [] with
        | bad i c => rw [hw] at h; cases h
        | ok fs =>
          rw [hw] at h
          obtain rfl := Res.ok.inj h
          obtain ⟨h1, h2⟩ := walk_inv h0 l.length 0 [] fs (by omega) ⟨fun f hf => (by cases hf), .nil, fun f r e => (by cases e), Nat.zero_le _, .inl rfl, fun _ => rfl⟩ hw
          exact ⟨h1.tile h2, by omega, rfl⟩
theorem Tile.mem {l : List Nat} {G : List Fd} (h : Tile l G) {f : Fd} (hf : f ∈ G) : f.a < f.b ∧ f.b ≤ f.e ∧ f.e ≤ l.length := by
  obtain ⟨i, hi, rfl⟩ := List.getElem_of_mem hf
  obtain ⟨a, b, c, -⟩ := h.at_ i hi
  exact ⟨a, b, c⟩
end Go.Proofs.Ytdaaapingaebkaa
