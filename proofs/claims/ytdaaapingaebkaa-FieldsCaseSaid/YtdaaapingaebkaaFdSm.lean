import Derived.Test.YtdaaapingaebkaaFdT
namespace Go.Proofs.Ytdaaapingaebkaa
open Go.RowKit

/-! fields: letters in the other case. -/
theorem sm_eq {c d : Nat} (h : smA c = smA d) : (c = 10 ↔ d = 10) ∧ (c = 58 ↔ d = 58) ∧ goesB c = goesB d ∧ mayB c = mayB d := by
  unfold smA at h
  refine ⟨?_, ?_, ?_, ?_⟩
  · split at h <;> split at h <;> omega
  · split at h <;> split at h <;> omega
  · unfold goesB
    rw [Bool.eq_iff_iff]
    simp only [decide_eq_true_eq]
    split at h <;> split at h <;> omega
  · unfold mayB
    rw [Bool.eq_iff_iff]
    simp only [decide_eq_true_eq]
    split at h <;> split at h <;> omega
theorem sm_beh : ∀ {l t : List Nat}, l.map smA = t.map smA → behL l = behL t
  | [], [], _ => rfl
  | [], _ :: _, h => by simp at h
  | _ :: _, [], h => by simp at h
  | c :: l, d :: t, h => by
    obtain ⟨h1, h2⟩ := List.cons.inj h
    obtain ⟨e, -⟩ := sm_eq h1
    have := sm_beh h2
    simp only [behL, this]
    by_cases hc : c = 10
    · rw [if_pos hc, if_pos (e.1 hc)]
    · rw [if_neg hc, if_neg fun x => hc (e.2 x)]
theorem sm_col : ∀ {l t : List Nat}, l.map smA = t.map smA → colL l = colL t
  | [], [], _ => rfl
  | [], _ :: _, h => by simp at h
  | _ :: _, [], h => by simp at h
  | c :: l, d :: t, h => by
    obtain ⟨h1, h2⟩ := List.cons.inj h
    obtain ⟨e, e2, -⟩ := sm_eq h1
    have := sm_col h2
    simp only [colL, this]
    by_cases hc : c = 58
    · rw [if_pos hc, if_pos (e2.1 hc)]
    · rw [if_neg hc, if_neg fun x => hc (e2.2 x)]
      by_cases hc : c = 10
      · rw [if_pos hc, if_pos (e.1 hc)]
      · rw [if_neg hc, if_neg fun x => hc (e.2 x)]
theorem sm_drop {l t : List Nat} (h : l.map smA = t.map smA) (i : Nat) : (l.drop i).map smA = (t.drop i).map smA := by rw [List.map_drop, List.map_drop, h]
theorem sm_take {l t : List Nat} (h : l.map smA = t.map smA) (i : Nat) : (l.take i).map smA = (t.take i).map smA := by rw [List.map_take, List.map_take, h]
theorem sm_len {l t : List Nat} (h : l.map smA = t.map smA) : l.length = t.length := by simpa using congrArg List.length h
theorem sm_at {l t : List Nat} (h : l.map smA = t.map smA) (i : Nat) : smA (at0 l i) = smA (at0 t i) := by
  have hl := sm_len h
  by_cases hi : i < l.length
  · have h1 : (l.map smA)[i]? = (t.map smA)[i]? := by rw [h]
    rw [List.getElem?_map, List.getElem?_map, List.getElem?_eq_getElem hi, List.getElem?_eq_getElem (by omega)] at h1
    rw [at0_getElem hi, at0_getElem (by omega)]
    exact Option.some.inj h1
  · rw [at0_out (by omega), at0_out (by omega)]
theorem sm_beg {l t : List Nat} (h : l.map smA = t.map smA) (i : Nat) : begL l i = begL t i := by
  unfold begL
  rw [sm_col (sm_drop h i)]
  cases colL (t.drop i) with
  | none => rfl
  | some m => simp only; rw [kindN_small (sm_take (sm_drop h i) m)]
theorem sm_walk {l t : List Nat} (h : l.map smA = t.map smA) : ∀ (n i : Nat) (fs : List Fd), l.length - i ≤ n → walk l i fs = walk t i fs
  | n, i, fs, hn => by
    have hl := sm_len h
    by_cases hi : i < l.length
    · obtain ⟨l1, l2, l3⟩ := line_next hi
      obtain ⟨-, -, e, -⟩ := sm_eq (sm_at h i)
      have hb := sm_beh (sm_drop h i)
      cases n with
      | zero => omega
      | succ n =>
        cases hg : goesB (at0 l i) with
        | true =>
          have w1 := walk_goes (l := l) (fs := fs) hi hg
          have w2 := walk_goes (l := t) (i := i) (fs := fs) (by omega) (by rw [← e]; exact hg)
          rw [w1, w2, ← hb]
          exact sm_walk h n _ fs (by omega)
        | false =>
          have hg2 : goesB (at0 t i) = false := by rw [← e]; exact hg
          cases hbg : begL l i with
          | none => rw [walk_none hi hg hbg, walk_none (by omega) hg2 (by rw [← sm_beg h]; exact hbg)]
          | some f =>
            rw [walk_some hi hg hbg, walk_some (by omega) hg2 (by rw [← sm_beg h]; exact hbg), hb, sm_walk h n _ _ (by omega)]
    · rw [walk_end (by omega), walk_end (by omega), hl]
theorem sm_bad {l t : List Nat} (h : l.map smA = t.map smA) : badB l = badB t := by
  unfold badB
  induction l generalizing t with
  | nil =>
    cases t with
    | nil => rfl
    | cons d t => simp at h
  | cons c l ih =>
    cases t with
    | nil => simp at h
    | cons d t =>
      obtain ⟨h1, h2⟩ := List.cons.inj h
      obtain ⟨-, -, -, e⟩ := sm_eq h1
      rw [List.findIdx?_cons, List.findIdx?_cons, ih h2, e]
theorem sm_split {l t : List Nat} (h : l.map smA = t.map smA) : splitR l = splitR t := by
  have hl := sm_len h
  obtain ⟨-, -, e, -⟩ := sm_eq (sm_at h 0)
  unfold splitR
  rw [hl, sm_bad h, e, sm_walk h l.length 0 [] (by omega)]
  have : l.isEmpty = t.isEmpty := by
    cases l with
    | nil => cases t with
      | nil => rfl
      | cons d t => simp at hl
    | cons c l => cases t with
      | nil => simp at hl
      | cons d t => rfl
  rw [this]
def flip (c : Nat) : Nat := if 97 ≤ c ∧ c ≤ 122 then c - 32 else if 65 ≤ c ∧ c ≤ 90 then c + 32 else c
theorem flip_sm (c : Nat) : smA (flip c) = smA c := by
  unfold flip
  by_cases h1 : 97 ≤ c ∧ c ≤ 122
  · rw [if_pos h1]
    unfold smA
    rw [if_pos (by omega), if_neg (by omega)]
    omega
  · rw [if_neg h1]
    by_cases h2 : 65 ≤ c ∧ c ≤ 90
    · rw [if_pos h2]
      unfold smA
      rw [if_neg (by omega), if_pos h2]
    · rw [if_neg h2]
theorem flip_8 {c : Nat} (h : c < 256) : flip c < 256 := by unfold flip; split; omega; split <;> omega
/-- Is a place within a field's name? -/
def nmK (G : List Fd) (p : Nat) : Bool := G.any fun f => decide (f.a ≤ p ∧ p < f.b)
/-- A text with the letters of names ahead of a place turned. -/
def turnK (l : List Nat) (G : List Fd) (K : Nat) : List Nat := l.mapIdx fun p c => if nmK G p = true ∧ p < K then flip c else c
theorem turnK_len (l : List Nat) (G : List Fd) (K : Nat) : (turnK l G K).length = l.length := by simp [turnK]
theorem turnK_at {l : List Nat} {G : List Fd} {K p : Nat} (h : p < l.length) : at0 (turnK l G K) p = if nmK G p = true ∧ p < K then flip (at0 l p) else at0 l p := by
  rw [at0_getElem (by rw [turnK_len]; exact h), at0_getElem h]
  simp [turnK]
theorem at0_ext {x y : List Nat} (hl : x.length = y.length) (h : ∀ p, p < x.length → at0 x p = at0 y p) : x = y := by
  refine List.ext_getElem hl fun p h1 h2 => ?_
  have := h p h1
  rwa [at0_getElem h1, at0_getElem h2] at this
theorem turnK_0 (l : List Nat) (G : List Fd) : turnK l G 0 = l := by
  refine at0_ext (turnK_len _ _ _) fun p hp => ?_
  rw [turnK_len] at hp
  rw [turnK_at hp, if_neg (by omega)]
theorem turnK_skip {l : List Nat} {G : List Fd} {K K' : Nat} (h : K ≤ K') (hn : ∀ p, K ≤ p → p < K' → nmK G p = false) : turnK l G K' = turnK l G K := by
  refine at0_ext (by rw [turnK_len, turnK_len]) fun p hp => ?_
  rw [turnK_len] at hp
  rw [turnK_at hp, turnK_at hp]
  by_cases hk : p < K
  · by_cases hm : nmK G p = true
    · rw [if_pos ⟨hm, by omega⟩, if_pos ⟨hm, hk⟩]
    · rw [if_neg fun e => hm e.1, if_neg fun e => hm e.1]
  · rw [if_neg (c := nmK G p = true ∧ p < K) fun e => hk e.2]
    by_cases hk2 : p < K'
    · have := hn p (by omega) hk2
      rw [if_neg fun e => by rw [this] at e; exact absurd e.1 (by decide)]
    · rw [if_neg fun e => hk2 e.2]
theorem at0_set {x : List Nat} {i p v : Nat} (hi : i < x.length) : at0 (x.set i v) p = if i = p then v else at0 x p := by
  unfold at0 List.getD
  rw [List.getElem?_set]
  by_cases h : i = p
  · subst h; simp [hi]
  · simp [h]
theorem turnK_step {l : List Nat} {G : List Fd} {K : Nat} (hK : K < l.length) (hn : nmK G K = true) : turnK l G (K + 1) = (turnK l G K).set K (flip (at0 l K)) := by
  refine at0_ext (by rw [List.length_set, turnK_len, turnK_len]) fun p hp => ?_
  rw [turnK_len] at hp
  rw [turnK_at hp, at0_set (by rw [turnK_len]; exact hK), turnK_at hp]
  by_cases he : K = p
  · subst he
    rw [if_pos ⟨hn, by omega⟩, if_pos rfl]
  · rw [if_neg he]
    by_cases hm : nmK G p = true
    · by_cases hk : p < K
      · rw [if_pos ⟨hm, by omega⟩, if_pos ⟨hm, hk⟩]
      · rw [if_neg fun e => by omega, if_neg fun e => hk e.2]
    · rw [if_neg fun e => hm e.1, if_neg fun e => hm e.1]
theorem turnK_here {l : List Nat} {G : List Fd} {K : Nat} (hK : K < l.length) : at0 (turnK l G K) K = at0 l K := by rw [turnK_at hK, if_neg (by omega)]
theorem turnK_keep {l : List Nat} {G : List Fd} {K : Nat} (hK : K < l.length) (hn : nmK G K = true) (hf : flip (at0 l K) = at0 l K) : turnK l G (K + 1) = turnK l G K := by
  rw [turnK_step hK hn, hf]
  refine at0_ext (by rw [List.length_set]) fun p hp => ?_
  rw [List.length_set, turnK_len] at hp
  rw [at0_set (by rw [turnK_len]; exact hK)]
  by_cases he : K = p
  · subst he; rw [if_pos rfl, turnK_here hK]
  · rw [if_neg he]
theorem turnK_sm (l : List Nat) (G : List Fd) (K : Nat) : (turnK l G K).map smA = l.map smA := by
  refine List.ext_getElem (by rw [List.length_map, List.length_map, turnK_len]) fun p h1 h2 => ?_
  have hp : p < l.length := by simpa using h2
  have h3 := turnK_at (l := l) (G := G) (K := K) hp
  rw [at0_getElem (by rw [turnK_len]; exact hp), at0_getElem hp] at h3
  rw [List.getElem_map, List.getElem_map, h3]
  split
  · exact flip_sm _
  · rfl
theorem turnK_8 {l : List Nat} (h : B8 l) (G : List Fd) (K : Nat) : B8 (turnK l G K) := fun x hx => by
  obtain ⟨p, hp, rfl⟩ := List.getElem_of_mem hx
  have hp2 : p < l.length := by rwa [turnK_len] at hp
  have h3 := turnK_at (l := l) (G := G) (K := K) hp2
  rw [at0_getElem hp] at h3
  rw [h3]
  have := h.at0 p
  split
  · exact flip_8 this
  · exact this
theorem Tile.far {l : List Nat} {G : List Fd} (h : Tile l G) : ∀ (d i : Nat) (hi : i + d + 1 < G.length), (G[i]'(by omega)).e ≤ (G[i + d + 1]).a
  | 0, i, hi => Nat.le_of_eq (h.next i hi).1.symm
  | d + 1, i, hi => by
    have h1 := Tile.far h d i (by omega)
    have h2 := (h.next (i + d + 1) hi).1
    obtain ⟨u1, u2, -⟩ := h.at_ (i + d + 1) (by omega)
    have h3 : (G[i + (d + 1) + 1]).a = (G[i + d + 1 + 1]).a := by congr 2
    omega
theorem Tile.body {l : List Nat} {G : List Fd} (h : Tile l G) {i : Nat} (hi : i < G.length) {p : Nat} (h1 : (G[i]).b ≤ p) (h2 : p < (G[i]).e) : nmK G p = false := by
  unfold nmK
  rw [List.any_eq_false]
  intro f hf
  obtain ⟨j, hj, rfl⟩ := List.getElem_of_mem hf
  simp only [decide_eq_true_eq, not_and]
  intro h3 h4
  obtain ⟨u1, u2, -⟩ := h.at_ j hj
  obtain ⟨v1, v2, -⟩ := h.at_ i hi
  rcases Nat.lt_trichotomy j i with e | e | e
  · obtain ⟨d, rfl⟩ : ∃ d, i = j + d + 1 := ⟨i - j - 1, by omega⟩
    have := h.far d j hi
    omega
  · subst e; omega
  · obtain ⟨d, rfl⟩ : ∃ d, j = i + d + 1 := ⟨j - i - 1, by omega⟩
    have := h.far d i hj
    omega
theorem Tile.name {G : List Fd} {i : Nat} (hi : i < G.length) {p : Nat} (h1 : (G[i]).a ≤ p) (h2 : p < (G[i]).b) : nmK G p = true := by
  unfold nmK
  rw [List.any_eq_true]
  exact ⟨G[i], List.getElem_mem hi, decide_eq_true ⟨h1, h2⟩⟩
end Go.Proofs.Ytdaaapingaebkaa
