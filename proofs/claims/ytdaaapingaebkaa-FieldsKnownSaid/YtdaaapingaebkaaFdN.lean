import Derived.Test.YtdaaapingaebkaaFdT
namespace Go.Proofs.Ytdaaapingaebkaa
open Go.RowKit

/-! fields: one field more behind a text. -/
theorem beh_app : ∀ {x : List Nat} (u : List Nat), 10 ∈ x → behL (x ++ u) = behL x
  | [], _, h => by cases h
  | c :: r, u, h => by
    by_cases hc : c = 10
    · simp [behL, hc]
    · have h2 : 10 ∈ r := by
        rcases List.mem_cons.1 h with e | e
        · exact absurd e.symm hc
        · exact e
      simp [behL, hc, beh_app u h2]
theorem col_app : ∀ {x : List Nat} (u : List Nat), 10 ∈ x → colL (x ++ u) = colL x
  | [], _, h => by cases h
  | c :: r, u, h => by
    by_cases h58 : c = 58
    · simp [colL, h58]
    · by_cases hc : c = 10
      · simp [colL, hc]
      · have h2 : 10 ∈ r := by
          rcases List.mem_cons.1 h with e | e
          · exact absurd e.symm hc
          · exact e
        simp [colL, h58, hc, col_app u h2]
theorem ten_in {l : List Nat} (h : at0 l (l.length - 1) = 10) {i : Nat} (hi : i < l.length) : 10 ∈ l.drop i := by
  have h1 : l.length - 1 - i < (l.drop i).length := by rw [List.length_drop]; omega
  have h2 : at0 (l.drop i) (l.length - 1 - i) = 10 := by rw [at0_drop, show i + (l.length - 1 - i) = l.length - 1 by omega]; exact h
  rw [at0_getElem h1] at h2
  rw [← h2]
  exact List.getElem_mem h1
theorem begL_app {l u : List Nat} {i : Nat} (hi : i < l.length) (h : 10 ∈ l.drop i) : begL (l ++ u) i = begL l i := by
  unfold begL
  rw [List.drop_append_of_le_length (by omega), col_app u h]
  cases hc : colL (l.drop i) with
  | none => rfl
  | some m =>
    simp only
    have := (colL_get hc).2.2
    rw [List.take_append_of_le_length (by omega)]
theorem walk_app {l u : List Nat} (h : at0 l (l.length - 1) = 10) : ∀ (n i : Nat) (fs gs : List Fd), l.length - i ≤ n → i ≤ l.length → walk l i fs = .ok gs → walk (l ++ u) i fs = walk (l ++ u) l.length gs
  | n, i, fs, gs, hn, hle, hw => by
    by_cases hi : i < l.length
    · obtain ⟨l1, l2, l3⟩ := line_next hi
      have h10 := ten_in h hi
      have hi2 : i < (l ++ u).length := by rw [List.length_append]; omega
      have hb : behL ((l ++ u).drop i) = behL (l.drop i) := by rw [List.drop_append_of_le_length (by omega), beh_app u h10]
      have ha : at0 (l ++ u) i = at0 l i := at0_append_left hi
      cases n with
      | zero => omega
      | succ n =>
        cases hg : goesB (at0 l i) with
        | true =>
          rw [walk_goes hi hg] at hw
          rw [walk_goes hi2 (by rw [ha]; exact hg), hb]
          exact walk_app h n _ fs gs (by omega) (by omega) hw
        | false =>
          cases hbg : begL l i with
          | none => rw [walk_none hi hg hbg] at hw; cases hw
          | some f =>
            rw [walk_some hi hg hbg] at hw
            rw [walk_some hi2 (by rw [ha]; exact hg) (by rw [begL_app hi h10]; exact hbg), hb]
            by_cases ho : ordK fs f.k = 0
            · rw [if_pos ho] at hw ⊢
              exact walk_app h n _ _ gs (by omega) (by omega) hw
            · rw [if_neg ho] at hw; cases hw
    · obtain rfl : i = l.length := by omega
      rw [walk_end (Nat.le_refl _)] at hw
      by_cases h2 : hasK 2 fs = true
      · rw [if_pos h2] at hw
        obtain rfl := Res.ok.inj hw
        rfl
      · rw [if_neg h2] at hw; cases hw
theorem walk_all {t : List Nat} : ∀ (n i : Nat) (fs : List Fd), t.length - i ≤ n → i ≤ t.length → (∀ j, i ≤ j → j < t.length → (j = i ∨ at0 t (j - 1) = 10) → goesB (at0 t j) = true) → walk t i fs = walk t t.length fs
  | n, i, fs, hn, hle, h => by
    by_cases hi : i < t.length
    · obtain ⟨l1, l2, l3⟩ := line_next hi
      cases n with
      | zero => omega
      | succ n =>
        rw [walk_goes hi (h i (Nat.le_refl _) hi (.inl rfl))]
        refine walk_all n _ fs (by omega) l2 fun j h1 h2 h3 => h j (by omega) h2 ?_
        rcases h3 with e | e
        · rcases l3 with e2 | e2
          · rw [e]; exact .inr e2
          · omega
        · exact .inr e
    · obtain rfl : i = t.length := by omega
      rfl
theorem col_nm : ∀ {nm : List Nat} (b : List Nat), 58 ∉ nm → 10 ∉ nm → colL (nm ++ 58 :: b) = some nm.length
  | [], _, _, _ => rfl
  | c :: r, b, h1, h2 => by
    have e1 : c ≠ 58 := fun e => h1 (by simp [e])
    have e2 : c ≠ 10 := fun e => h2 (by simp [e])
    have e3 : 58 ∉ r := fun e => h1 (by simp [e])
    have e4 : 10 ∉ r := fun e => h2 (by simp [e])
    simp [colL, e1, e2, col_nm b e3 e4]
theorem beh_nm : ∀ {nm : List Nat} (b : List Nat), 10 ∉ nm → behL (nm ++ 58 :: b) = nm.length + 1 + behL b
  | [], b, _ => by simp [behL]; omega
  | c :: r, b, h => by
    have e2 : c ≠ 10 := fun e => h (by simp [e])
    have e4 : 10 ∉ r := fun e => h (by simp [e])
    simp [behL, e2, beh_nm b e4]
    omega
/-- Bytes that go on with a field. -/
structure Beh (b : List Nat) : Prop where
  may : ∀ x ∈ b, mayB x = true
  goes : ∀ j, j + 1 < b.length → at0 b j = 10 → goesB (at0 b (j + 1)) = true
theorem badB_of {l : List Nat} (h : ∀ x ∈ l, mayB x = true) : badB l = none := badB_none fun j hj => h _ (by rw [at0_getElem hj]; exact List.getElem_mem hj)
theorem ends_push2 (n : Nat) (k a b e : Nat) : ∀ fs : List Fd, ends n (fs ++ [⟨k, a, b, e⟩]) = ends a fs ++ [⟨k, a, b, n⟩]
  | [] => rfl
  | g :: r => by
    rw [List.cons_append, ends, ends, ends_push2 n k a b e r, List.cons_append]
    congr 2
    cases r <;> rfl
theorem split_more {l nm b : List Nat} {K : Nat} {G : List Fd} (h : (splitR l).fin l.length = .ok G) (hlast : at0 l (l.length - 1) = 10) (hnm : 58 ∉ nm) (hn10 : 10 ∉ nm) (hnmay : ∀ x ∈ nm, mayB x = true) (hn0 : 0 < nm.length) (hng : goesB (at0 nm 0) = false)
    (hK : kindN nm = K) (hK0 : K ≠ 0) (hK1 : K ≠ 1) (hGK : hasK K G = false) (hG7 : hasK 7 G = false) (hb : Beh b) (hlen : (l ++ (nm ++ 58 :: b)).length ≤ 65536) :
    (splitR (l ++ (nm ++ 58 :: b))).fin (l ++ (nm ++ 58 :: b)).length = .ok (G ++ [⟨K, l.length, l.length + nm.length + 1, (l ++ (nm ++ 58 :: b)).length⟩]) := by
  obtain ⟨ht, h6, hbad⟩ := split_tile h
  have hmay := badB_all hbad
  obtain ⟨u, hu⟩ : ∃ u, u = nm ++ 58 :: b := ⟨_, rfl⟩
  rw [← hu] at hlen ⊢
  have hul : u.length = nm.length + 1 + b.length := by rw [hu]; simp; omega
  unfold splitR at h
  rw [if_neg (by omega), hbad] at h
  simp only at h
  by_cases hg : (l.isEmpty || goesB (at0 l 0)) = true
  · rw [if_pos hg] at h; cases h
  · rw [if_neg hg] at h
    have hg' : (l.isEmpty || goesB (at0 l 0)) = false := by simpa using hg
    rw [Bool.or_eq_false_iff] at hg'
    have hpos : 0 < l.length := by
      cases hx : l with
      | nil => rw [hx] at hg'; cases hg'.1
      | cons c r => simp
    cases hw : walk l 0 [] with
    | bad i c => rw [hw] at h; cases h
    | ok gs =>
      rw [hw] at h
      obtain rfl := Res.ok.inj h
      rw [hasK_ends] at hGK hG7
      have hw2 := walk_app (u := u) hlast l.length 0 [] gs (by omega) (Nat.zero_le _) hw
      obtain ⟨t, htt⟩ : ∃ t, t = l ++ u := ⟨_, rfl⟩
      rw [← htt] at hw2 hlen ⊢
      have htl : t.length = l.length + u.length := by rw [htt, List.length_append]
      have hdrop : t.drop l.length = u := by rw [htt]; simp
      have hat : at0 t l.length = at0 nm 0 := by
        rw [htt, show l.length = l.length + 0 from rfl, at0_append_right, hu, at0_append_left hn0]
      have hbeg : begL t l.length = some ⟨K, l.length, l.length + nm.length + 1, 0⟩ := by
        unfold begL
        rw [hdrop, hu, col_nm b hnm hn10]
        simp only
        rw [List.take_left' rfl, hK, if_neg hK0]
      have hord : ordK gs K = 0 := by
        unfold ordK
        rw [hGK, hG7]
        simp [hK1]
      have hs := walk_some (fs := gs) (by omega : l.length < t.length) (by rw [hat]; exact hng) hbeg
      rw [if_pos hord, hdrop, hu, beh_nm b hn10] at hs
      have hbat : ∀ j, at0 t (l.length + nm.length + 1 + j) = at0 b j := fun j => by
        rw [htt, show l.length + nm.length + 1 + j = l.length + (nm.length + (1 + j)) by omega, at0_append_right, hu, at0_append_right, Nat.add_comm 1 j, at0_cons_succ]
      have hall := walk_all (t := t) t.length (l.length + (nm.length + 1 + behL b)) (gs ++ [⟨K, l.length, l.length + nm.length + 1, 0⟩]) (by omega) (by have := behL_le b; omega) fun j h1 h2 h3 => by
        have hbl : behL b ≠ 0 := by
          intro e
          have hbn : b = [] := by
            cases b with
            | nil => rfl
            | cons x y =>
              have := behL_pos (l := x :: y) (by simp)
              omega
          rw [hbn] at hul
          simp at hul
          omega
        have h10 : at0 t (j - 1) = 10 := by
          rcases h3 with e | e
          · obtain ⟨m1, m2, m3⟩ := line_next (l := t) (i := l.length) (by omega)
            rw [hdrop, hu, beh_nm b hn10] at m1 m2 m3
            rcases m3 with e2 | e2
            · rw [e]; exact e2
            · omega
          · exact e
        obtain ⟨q, hq⟩ : ∃ q, j = l.length + nm.length + 1 + (q + 1) := ⟨j - (l.length + nm.length + 2), by omega⟩
        rw [hq, hbat]
        rw [hq, show l.length + nm.length + 1 + (q + 1) - 1 = l.length + nm.length + 1 + q by omega, hbat] at h10
        exact hb.goes q (by omega) h10
      have hfin : walk t 0 [] = .ok (gs ++ [⟨K, l.length, l.length + nm.length + 1, 0⟩]) := by
        rw [hw2, hs, hall, walk_end (Nat.le_refl _)]
        have h2 := ht.has
        rw [hasK_ends] at h2
        rw [hasK_app, h2]
        rfl
      have hmayt : ∀ x ∈ t, mayB x = true := fun x hx => by
        rw [htt, hu] at hx
        rcases List.mem_append.1 hx with e | e
        · exact hmay x e
        · rcases List.mem_append.1 e with e | e
          · exact hnmay x e
          · rcases List.mem_cons.1 e with e | e
            · rw [e]; rfl
            · exact hb.may x e
      have hge : (t.isEmpty || goesB (at0 t 0)) = false := by
        rw [htt, at0_append_left hpos, hg'.2]
        cases hx : l with
        | nil => rw [hx] at hpos; cases hpos
        | cons c r => rfl
      unfold splitR
      rw [if_neg (by omega), badB_of hmayt]
      simp only
      rw [if_neg (by rw [hge]; decide), hfin]
      show Res.ok (ends _ _) = _
      rw [ends_push2]
end Go.Proofs.Ytdaaapingaebkaa
