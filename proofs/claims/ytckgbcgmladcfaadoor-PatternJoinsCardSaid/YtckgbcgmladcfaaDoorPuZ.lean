import Derived.Test.YtckgbcgmladcfaaDoorPtD
namespace Go.Proofs.YtckgbcgmladcfaaDoor

/-! What is read may be, and is small. -/
def GoodT (t : PT) : Prop := may t = true ∧ setsOk t
def PhOk : Ph → Prop
  | .pat acc => ∀ t ∈ acc, GoodT t
  | .alt acc => ∀ t ∈ acc, GoodT t
  | .piece => True
  | .rep t => GoodT t
  | .atom => True
def PhBd : Ph → Nat → Nat → Prop
  | .pat acc, k, n => if acc = [] then n ≤ k + 2 ∨ n + 1 ≤ 2 * k else n ≤ nodesL acc + k + 2 ∨ n ≤ nodesL acc + 2 * k
  | .alt acc, k, n => if acc = [] then (k = 0 ∧ n = 1) ∨ n + 1 ≤ 2 * k else n ≤ nodesL acc + 2 * k + (if acc.length = 1 then 0 else 1)
  | .piece, k, n => n + 1 ≤ 2 * k
  | .rep t, k, n => n ≤ nodes t + k
  | .atom, k, n => n + 1 ≤ 2 * k
theorem goodL {ps : List PT} (h : ∀ t ∈ ps, GoodT t) : mayL ps = true ∧ setsOkL ps := by
  induction ps with
  | nil => exact ⟨rfl, trivial⟩
  | cons t ts ih =>
    obtain ⟨h1, h2⟩ := ih fun t ht => h t (List.mem_cons_of_mem _ ht)
    obtain ⟨h3, h4⟩ := h t (by simp)
    exact ⟨by rw [mayL, h1, h3]; rfl, by rw [setsOkL]; exact ⟨h4, h2⟩⟩
theorem good_set {s : S4} (h : s.fit) : GoodT (setT s) := ⟨by unfold setT; rw [may, mayL]; rfl, by unfold setT; rw [setsOk]; exact ⟨h, trivial⟩⟩
theorem good_leaf (k : Int) (h : k = 0 ∨ k = 2 ∨ k = 3) : GoodT (.mk k .zero 0 0 []) := by
  refine ⟨?_, by rw [setsOk]; exact ⟨S4.zero_fit, trivial⟩⟩
  rcases h with rfl | rfl | rfl <;> (rw [may, mayL]; rfl)
theorem good_many {k : Int} {ps : List PT} (hk : k = 4 ∨ k = 5) (h : ∀ t ∈ ps, GoodT t) (h2 : 2 ≤ ps.length) : GoodT (.mk k .zero 0 0 ps) := by
  obtain ⟨h3, h4⟩ := goodL h
  refine ⟨?_, by rw [setsOk]; exact ⟨S4.zero_fit, h4⟩⟩
  rw [may, h3, Bool.and_true]
  unfold fitT
  rcases hk with rfl | rfl <;> simp [S4.isZ, S4.zero, h2]
theorem good_join {k : Int} {ps : List PT} (hk : k = 4 ∨ k = 5) (h : ∀ t ∈ ps, GoodT t) : GoodT (joinT k ps) := by
  match ps with
  | [] => exact good_leaf 0 (.inl rfl)
  | [t] => exact h t (by simp)
  | t :: u :: r => exact good_many hk h (by simp)
theorem nodes_join (k : Int) (ps : List PT) : nodes (joinT k ps) = if ps.length = 1 then nodesL ps else nodesL ps + 1 := by
  match ps with
  | [] => show nodes noneT = _; unfold noneT; rw [nodes, nodesL]; rfl
  | [t] => show nodes t = _; rw [nodesL, nodesL]; simp
  | t :: u :: r => show nodes (.mk k .zero 0 0 (t :: u :: r)) = _; rw [nodes, if_neg (by simp)]; omega
theorem digs_le {x : List Nat} {k : Nat} (_ : Digs x k) : (0 : Int) ≤ (k : Nat) := by omega
theorem Times.itv {l r : List Nat} {m n : Int} (h : Times l m n r) : Proofs.YtckgbcgmladcfaaDoor.itv m n = true := by
  cases h with
  | star => decide
  | plus => decide
  | may => decide
  | intv h =>
    obtain ⟨x, k, _, hk, rfl, ⟨_, rfl⟩ | ⟨_, rfl⟩ | ⟨y, j, _, _, h1, h2, rfl⟩⟩ := h
    · unfold Proofs.YtckgbcgmladcfaaDoor.itv; simp; omega
    · unfold Proofs.YtckgbcgmladcfaaDoor.itv; simp; omega
    · unfold Proofs.YtckgbcgmladcfaaDoor.itv; simp; omega
theorem good_rep {l r : List Nat} {m n : Int} {t : PT} (h : Times l m n r) (ht : GoodT t) : GoodT (repT4 m n t) := by
  unfold repT4
  refine ⟨?_, by rw [setsOk, setsOkL, setsOkL]; exact ⟨S4.zero_fit, ht.2, trivial⟩⟩
  rw [may, mayL, mayL, ht.1]
  unfold fitT
  simp [S4.isZ, S4.zero, h.itv]
theorem nodes_rep (m n : Int) (t : PT) : nodes (repT4 m n t) = nodes t + 1 := by
  unfold repT4
  rw [nodes, nodesL, nodesL]
  omega
theorem nodesL_snoc (a : List PT) (t : PT) : nodesL (a ++ [t]) = nodesL a + nodes t := by
  induction a with
  | nil => rw [List.nil_append, nodesL, nodesL]; simp [nodesL]
  | cons x xs ih => rw [List.cons_append, nodesL, nodesL, ih]; omega
theorem nodes_set (s : S4) : nodes (setT s) = 1 := by unfold setT; rw [nodes, nodesL]
theorem snoc_good {acc : List PT} {t : PT} (h : ∀ t ∈ acc, GoodT t) (ht : GoodT t) : ∀ x ∈ acc ++ [t], GoodT x := fun x hx => by
  rcases List.mem_append.1 hx with h1 | h1
  · exact h x h1
  · rw [List.mem_singleton.1 h1]; exact ht
theorem Run.made {o : Nat} {p : Ph} {l : List Nat} {res : Res PT} (h : Run o p l res) : ∀ t r, res = .ok t r → PhOk p → GoodT t ∧ PhBd p (l.length - r.length) (nodes t) := by
  induction h with
  | patErr | altErr | pieceErr | repErr | atomRep | atomDeep | atomErr | atomOpen | atomEsc => intro t r e; cases e
  | @patMore o acc l t r res h1 h2 ih1 ih2 =>
    intro T R e hok
    obtain ⟨g1, b1⟩ := ih1 _ _ rfl (fun t ht => (by cases ht))
    obtain ⟨g2, b2⟩ := ih2 _ _ e (snoc_good hok g1)
    refine ⟨g2, ?_⟩
    have l1 := (h1.len _ _ rfl).1
    have l2 := (h2.len _ _ e).1
    simp only [List.length_cons] at l1 b1
    simp only [PhBd] at b1 b2 ⊢
    simp only [↓reduceIte] at b1
    rw [if_neg (by simp), nodesL_snoc] at b2
    by_cases ha : acc = []
    · rw [if_pos ha]
      subst ha
      rw [nodesL] at b2
      omega
    · rw [if_neg ha]
      omega
  | @patEnd o acc l t r h1 hr ih1 =>
    intro T R e hok
    cases e
    obtain ⟨g1, b1⟩ := ih1 _ _ rfl (fun t ht => (by cases ht))
    refine ⟨good_join (.inr rfl) (snoc_good hok g1), ?_⟩
    simp only [PhBd] at b1 ⊢
    simp only [↓reduceIte] at b1
    rw [nodes_join, nodesL_snoc]
    by_cases ha : acc = []
    · rw [if_pos ha]
      subst ha
      have e1 : (([] : List PT) ++ [t]).length = 1 := rfl
      simp only [e1, ↓reduceIte, nodesL]
      omega
    · have : 0 < acc.length := List.length_pos_iff.2 ha
      rw [if_neg ha, if_neg (by simp; exact ha)]
      omega
  | @altEnd o acc l hl =>
    intro T R e hok
    cases e
    refine ⟨good_join (.inl rfl) hok, ?_⟩
    simp only [PhBd]
    rw [nodes_join, Nat.sub_self]
    by_cases ha : acc = []
    · rw [if_pos ha]
      subst ha
      exact .inl ⟨rfl, rfl⟩
    · rw [if_neg ha]
      split <;> omega
  | @altMore o acc l t r res hl hl2 h1 h2 ih1 ih2 =>
    intro T R e hok
    obtain ⟨g1, b1⟩ := ih1 _ _ rfl trivial
    obtain ⟨g2, b2⟩ := ih2 _ _ e (snoc_good hok g1)
    refine ⟨g2, ?_⟩
    have l1 := (h1.len _ _ rfl).1
    have l2 := (h2.len _ _ e).1
    simp only [PhBd] at b1 b2 ⊢
    rw [if_neg (by simp), nodesL_snoc] at b2
    by_cases ha : acc = []
    · rw [if_pos ha]
      subst ha
      have e1 : (([] : List PT) ++ [t]).length = 1 := rfl
      simp only [e1, ↓reduceIte, nodesL] at b2
      omega
    · have : 0 < acc.length := List.length_pos_iff.2 ha
      rw [if_neg ha]
      rw [List.length_append, List.length_singleton, if_neg (by omega)] at b2
      omega
  | @pieceOk o l t r res h1 h2 ih1 ih2 =>
    intro T R e hok
    obtain ⟨g1, b1⟩ := ih1 _ _ rfl trivial
    obtain ⟨g2, b2⟩ := ih2 _ _ e g1
    refine ⟨g2, ?_⟩
    have l1 := (h1.len _ _ rfl).1
    have l2 := (h2.len _ _ e).1
    simp only [PhBd] at b1 b2 ⊢
    omega
  | repEnd => intro T R e hok; cases e; exact ⟨hok, by simp only [PhBd]; omega⟩
  | @repOk o t l m n r res h1 h2 ih =>
    intro T R e hok
    obtain ⟨g2, b2⟩ := ih _ _ e (good_rep h1 hok)
    refine ⟨g2, ?_⟩
    have l1 := h1.len
    have l2 := (h2.len _ _ e).1
    simp only [PhBd] at b2 ⊢
    rw [nodes_rep] at b2
    omega
  | @atomGroup o r t l ho h1 ih =>
    intro T R e hok
    cases e
    obtain ⟨g1, b1⟩ := ih _ _ rfl (fun t ht => (by cases ht))
    refine ⟨g1, ?_⟩
    have l1 := (h1.len _ _ rfl).1
    simp only [PhBd] at b1 ⊢
    simp only [↓reduceIte] at b1
    simp only [List.length_cons] at l1 b1 ⊢
    omega
  | atomBrk h1 =>
    intro T R e hok
    subst e
    obtain ⟨hl, s, hs, rfl⟩ := h1.len
    refine ⟨good_set hs, ?_⟩
    simp only [PhBd]
    rw [nodes_set, List.length_cons]
    omega
  | atomAny => intro T R e hok; cases e; exact ⟨good_set (S4.of_fit _), by simp only [PhBd]; rw [nodes_set, List.length_cons]; omega⟩
  | atomBegin => intro T R e hok; cases e; exact ⟨good_leaf 2 (by simp), by simp only [PhBd]; unfold beginT; rw [nodes, nodesL, List.length_cons]; omega⟩
  | atomEnd => intro T R e hok; cases e; exact ⟨good_leaf 3 (by simp), by simp only [PhBd]; unfold endT; rw [nodes, nodesL, List.length_cons]; omega⟩
  | atomLit => intro T R e hok; cases e; exact ⟨good_set (S4.of_fit _), by simp only [PhBd]; rw [nodes_set, List.length_cons, List.length_cons]; omega⟩
  | atomByte => intro T R e hok; cases e; exact ⟨good_set (S4.of_fit _), by simp only [PhBd]; rw [nodes_set, List.length_cons]; omega⟩
/-- What is read of a whole text. -/
theorem Run.small {l : List Nat} {t : PT} (h : Run 0 (.pat []) l (.ok t [])) (hl : l.length ≤ 1024) : may t = true ∧ setsOk t ∧ nodes t ≤ 2048 := by
  obtain ⟨⟨g1, g2⟩, b⟩ := h.made _ _ rfl (fun t ht => (by cases ht))
  refine ⟨g1, g2, ?_⟩
  simp only [PhBd] at b
  simp only [↓reduceIte] at b
  rw [List.length_nil] at b
  omega
end Go.Proofs.YtckgbcgmladcfaaDoor
