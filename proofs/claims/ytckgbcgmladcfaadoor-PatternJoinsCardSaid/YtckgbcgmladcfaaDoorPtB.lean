import Derived.Test.YtckgbcgmladcfaaDoorPtA
namespace Go.Proofs.YtckgbcgmladcfaaDoor

/-! Trees as texts. -/
theorem PT.ind {P : PT → Prop} (h : ∀ k s m n ps, (∀ t ∈ ps, P t) → P (.mk k s m n ps)) (t : PT) : P t :=
  PT.rec (motive_1 := P) (motive_2 := fun ps => ∀ t ∈ ps, P t) (fun k s m n ps ih => h k s m n ps ih) (fun _ ht => by cases ht) (fun _ _ h1 h2 t ht => by exact (List.mem_cons.1 ht).elim (fun e => e ▸ h1) (fun ht => h2 t ht)) t
def pieceK (k : Int) : Bool := !(k == 0 || k == 4 || k == 5)
def choiceK (k : Int) : Bool := k == 5
def grpT (g : Bool) (l : List Nat) : List Nat := if g then 40 :: (l ++ [41]) else l

/-- The runs of the bytes below c, the last one first. -/
def runsR (p : Nat → Bool) : Nat → List (Nat × Nat)
  | 0 => []
  | c + 1 => if p c then (if 0 < c ∧ p (c - 1) = true then (match runsR p c with | (a, _) :: t => (a, c) :: t | [] => [(c, c)]) else (c, c) :: runsR p c) else runsR p c
def runsL (p : Nat → Bool) (c : Nat) : List (Nat × Nat) := (runsR p c).reverse
def isSp (c : Nat) : Bool := c == 93 || c == 91 || c == 94 || c == 45
def mem4 (c : Nat) : List Nat := if isSp c then [91, 46, c, 46, 93] else [c]
def runT (x : Nat × Nat) : List Nat := mem4 x.1 ++ ((if x.1 + 1 < x.2 then [45] else []) ++ if x.1 < x.2 then mem4 x.2 else [])
/-- Bytes that stand for something outside of brackets. -/
def isEsc (c : Nat) : Bool := c == 92 || c == 94 || c == 46 || c == 91 || c == 36 || c == 40 || c == 41 || c == 124 || c == 42 || c == 43 || c == 63 || c == 123
def escT (c : Nat) : List Nat := if isEsc c then [92, c] else [c]
def S4.isAll (s : S4) : Bool := (List.range 256).all s.has
def setTxt (s : S4) : List Nat :=
  if s.isAll then [46] else match runsL s.has 256 with
  | [] => [91, 94, 0, 45, 255, 93]
  | [(a, b)] => if a = b then escT a else 91 :: (runT (a, b) ++ [93])
  | L => 91 :: (L.flatMap runT ++ [93])
def dec3 (n : Nat) : List Nat := if n < 10 then [48 + n] else if n < 100 then [48 + n / 10, 48 + n % 10] else [48 + n / 100, 48 + n / 10 % 10, 48 + n % 10]
def signT (m n : Int) : List Nat :=
  if m = 0 ∧ n = -1 then [42] else if m = 1 ∧ n = -1 then [43] else if m = 0 ∧ n = 1 then [63] else
    123 :: (dec3 m.toNat ++ ((if n ≠ m then [44] else []) ++ ((if n ≠ m ∧ n ≠ -1 then dec3 n.toNat else []) ++ [125])))
mutual
def prt : PT → List Nat
  | .mk k s m n ps => if k = 1 then setTxt s else if k = 2 then [94] else if k = 3 then [36] else if k = 4 then prtL (fun k => !pieceK k) [] true ps else if k = 5 then prtL choiceK [124] true ps else if k = 6 then prtL (fun k => !pieceK k) [] true ps ++ signT m n else []
def prtL (g : Int → Bool) (sep : List Nat) : Bool → List PT → List Nat
  | _, [] => []
  | f, t :: ts => (if f then [] else sep) ++ (grpT (g t.kind) (prt t) ++ prtL g sep false ts)
end
mutual
def dep : PT → Nat
  | .mk k _ _ _ ps => if k = 4 ∨ k = 6 then depL (fun k => !pieceK k) ps else if k = 5 then depL choiceK ps else 0
def depL (g : Int → Bool) : List PT → Nat
  | [] => 0
  | t :: ts => max (dep t + if g t.kind then 1 else 0) (depL g ts)
end
def S4.isZ (s : S4) : Bool := s.a == 0 && (s.b == 0 && (s.c == 0 && s.d == 0))
def itv (m n : Int) : Bool := decide (0 ≤ m) && decide (m ≤ 255) && (n == -1 || (decide (m ≤ n) && decide (n ≤ 255)))
def fitT (k : Int) (s : S4) (m n : Int) (len : Nat) : Bool :=
  (k == 1 || s.isZ) && ((k == 6 || (m == 0 && n == 0)) && if k = 0 ∨ k = 1 ∨ k = 2 ∨ k = 3 then len == 0 else if k = 4 ∨ k = 5 then decide (2 ≤ len) else if k = 6 then len == 1 && itv m n else false)
mutual
def may : PT → Bool
  | .mk k s m n ps => fitT k s m n ps.length && mayL ps
def mayL : List PT → Bool
  | [] => true
  | t :: ts => may t && mayL ts
end
mutual
def nodes : PT → Nat
  | .mk _ _ _ _ ps => 1 + nodesL ps
def nodesL : List PT → Nat
  | [] => 0
  | t :: ts => nodes t + nodesL ts
end
mutual
/-- All sets are four words. -/
def setsOk : PT → Prop
  | .mk _ s _ _ ps => s.fit ∧ setsOkL ps
def setsOkL : List PT → Prop
  | [] => True
  | t :: ts => setsOk t ∧ setsOkL ts
end
theorem mayL_mem {ps : List PT} (h : mayL ps = true) : ∀ t ∈ ps, may t = true := by
  induction ps with
  | nil => intro t ht; cases ht
  | cons a l ih =>
    rw [mayL, Bool.and_eq_true] at h
    intro t ht
    exact (List.mem_cons.1 ht).elim (fun e => e ▸ h.1) (fun ht => ih h.2 t ht)
theorem setsOkL_mem {ps : List PT} (h : setsOkL ps) : ∀ t ∈ ps, setsOk t := by
  induction ps with
  | nil => intro t ht; cases ht
  | cons a l ih =>
    rw [setsOkL] at h
    intro t ht
    exact (List.mem_cons.1 ht).elim (fun e => e ▸ h.1) (fun ht => ih h.2 t ht)
theorem depL_mem {g : Int → Bool} {ps : List PT} : ∀ t ∈ ps, dep t + (if g t.kind then 1 else 0) ≤ depL g ps := by
  induction ps with
  | nil => intro t ht; cases ht
  | cons a l ih =>
    intro t ht
    rw [depL]
    rcases List.mem_cons.1 ht with rfl | ht
    · exact Nat.le_max_left _ _
    · exact Nat.le_trans (ih t ht) (Nat.le_max_right _ _)
theorem S4.isZ_eq {s : S4} (h : s.isZ = true) : s = .zero := by
  obtain ⟨a, b, c, d⟩ := s
  simp [S4.isZ] at h
  obtain ⟨rfl, rfl, rfl, rfl⟩ := h
  rfl
theorem S4.isAll_eq {s : S4} (h : s.fit) (k : s.isAll = true) : s = .all := by
  refine S4.ext h (S4.of_fit _) fun c hc => ?_
  rw [S4.has_all c hc]
  exact List.all_eq_true.1 k c (List.mem_range.2 hc)

/-! The runs of a set are its bytes. -/
theorem runsR_last {p : Nat → Bool} {c : Nat} (h : p c = true) : ∃ a t, runsR p (c + 1) = (a, c) :: t := by
  rw [runsR, if_pos h]
  split
  · split
    · exact ⟨_, _, rfl⟩
    · exact ⟨_, _, rfl⟩
  · exact ⟨_, _, rfl⟩
theorem runsR_ok (p : Nat → Bool) (c : Nat) : (∀ x ∈ runsR p c, x.1 ≤ x.2 ∧ x.2 < c) ∧ ∀ b, (∃ x ∈ runsR p c, x.1 ≤ b ∧ b ≤ x.2) ↔ (b < c ∧ p b = true) := by
  induction c with
  | zero => simp [runsR]
  | succ c ih =>
    obtain ⟨ih1, ih2⟩ := ih
    by_cases hp : p c = true
    · by_cases hq : 0 < c ∧ p (c - 1) = true
      · obtain ⟨a, t, e⟩ := runsR_last (p := p) (c := c - 1) hq.2
        rw [show c - 1 + 1 = c by omega] at e
        have e2 : runsR p (c + 1) = (a, c) :: t := by rw [runsR, if_pos hp, if_pos hq, e]
        rw [e] at ih1 ih2
        have ha := ih1 (a, c - 1) (by simp)
        rw [e2]
        refine ⟨fun x hx => ?_, fun b => ⟨?_, ?_⟩⟩
        · rcases List.mem_cons.1 hx with rfl | hx
          · simp at ha ⊢; omega
          · have := ih1 x (List.mem_cons_of_mem _ hx); omega
        · rintro ⟨x, hx, h1, h2⟩
          rcases List.mem_cons.1 hx with rfl | hx
          · simp at h1 h2
            by_cases hb : b = c
            · subst hb; exact ⟨by omega, hp⟩
            · have := (ih2 b).1 ⟨(a, c - 1), by simp, h1, by simp; omega⟩
              exact ⟨by omega, this.2⟩
          · have := (ih2 b).1 ⟨x, List.mem_cons_of_mem _ hx, h1, h2⟩
            exact ⟨by omega, this.2⟩
        · rintro ⟨h1, h2⟩
          by_cases hb : b = c
          · subst hb; exact ⟨(a, b), by simp, by simp at ha ⊢; omega, by simp⟩
          · obtain ⟨x, hx, h3, h4⟩ := (ih2 b).2 ⟨by omega, h2⟩
            rcases List.mem_cons.1 hx with rfl | hx
            · exact ⟨(a, c), by simp, h3, by simp at h4 ⊢; omega⟩
            · exact ⟨x, List.mem_cons_of_mem _ hx, h3, h4⟩
      · rw [runsR, if_pos hp, if_neg hq]
        refine ⟨fun x hx => ?_, fun b => ⟨?_, ?_⟩⟩
        · rcases List.mem_cons.1 hx with rfl | hx
          · simp
          · have := ih1 x hx; omega
        · rintro ⟨x, hx, h1, h2⟩
          rcases List.mem_cons.1 hx with rfl | hx
          · simp at h1 h2
            obtain rfl : b = c := by omega
            exact ⟨by omega, hp⟩
          · have := (ih2 b).1 ⟨x, hx, h1, h2⟩
            exact ⟨by omega, this.2⟩
        · rintro ⟨h1, h2⟩
          by_cases hb : b = c
          · subst hb; exact ⟨(b, b), by simp, by simp, by simp⟩
          · obtain ⟨x, hx, h3, h4⟩ := (ih2 b).2 ⟨by omega, h2⟩
            exact ⟨x, List.mem_cons_of_mem _ hx, h3, h4⟩
    · rw [runsR, if_neg hp]
      refine ⟨fun x hx => by have := ih1 x hx; omega, fun b => ?_⟩
      rw [ih2 b]
      constructor
      · rintro ⟨h1, h2⟩; exact ⟨by omega, h2⟩
      · rintro ⟨h1, h2⟩
        refine ⟨?_, h2⟩
        by_cases hb : b = c
        · subst hb; exact absurd h2 hp
        · omega
theorem runsL_ok (p : Nat → Bool) (c : Nat) : (∀ x ∈ runsL p c, x.1 ≤ x.2 ∧ x.2 < c) ∧ ∀ b, (∃ x ∈ runsL p c, x.1 ≤ b ∧ b ≤ x.2) ↔ (b < c ∧ p b = true) := by
  have := runsR_ok p c
  unfold runsL
  simpa using this

/-! A set's text is read as that set. -/
theorem memb_raw {f : Bool} {c : Nat} {r : List Nat} (h : c ≠ 91) : memb f (c :: r) = some (c, r) := by
  unfold memb
  split <;> simp_all
theorem memb_mem4 (f : Bool) (c : Nat) (r : List Nat) : memb f (mem4 c ++ r) = some (c, r) := by
  unfold mem4
  by_cases h : isSp c = true
  · rw [if_pos h]; rfl
  · rw [if_neg h]
    exact memb_raw (fun e => h (by subst e; rfl))
theorem mem4_head (c : Nat) (r : List Nat) : (mem4 c ++ r).head? ≠ some 93 ∧ (mem4 c ++ r).head? ≠ some 45 ∧ (mem4 c ++ r).head? ≠ some 94 := by
  unfold mem4
  by_cases h : isSp c = true
  · rw [if_pos h]; simp
  · rw [if_neg h]
    simp only [isSp, Bool.or_eq_true, beq_iff_eq, not_or] at h
    simp only [List.cons_append, List.nil_append, List.head?_cons, ne_eq, Option.some.injEq]
    omega
theorem item_other {l : List Nat} (h1 : ∀ t, l ≠ 91 :: 58 :: t) (h2 : ∀ t, l ≠ 91 :: 61 :: t) : item l = match memb false l with
    | none => .no 101
    | some (c, 45 :: r) => if r.head? = some 93 then .ok (S4.span c c) (45 :: r) else match memb true r with
      | none => .no 101
      | some (d, r') => if d < c then .no 102 else .ok (S4.span c d) r'
    | some (c, r) => .ok (S4.span c c) r := by
  unfold item
  split
  · exact absurd rfl (h1 _)
  · exact absurd rfl (h2 _)
  · rfl
theorem mem4_other (c : Nat) (r : List Nat) : (∀ t, mem4 c ++ r ≠ 91 :: 58 :: t) ∧ (∀ t, mem4 c ++ r ≠ 91 :: 61 :: t) := by
  unfold mem4
  by_cases h : isSp c = true
  · rw [if_pos h]; simp
  · rw [if_neg h]
    simp only [isSp, Bool.or_eq_true, beq_iff_eq, not_or] at h
    exact ⟨fun t e => h.1.1.2 (List.cons.inj e).1, fun t e => h.1.1.2 (List.cons.inj e).1⟩
theorem item_one (c : Nat) {r : List Nat} (h : r.head? ≠ some 45) : item (mem4 c ++ r) = .ok (S4.span c c) r := by
  rw [item_other (mem4_other c r).1 (mem4_other c r).2, memb_mem4]
  cases r with
  | nil => rfl
  | cons x t =>
    have hx : x ≠ 45 := fun e => h (by rw [e]; rfl)
    split
    · simp_all
    · simp_all
    · simp_all
theorem item_span (c d : Nat) (r : List Nat) (h : c ≤ d) : item (mem4 c ++ 45 :: (mem4 d ++ r)) = .ok (S4.span c d) r := by
  rw [item_other (mem4_other c _).1 (mem4_other c _).2, memb_mem4]
  simp only
  rw [if_neg (mem4_head d r).1, memb_mem4]
  simp only
  rw [if_neg (by omega)]
/-- The bytes of runs. -/
def runsSet (acc : S4) (L : List (Nat × Nat)) : S4 := L.foldl (fun s x => s.or (S4.span x.1 x.2)) acc
theorem runsSet_has {L : List (Nat × Nat)} {acc : S4} {c : Nat} (hc : c < 256) : (runsSet acc L).has c = (acc.has c || L.any fun x => decide (x.1 ≤ c) && decide (c ≤ x.2)) := by
  induction L generalizing acc with
  | nil => simp [runsSet]
  | cons x t ih =>
    show (runsSet (acc.or (S4.span x.1 x.2)) t).has c = _
    rw [ih, S4.has_or, S4.has_span _ _ _ hc, List.any_cons, Bool.or_assoc]
theorem runsSet_fit {L : List (Nat × Nat)} {acc : S4} (h : acc.fit) : (runsSet acc L).fit := by
  induction L generalizing acc with
  | nil => exact h
  | cons x t ih => exact ih (S4.or_fit h (S4.of_fit _))
theorem runT_head (x : Nat × Nat) (r : List Nat) : (runT x ++ r).head? ≠ some 93 ∧ (runT x ++ r).head? ≠ some 45 ∧ (runT x ++ r).head? ≠ some 94 := by
  unfold runT
  rw [List.append_assoc]
  exact mem4_head _ _
theorem runs_tail_head (L : List (Nat × Nat)) (r : List Nat) : (L.flatMap runT ++ 93 :: r).head? ≠ some 45 := by
  cases L with
  | nil => simp
  | cons x t =>
    rw [List.flatMap_cons, List.append_assoc]
    exact (runT_head x _).2.1
theorem span_two (acc : S4) (h : acc.fit) (a : Nat) : (acc.or (S4.span a a)).or (S4.span (a + 1) (a + 1)) = acc.or (S4.span a (a + 1)) := by
  refine S4.ext (S4.or_fit (S4.or_fit h (S4.of_fit _)) (S4.of_fit _)) (S4.or_fit h (S4.of_fit _)) fun c hc => ?_
  simp only [S4.has_or, S4.has_span _ _ _ hc, Bool.or_assoc]
  congr 1
  rw [Bool.eq_iff_iff]; simp; omega
theorem brk_runs (L : List (Nat × Nat)) (hL : ∀ x ∈ L, x.1 ≤ x.2) (r : List Nat) (f : Bool) (acc : S4) (ha : acc.fit) (hf : L ≠ [] ∨ f = false) : Brk f acc (L.flatMap runT ++ 93 :: r) (.ok (runsSet acc L) r) := by
  induction L generalizing f acc with
  | nil =>
    rcases hf with hf | rfl
    · exact absurd rfl hf
    · exact .stop _ _
  | cons x t ih =>
    obtain ⟨a, b⟩ := x
    have hab : a ≤ b := hL (a, b) (by simp)
    have hd := runs_tail_head t r
    have ih' := fun acc ha => ih (fun y hy => hL y (List.mem_cons_of_mem _ hy)) false acc ha (.inr rfl)
    rw [List.flatMap_cons, List.append_assoc]
    show Brk f acc _ (.ok (runsSet (acc.or (S4.span a b)) t) r)
    have h93 := (runT_head (a, b) (t.flatMap runT ++ 93 :: r)).1
    by_cases h1 : a = b
    · subst h1
      have e : runT (a, a) = mem4 a := by simp [runT]
      rw [e] at h93 ⊢
      exact .step (.inr h93) (item_one a hd) (ih' _ (S4.or_fit ha (S4.of_fit _)))
    · by_cases h2 : b = a + 1
      · subst h2
        have e : runT (a, a + 1) = mem4 a ++ mem4 (a + 1) := by simp [runT]
        rw [e, List.append_assoc] at h93 ⊢
        refine .step (.inr h93) (item_one a (mem4_head _ _).2.1) (.step (.inr (mem4_head _ _).1) (item_one (a + 1) hd) ?_)
        rw [span_two acc ha]
        exact ih' _ (S4.or_fit ha (S4.of_fit _))
      · have e : runT (a, b) = mem4 a ++ 45 :: mem4 b := by
          unfold runT
          rw [if_pos (show a + 1 < b by omega), if_pos (show a < b by omega)]; rfl
        rw [e, List.append_assoc, List.cons_append] at h93 ⊢
        exact .step (.inr h93) (item_span a b _ hab) (ih' _ (S4.or_fit ha (S4.of_fit _)))
theorem runsSet_eq {s : S4} (h : s.fit) : runsSet .zero (runsL s.has 256) = s := by
  refine S4.ext (runsSet_fit S4.zero_fit) h fun c hc => ?_
  rw [runsSet_has hc, S4.has_zero, Bool.false_or, Bool.eq_iff_iff, List.any_eq_true]
  have := (runsL_ok s.has 256).2 c
  simp only [Bool.and_eq_true, decide_eq_true_eq]
  rw [this]
  simp [hc]
theorem escT_run (o c : Nat) (r : List Nat) : Run o .atom (escT c ++ r) (.ok (setT (S4.span c c)) r) := by
  unfold escT
  by_cases h : isEsc c = true
  · rw [if_pos h]; exact .atomLit
  · rw [if_neg h]
    simp only [isEsc, Bool.or_eq_true, beq_iff_eq, not_or] at h
    refine .atomByte ?_
    unfold atomPlain isRep
    omega
theorem brk_plain {o : Nat} {R r : List Nat} {s : S4} (hh : (R ++ 93 :: r).head? ≠ some 94) (hb : Brk true .zero (R ++ 93 :: r) (.ok s r)) : Run o .atom (91 :: (R ++ [93]) ++ r) (.ok (setT s) r) := by
  rw [List.cons_append, List.append_assoc, List.singleton_append]
  exact .atomBrk ⟨.ok s r, id, by rw [if_neg hh]; exact hb, by rw [if_neg hh], rfl⟩
theorem setTxt_run (o : Nat) {s : S4} (h : s.fit) (r : List Nat) : Run o .atom (setTxt s ++ r) (.ok (setT s) r) := by
  unfold setTxt
  have hok := (runsL_ok s.has 256).1
  have heq := runsSet_eq h
  by_cases ha : s.isAll = true
  · rw [if_pos ha, S4.isAll_eq h ha]; exact .atomAny
  · rw [if_neg ha]
    generalize hL : runsL s.has 256 = L at hok heq
    match L with
    | [] =>
      have hs : s = (S4.zero.or (S4.span 0 255)).cpl := by
        refine S4.ext h (S4.of_fit _) fun c hc => ?_
        rw [S4.has_cpl _ _ hc, S4.has_or, S4.has_zero, S4.has_span _ _ _ hc, ← heq, runsSet_has hc, S4.has_zero]
        simp; omega
      refine .atomBrk ⟨.ok (S4.zero.or (S4.span 0 255)) r, S4.cpl, .step (.inl rfl) (s := S4.span 0 255) rfl (.stop _ _), rfl, ?_⟩
      rw [hs]
    | [(a, b)] =>
      have hab := (hok (a, b) (by simp)).1
      by_cases hab' : a = b
      · subst hab'
        simp only [if_true]
        have : s = S4.span a a := by
          refine S4.ext h (S4.of_fit _) fun c hc => ?_
          rw [← heq, runsSet_has hc, S4.has_zero, S4.has_span _ _ _ hc]; simp
        rw [this]
        exact escT_run o a r
      · simp only [if_neg hab']
        have hb := brk_runs [(a, b)] (by simpa using hab) r true .zero S4.zero_fit (.inl (by simp))
        rw [heq] at hb
        simp only [List.flatMap_cons, List.flatMap_nil, List.append_nil] at hb
        have hh := (runT_head (a, b) (93 :: r)).2.2
        exact brk_plain hh hb
    | x :: y :: t =>
      have hb := brk_runs (x :: y :: t) (fun z hz => (hok z hz).1) r true .zero S4.zero_fit (.inl (by simp))
      rw [heq] at hb
      have hh : ((x :: y :: t).flatMap runT ++ 93 :: r).head? ≠ some 94 := by rw [List.flatMap_cons, List.append_assoc]; exact (runT_head x _).2.2
      exact brk_plain hh hb
end Go.Proofs.YtckgbcgmladcfaaDoor
