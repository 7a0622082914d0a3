import Derived.Test.YthhchpmlljfpjaaGreatPtA
namespace Go.Proofs.YthhchpmlljfpjaaGreat

/-! Trees as texts. -/
theorem PT.ind {P : PT → Prop} (h : ∀ k s m n ps, (∀ t ∈ ps, P t) → P (.mk k s m n ps)) (t : PT) : P t :=
  PT.rec (motive_1 := P) (motive_2 := fun ps => ∀ t ∈ ps, P t) (fun k s m n ps ih => h k s m n ps ih) (fun _ ht => by cases ht) (fun _ _ h1 h2 t ht => by exact (List.mem_cons.1 ht).elim (fun e => e ▸ h1) (fun ht => h2 t ht)) t
def S4.isZ (s : S4) : Bool := s.a == 0 && (s.b == 0 && (s.c == 0 && s.d == 0))
def itv (m n : Int) : Bool := decide (0 ≤ m) && decide (m ≤ 255) && (n == -1 || (decide (m ≤ n) && decide (n ≤ 255)))
def fitT (k : Int) (s : S4) (m n : Int) (len : Nat) : Bool :=
  (k == 1 || s.isZ) && ((k == 6 || (m == 0 && n == 0)) && if k = 0 ∨ k = 1 ∨ k = 2 ∨ k = 3 then len == 0 else if k = 4 ∨ k = 5 then decide (2 ≤ len) else if k = 6 then len == 1 && itv m n else false)
mutual
def may : PT → Bool
  | .mk k s m n ps => fitT k s m n ps.length && mayL ps
def mayL : List PT → Bool
  | [] => true
  | t :: ts => may t && mayL ts
end
mutual
def nodes : PT → Nat
  | .mk _ _ _ _ ps => 1 + nodesL ps
def nodesL : List PT → Nat
  | [] => 0
  | t :: ts => nodes t + nodesL ts
end
mutual
/-- All sets are four words. -/
def setsOk : PT → Prop
  | .mk _ s _ _ ps => s.fit ∧ setsOkL ps
def setsOkL : List PT → Prop
  | [] => True
  | t :: ts => setsOk t ∧ setsOkL ts
end
theorem mayL_mem {ps : List PT} (h : mayL ps = true) : ∀ t ∈ ps, may t = true := by
  induction ps with
  | nil => intro t ht; cases ht
  | cons a l ih =>
    rw [mayL, Bool.and_eq_true] at h
    intro t ht
    exact (List.mem_cons.1 ht).elim (fun e => e ▸ h.1) (fun ht => ih h.2 t ht)
theorem setsOkL_mem {ps : List PT} (h : setsOkL ps) : ∀ t ∈ ps, setsOk t := by
  induction ps with
  | nil => intro t ht; cases ht
  | cons a l ih =>
    rw [setsOkL] at h
    intro t ht
    exact (List.mem_cons.1 ht).elim (fun e => e ▸ h.1) (fun ht => ih h.2 t ht)
/-! The runs of a set are its bytes. -/
/-! A set's text is read as that set. -/
theorem item_other {l : List Nat} (h1 : ∀ t, l ≠ 91 :: 58 :: t) (h2 : ∀ t, l ≠ 91 :: 61 :: t) : item l = match memb false l with
    | none => .no 101
    | some (c, 45 :: r) => if r.head? = some 93 then .ok (S4.span c c) (45 :: r) else match memb true r with
      | none => .no 101
      | some (d, r') => if d < c then .no 102 else .ok (S4.span c d) r'
    | some (c, r) => .ok (S4.span c c) r := by
  unfold item
  split
  · exact absurd rfl (h1 _)
  · exact absurd rfl (h2 _)
  · rfl
end Go.Proofs.YthhchpmlljfpjaaGreat
