import Derived.Test.YtckgbcgmladcfaaDoorPtC
namespace Go.Proofs.YtckgbcgmladcfaaDoor

/-! The fixed texts of the laws' own check. -/
theorem plain_byte (c : Nat) (h : c = 97 ∨ c = 98) : atomPlain c := by
  unfold atomPlain isRep
  rcases h with rfl | rfl <;> decide
theorem brk_ba : Brkt [98, 45, 97, 93] (.no 102) := by
  refine ⟨.no 102, id, ?_, ?_, rfl⟩
  · exact .err (.inl rfl) rfl
  · rfl
theorem run_ba : Run 0 (.pat []) [91, 98, 45, 97, 93] (.no 102) :=
  .patErr (.altErr (by simp) (by simp [hd, isEnd]) (.pieceErr (.atomBrk brk_ba)))
theorem digs_of {x : List Nat} {k : Nat} (h : Digs x k) : 1 ≤ x.length ∧ (∀ c ∈ x, digit c) ∧ decv x = k := ⟨h.1, h.2.2.1, h.2.2.2⟩
theorem no_times : ∀ m n r, ¬ Times [123, 51, 44, 50, 125] m n r := by
  intro m n r h
  cases h with
  | intv h =>
    obtain ⟨x, k, hx, hk, rfl, h⟩ := h
    have hd44 : ¬ digit 44 := nodig 44 (by simp)
    have hd125 : ¬ digit 125 := nodig 125 (by simp)
    have e3 : ([51, 44, 50, 125] : List Nat) = [51] ++ 44 :: [50, 125] := rfl
    have d3 : ∀ y ∈ ([51] : List Nat), digit y := fun y hy => by simp at hy; subst hy; unfold digit; omega
    have d2 : ∀ y ∈ ([50] : List Nat), digit y := fun y hy => by simp at hy; subst hy; unfold digit; omega
    rcases h with ⟨h, _⟩ | ⟨h, _⟩ | ⟨y, j, h, hy, hkj, hj, _⟩
    · rw [e3] at h
      obtain ⟨_, h2, _⟩ := digs_split h d3 hx.2.2.1 hd44 hd125
      exact absurd h2 (by decide)
    · rw [e3] at h
      obtain ⟨_, _, h3⟩ := digs_split h d3 hx.2.2.1 hd44 hd44
      cases h3
    · rw [e3] at h
      obtain ⟨rfl, _, h3⟩ := digs_split h d3 hx.2.2.1 hd44 hd44
      have e2 : ([50, 125] : List Nat) = [50] ++ 125 :: [] := rfl
      rw [e2] at h3
      obtain ⟨rfl, _, _⟩ := digs_split h3 d2 hy.2.2.1 hd125 hd125
      have a := hx.2.2.2
      have b := hy.2.2.2
      unfold decv at a b
      simp at a b
      omega
theorem run_a32 : Run 0 (.pat []) [97, 123, 51, 44, 50, 125] (.no 105) :=
  .patErr (.altErr (by simp) (by simp [hd, isEnd]) (.pieceOk (.atomByte (plain_byte 97 (.inl rfl))) (.repErr (by simp [hd, isRep]) no_times)))
/-- The set of ] and a to c. -/
def setW : S4 := (S4.zero.or (S4.span 93 93)).or (S4.span 97 99)
theorem setW_val : setW = ⟨0, 60666413056, 0, 0⟩ := by
  have h : setW.a = 0 ∧ setW.b = 60666413056 ∧ setW.c = 0 ∧ setW.d = 0 := by decide +kernel
  obtain ⟨h1, h2, h3, h4⟩ := h
  generalize setW = t at h1 h2 h3 h4
  obtain ⟨a, b, c, d⟩ := t
  dsimp only at h1 h2 h3 h4
  subst h1 h2 h3 h4
  rfl
theorem brk_w : Brkt [93, 97, 45, 99, 93] (.ok (setT setW) []) := by
  refine ⟨.ok setW [], id, ?_, ?_, rfl⟩
  · refine .step (s := S4.span 93 93) (r := [97, 45, 99, 93]) (.inl rfl) rfl (.step (s := S4.span 97 99) (r := [93]) (.inr (by simp)) rfl (.stop _ _))
  · rfl
def abT : PT := .mk 4 .zero 0 0 [setT (S4.span 97 97), setT (S4.span 98 98)]
def workT : PT := .mk 4 .zero 0 0 [repT4 0 (-1) abT, setT setW]
theorem run_w : Run 0 (.pat []) [40, 97, 98, 41, 42, 91, 93, 97, 45, 99, 93] (.ok workT []) := by
  have hab : Run 1 (.pat []) [97, 98, 41, 42, 91, 93, 97, 45, 99, 93] (.ok abT [41, 42, 91, 93, 97, 45, 99, 93]) :=
    .patEnd (acc := []) (.altMore (by simp) (by simp [hd, isEnd]) (.pieceOk (.atomByte (plain_byte 97 (.inl rfl))) (.repEnd (by simp [hd, isRep]))) (.altMore (by simp) (by simp [hd, isEnd]) (.pieceOk (.atomByte (plain_byte 98 (.inr rfl))) (.repEnd (by simp [hd, isRep]))) (.altEnd (.inr (by simp [hd, isEnd]))))) (by simp)
  exact .patEnd (acc := []) (.altMore (by simp) (by simp [hd, isEnd]) (.pieceOk (.atomGroup (by decide) hab) (.repOk (.star _) (.repEnd (by simp [hd, isRep])))) (.altMore (by simp) (by simp [hd, isEnd]) (.pieceOk (.atomBrk brk_w) (.repEnd (by simp [hd]))) (.altEnd (.inl rfl)))) (by simp)
theorem prt_w : prt workT = [40, 97, 98, 41, 42, 91, 91, 46, 93, 46, 93, 97, 45, 99, 93] := by decide +kernel
theorem dep_w : dep workT = 1 := by decide +kernel
theorem may_w : may workT = true := by decide +kernel
theorem nodes_w : nodes workT = 6 := by decide +kernel
end Go.Proofs.YtckgbcgmladcfaaDoor
