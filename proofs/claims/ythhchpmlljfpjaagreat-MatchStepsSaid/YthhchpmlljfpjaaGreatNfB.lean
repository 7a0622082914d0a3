import Derived.Test.YthhchpmlljfpjaaGreatNfA
import Derived.Test.YthhchpmlljfpjaaGreatPuA
namespace Go.Proofs.YthhchpmlljfpjaaGreat

/-! How many states there are, counted no further than one past the limit; trees without great repeats. -/
def cut (x : Nat) : Nat := min x 4097
def cutL : List PT → Nat
  | [] => 0
  | t :: ts => cut (cnt t) + cutL ts
theorem cutL_cases (ps : List PT) : cutL ps = cntL ps ∨ (4097 ≤ cutL ps ∧ 4097 ≤ cntL ps) := by
  induction ps with
  | nil => exact .inl (by rw [cutL, cntL])
  | cons t ts ih => rw [cutL, cntL]; unfold cut; omega
theorem cutL_app (a b : List PT) : cutL (a ++ b) = cutL a + cutL b := by
  induction a with
  | nil => simp [cutL]
  | cons t ts ih => rw [List.cons_append, cutL, cutL, ih]; omega
theorem cutL_take (ps : List NT) {i : Nat} (h : i < ps.length) : cutL ((ps.map NT.pt).take (i + 1)) = cutL ((ps.map NT.pt).take i) + cut (cnt (ps[i]).pt) := by
  rw [take_mapP h, cutL_app, cutL, cutL]
  omega
theorem cutL_le (ps : List PT) : cutL ps ≤ 4097 * ps.length := by
  induction ps with
  | nil => simp [cutL]
  | cons t ts ih => rw [cutL, List.length_cons]; unfold cut; omega
theorem cut_row (ps : List PT) : cut (cutL ps) = cut (cntL ps) := by have := cutL_cases ps; unfold cut; omega
theorem cut_choice (ps : List PT) (h : 2 ≤ ps.length) : cut (cutL ps + ps.length - 1) = cut (cntL ps + ps.length - 1) := by have := cutL_cases ps; unfold cut; omega
theorem cut_rep (a m c : Nat) : cut (a * (cut c + 1) + m * cut c) = cut (a * (c + 1) + m * c) := by
  by_cases h : c ≤ 4097
  · have : cut c = c := by unfold cut; omega
    rw [this]
  · have hc : cut c = 4097 := by unfold cut; omega
    rw [hc]
    rcases Nat.eq_zero_or_pos a with rfl | ha
    · rcases Nat.eq_zero_or_pos m with rfl | hm
      · simp
      · have h1 : 1 * 4097 ≤ m * 4097 := Nat.mul_le_mul_right _ hm
        have h2 : 1 * c ≤ m * c := Nat.mul_le_mul_right _ hm
        unfold cut
        omega
    · have h1 : 1 * (4097 + 1) ≤ a * (4097 + 1) := Nat.mul_le_mul_right _ ha
      have h2 : 1 * (c + 1) ≤ a * (c + 1) := Nat.mul_le_mul_right _ ha
      unfold cut
      omega
/-- No great repeats. -/
def lowK (k m n : Int) : Bool := !(k == 6 && (decide (1 < m) || decide (1 < n) || (m == 1 && n == -1)))
mutual
def low : PT → Bool
  | .mk k _ m n ps => lowK k m n && lowL ps
def lowL : List PT → Bool
  | [] => true
  | t :: ts => low t && lowL ts
end
theorem lowL_mem {ps : List PT} (h : lowL ps = true) : ∀ t ∈ ps, low t = true := by
  induction ps with
  | nil => intro t ht; cases ht
  | cons a l ih =>
    rw [lowL, Bool.and_eq_true] at h
    intro t ht
    exact (List.mem_cons.1 ht).elim (fun e => e ▸ h.1) (fun ht => ih h.2 t ht)
theorem lowL_app (a b : List PT) : lowL (a ++ b) = (lowL a && lowL b) := by
  induction a with
  | nil => rfl
  | cons t ts ih => rw [List.cons_append, lowL, lowL, ih, Bool.and_assoc]
theorem lowL_take {ps : List NT} {i : Nat} (h : i < ps.length) : lowL ((ps.map NT.pt).take (i + 1)) = (lowL ((ps.map NT.pt).take i) && low (ps[i]).pt) := by
  rw [take_mapP h, lowL_app, lowL, lowL, Bool.and_true]
theorem lowL_not {l : List PT} {i : Nat} (h : lowL (l.take i) = false) : lowL l = false := by
  have := lowL_app (l.take i) (l.drop i)
  rw [List.take_append_drop, h] at this
  simpa using this
theorem low_cnt (t : PT) : may t = true → low t = true → cnt t + 1 ≤ 2 * nodes t := by
  induction t using PT.ind with
  | h k s m n ps ih =>
    rw [may, low, Bool.and_eq_true, Bool.and_eq_true]
    rintro ⟨hfit, hmay⟩ ⟨hlow, hlows⟩
    have hL : cntL ps + ps.length ≤ 2 * nodesL ps := by
      clear hfit hlow
      induction ps with
      | nil => simp [cntL, nodesL]
      | cons t ts ih2 =>
        have h1 := ih t (by simp) (mayL_mem hmay t (by simp)) (lowL_mem hlows t (by simp))
        rw [mayL, Bool.and_eq_true] at hmay
        rw [lowL, Bool.and_eq_true] at hlows
        have h2 := ih2 (fun u hu => ih u (List.mem_cons_of_mem _ hu)) hmay.2 hlows.2
        rw [cntL, nodesL, List.length_cons]
        omega
    rw [cnt, nodes]
    split
    · omega
    · split
      · omega
      · split
        · omega
        · split
          · rename_i h6
            subst h6
            unfold fitT at hfit
            simp [itv] at hfit
            have hl : ps.length = 1 := hfit.2.1
            match ps, hl with
            | [p], _ =>
              rw [cntL, cntL, nodesL, nodesL] at hL
              rw [cntR, nodesL, nodesL]
              unfold lowK at hlow
              unfold again
              simp at hlow
              have hm : m = 0 ∨ m = 1 := by omega
              rcases hm with rfl | rfl
              · split
                · simp; omega
                · have hn : n = 0 ∨ n = 1 := by omega
                  rcases hn with rfl | rfl <;> simp <;> omega
              · have hn : n = 1 := by omega
                subst hn
                simp
                omega
          · omega
end Go.Proofs.YthhchpmlljfpjaaGreat
