import Derived.Test.YtboebadpohjolaaNfA
namespace Go.Proofs.Ytboebadpohjolaa

/-! What is laid stands behind what was laid: no state that stood before is turned. -/
def Behind (f : Nat → List St → List St × Nat) : Prop := ∀ q L, L <+: (f q L).1
theorem splits_behind : ∀ (bs : List Nat) (L : List St) (x : Nat), L <+: (splits bs L x).1
  | [], L, _ => List.prefix_refl L
  | b :: bs, L, x => by rw [splits]; exact (List.prefix_append L _).trans (splits_behind bs _ _)
theorem perh_behind {f : Nat → List St → List St × Nat} (hf : Behind f) (out : Nat) : ∀ (n : Nat) (L : List St) (q : Nat), L <+: (perhF f out n L q).1
  | 0, L, _ => List.prefix_refl L
  | n + 1, L, q => by rw [perhF]; exact (hf q L).trans ((List.prefix_append _ _).trans (perh_behind hf out n _ _))
theorem times_behind {f : Nat → List St → List St × Nat} (hf : Behind f) : ∀ (n : Nat) (L : List St) (q : Nat), L <+: (timesF f n L q).1
  | 0, L, _ => List.prefix_refl L
  | n + 1, L, q => by
    rw [timesF]
    split
    · exact hf q L
    · exact (hf q L).trans (times_behind hf n _ _)
theorem round_split {f : Nat → List St → List St × Nat} (hf : Behind f) (L : List St) (q : Nat) : ∃ M, (f L.length (L ++ [splitS 0 q])).1 = L ++ splitS 0 q :: M := by
  obtain ⟨M, h⟩ := hf L.length (L ++ [splitS 0 q])
  exact ⟨M, by rw [← h]; simp⟩
theorem round_turns {f : Nat → List St → List St × Nat} {L M : List St} {q : Nat} (h : (f L.length (L ++ [splitS 0 q])).1 = L ++ splitS 0 q :: M) : roundF f L q = (L ++ splitS (f L.length (L ++ [splitS 0 q])).2 q :: M, L.length) := by
  unfold roundF
  rw [h, List.set_append_right _ _ (Nat.le_refl _), Nat.sub_self]
  rfl
theorem round_behind {f : Nat → List St → List St × Nat} (hf : Behind f) (L : List St) (q : Nat) : L <+: (roundF f L q).1 := by
  obtain ⟨M, h⟩ := round_split hf L q
  rw [round_turns h]
  exact List.prefix_append L _
theorem rep_behind {f : Nat → List St → List St × Nat} (hf : Behind f) (m n : Int) : Behind (repF f m n) := by
  intro q L
  unfold repF
  split
  · exact (round_behind hf L q).trans (times_behind hf _ _ _)
  · exact (perh_behind hf _ _ L q).trans (times_behind hf _ _ _)
theorem layAll_behind (ps : List PT) (hp : ∀ t ∈ ps, Behind (layT t)) : ∀ q L, L <+: (layAll ps q L).1 := by
  induction ps with
  | nil => intro q L; rw [layAll]; exact List.prefix_refl L
  | cons t ts ih =>
    intro q L
    rw [layAll]
    exact (hp t (by simp) q L).trans (ih (fun u hu => hp u (List.mem_cons_of_mem _ hu)) q _)
theorem layRow_behind (ps : List PT) (hp : ∀ t ∈ ps, Behind (layT t)) : Behind (layRow ps) := by
  induction ps with
  | nil => intro q L; rw [layRow]; exact List.prefix_refl L
  | cons t ts ih =>
    intro q L
    rw [layRow]
    exact (ih (fun u hu => hp u (List.mem_cons_of_mem _ hu)) q L).trans (hp t (by simp) _ _)
theorem lay_behind (t : PT) : Behind (layT t) := by
  induction t using PT.ind with
  | h k s m n ps ih =>
    intro q L
    rw [layT_eq]
    split
    · exact List.prefix_append L _
    · split
      · exact List.prefix_append L _
      · split
        · exact List.prefix_append L _
        · split
          · exact layRow_behind ps ih q L
          · split
            · unfold choose
              split
              · exact layAll_behind ps ih q L
              · exact (layAll_behind ps ih q L).trans (splits_behind _ _ _)
            · split
              · cases ps with
                | nil => rw [layRep]; exact List.prefix_refl L
                | cons p r => rw [layRep]; exact rep_behind (ih p (by simp)) m n q L
              · exact List.prefix_refl L
end Go.Proofs.Ytboebadpohjolaa
