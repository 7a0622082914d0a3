import Derived.Test.YtfjhmnbbjknflaaGreatDoorFn
namespace Go.Proofs.YtfjhmnbbjknflaaGreatDoor
open Go.RowKit

def angs : List (Nat × Nat × Nat × Nat) := ang0 ++ (ang1 ++ (ang2 ++ (ang3 ++ (ang4 ++ (ang5 ++ (ang6 ++ ang7))))))
theorem anglesF_append (l m : List (Nat × Nat × Nat × Nat)) : anglesF (l ++ m) = (anglesF l && anglesF m) := by
  induction l with
  | nil => simp [anglesF]
  | cons r l ih => obtain ⟨x, j, s, c⟩ := r; simp only [List.cons_append, anglesF, ih, Bool.and_assoc]
theorem angs_ok : anglesF angs = true := by
  unfold angs
  simp only [anglesF_append, ang0_ok, ang1_ok, ang2_ok, ang3_ok, ang4_ok, ang5_ok, ang6_ok, ang7_ok, Bool.and_true]
theorem anglesF_get : ∀ (l : List (Nat × Nat × Nat × Nat)), anglesF l = true → ∀ r, r ∈ l → angleF r.1 r.2.1 r.2.2.1 r.2.2.2 = true := by
  intro l
  induction l with
  | nil => intro _ r hr; cases hr
  | cons q l ih =>
    obtain ⟨x, j, s, c⟩ := q
    intro h r hr
    simp only [anglesF, Bool.and_eq_true] at h
    rcases List.mem_cons.1 hr with rfl | hr
    · exact h.1
    · exact ih h.2 r hr
/-- The i-th angle of 2^s stands in the list, with the table's parts; the first one is 0. -/
def linkOk (l : List (Nat × Nat × Nat × Nat)) (s i : Nat) : Bool :=
  match floatBits .mul .f64 4618760256179416344 (FF.fi i) with
  | some a => match floatBits .quo .f64 a (FF.fi (2 ^ s)) with
    | some x => match i with
      | 0 => Nat.beq x 0
      | k + 1 => match l[(k + 1) * 2 ^ (10 - s) - 1]? with
        | some r => Nat.beq r.1 x && Nat.beq r.2.2.1 (FF.R0 ((k + 1) * 2 ^ (10 - s))).2 && Nat.beq r.2.2.2 (FF.R0 ((k + 1) * 2 ^ (10 - s))).1
        | none => false
    | none => false
  | none => false
theorem links8 : ((List.range 128).all fun i => linkOk angs 8 i) = true := by decide +kernel
theorem links9 : ((List.range 256).all fun i => linkOk angs 9 i) = true := by decide +kernel
theorem links10 : ((List.range 512).all fun i => linkOk angs 10 i) = true := by decide +kernel
theorem R0_zero : FF.R0 0 = (4607182418800017408, 0) := by decide +kernel
theorem fneg_fneg (c : Nat) : FF.fneg (FF.fneg c) = c := by unfold FF.fneg; rw [Nat.xor_assoc, Nat.xor_self, Nat.xor_zero]
theorem sc_of_angle {x j s c : Nat} (hx : x ≠ 0) (h : angleF x j s c = true) : okArg x = true ∧ scOf x = some (s, c) := by
  unfold angleF at h
  simp only [Bool.and_eq_true, decide_eq_true_eq] at h
  obtain ⟨⟨⟨h1, h2⟩, h3⟩, h4⟩ := h
  refine ⟨h1, ?_⟩
  have h4 := sameW_eq h4
  rw [restF_eq] at h4
  unfold scOf
  rw [if_neg hx]
  split at h2
  · rename_i m1 hm
    rw [hm]
    have h2 : floatToIntVal .f64 m1 .u64 = some (j : Int) := by simpa using h2
    have hj : j = 0 ∨ j = 1 ∨ j = 2 ∨ j = 3 := by omega
    show (match floatToIntVal .f64 m1 .u64 with | some 0 => _ | some 1 => _ | some 2 => _ | some 3 => _ | _ => _) = _
    rw [h2]
    rcases hj with rfl | rfl | rfl | rfl
    · exact h4
    · have h5 : (scRest x 4611686018427387904).bind scTail = some (FF.fneg c, s) := h4
      show ((scRest x 4611686018427387904).bind scTail).map _ = _
      rw [h5]; simp [fneg_fneg]
    · have h5 : (scRest x 4611686018427387904).bind scTail = some (FF.fneg c, s) := h4
      show ((scRest x 4611686018427387904).bind scTail).map _ = _
      rw [h5]; simp [fneg_fneg]
    · have h5 : (scRest x 4616189618054758400).bind scTail = some (FF.fneg s, FF.fneg c) := h4
      show ((scRest x 4616189618054758400).bind scTail).map _ = _
      rw [h5]; simp [fneg_fneg]
  · cases h2
theorem angle_ok {s i : Nat} (hs : 8 ≤ s) (hs2 : s ≤ 10) (hi : i < 2 ^ (s - 1)) : ∃ a x, floatBits .mul .f64 4618760256179416344 (FF.fi i) = some a ∧ floatBits .quo .f64 a (FF.fi (2 ^ s)) = some x ∧ (x = 0 ∨ okArg x = true) ∧ scOf x = some ((FF.R0 (i * 2 ^ (10 - s))).2, (FF.R0 (i * 2 ^ (10 - s))).1) := by
  have h : linkOk angs s i = true := by
    have hs : s = 8 ∨ s = 9 ∨ s = 10 := by omega
    rcases hs with rfl | rfl | rfl
    · exact List.all_eq_true.1 links8 i (List.mem_range.2 hi)
    · exact List.all_eq_true.1 links9 i (List.mem_range.2 hi)
    · exact List.all_eq_true.1 links10 i (List.mem_range.2 hi)
  unfold linkOk at h
  split at h
  · rename_i a ha
    split at h
    · rename_i x hx
      refine ⟨a, x, ha, hx, ?_⟩
      cases i with
      | zero =>
        have : x = 0 := Nat.eq_of_beq_eq_true h
        subst this
        refine ⟨Or.inl rfl, ?_⟩
        rw [Nat.zero_mul, R0_zero]; rfl
      | succ k =>
        dsimp only at h
        split at h
        · rename_i r hr
          simp only [Bool.and_eq_true] at h
          obtain ⟨⟨e1, e2⟩, e3⟩ := h
          have e1 := Nat.eq_of_beq_eq_true e1
          have e2 := Nat.eq_of_beq_eq_true e2
          have e3 := Nat.eq_of_beq_eq_true e3
          have hm := anglesF_get angs angs_ok r (List.mem_of_getElem? hr)
          rw [e1, e2, e3] at hm
          have hx0 : x ≠ 0 := by
            intro h0
            subst h0
            have hz : okArg 0 = false := by decide +kernel
            unfold angleF at hm
            rw [hz] at hm
            simp at hm
          obtain ⟨o1, o2⟩ := sc_of_angle hx0 hm
          exact ⟨Or.inr o1, o2⟩
        · cases h
    · cases h
  · cases h
end Go.Proofs.YtfjhmnbbjknflaaGreatDoor
