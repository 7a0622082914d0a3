import Derived.Test.YtckgbcgmladcfaaDoorPtB
namespace Go.Proofs.YtckgbcgmladcfaaDoor

/-! What is printed is read as the same tree. -/
def begOk (c : Nat) : Prop := ¬ isRep c ∧ ¬ isEnd c
theorem hd_app {p : Nat → Prop} {a r : List Nat} (h : hd p a) : hd p (a ++ r) := by
  cases a with
  | nil => exact h.elim
  | cons c t => exact h
theorem escT_head (c : Nat) : hd begOk (escT c) := by
  unfold escT
  by_cases h : isEsc c = true
  · rw [if_pos h]; simp [hd, begOk, isRep, isEnd]
  · rw [if_neg h]
    simp only [isEsc, Bool.or_eq_true, beq_iff_eq, not_or] at h
    simp only [hd, begOk, isRep, isEnd]
    omega
theorem setTxt_head (s : S4) : hd begOk (setTxt s) := by
  unfold setTxt
  split
  · simp [hd, begOk, isRep, isEnd]
  · split
    · simp [hd, begOk, isRep, isEnd]
    · split
      · exact escT_head _
      · simp [hd, begOk, isRep, isEnd]
    · simp [hd, begOk, isRep, isEnd]
theorem fitT_parts {k : Int} {s : S4} {m n : Int} {len : Nat} (h : fitT k s m n len = true) :
    (k = 1 ∨ s = .zero) ∧ (k = 6 ∨ (m = 0 ∧ n = 0)) ∧ (((k = 0 ∨ k = 1 ∨ k = 2 ∨ k = 3) ∧ len = 0) ∨ ((k = 4 ∨ k = 5) ∧ 2 ≤ len) ∨ (k = 6 ∧ len = 1 ∧ itv m n = true)) := by
  unfold fitT at h
  simp only [Bool.and_eq_true, Bool.or_eq_true, beq_iff_eq] at h
  obtain ⟨h1, h2, h3⟩ := h
  refine ⟨h1.imp id S4.isZ_eq, h2, ?_⟩
  split at h3
  · exact .inl ⟨by assumption, by simpa using h3⟩
  · split at h3
    · exact .inr (.inl ⟨by assumption, by simpa using h3⟩)
    · split at h3
      · simp only [Bool.and_eq_true, beq_iff_eq] at h3
        exact .inr (.inr ⟨by assumption, h3.1, h3.2⟩)
      · cases h3
theorem prt_head (t : PT) : may t = true → pieceK t.kind = true → hd begOk (prt t) := by
  induction t using PT.ind with
  | h k s m n ps ih =>
    intro h hk
    rw [may, Bool.and_eq_true] at h
    obtain ⟨_, _, h3⟩ := fitT_parts h.1
    rw [prt]
    by_cases h1 : k = 1
    · rw [if_pos h1]; exact setTxt_head s
    · rw [if_neg h1]
      by_cases h2 : k = 2
      · rw [if_pos h2]; simp [hd, begOk, isRep, isEnd]
      · rw [if_neg h2]
        by_cases h4 : k = 3
        · rw [if_pos h4]; simp [hd, begOk, isRep, isEnd]
        · have h6 : k = 6 := by
            simp [PT.kind, pieceK] at hk
            omega
          have hl : ps.length = 1 := by omega
          subst h6
          match ps, hl with
          | [p], _ =>
            simp only [if_neg (show ¬ (6 : Int) = 4 by decide), if_neg (show ¬ (6 : Int) = 5 by decide), if_pos, prtL, List.append_nil, List.nil_append]
            refine hd_app ?_
            unfold grpT
            by_cases hp : pieceK p.kind = true
            · simp only [hp, Bool.not_true, Bool.false_eq_true, if_false]
              exact ih p (by simp) (mayL_mem h.2 p (by simp)) hp
            · simp only [hp, Bool.not_false, if_true]
              simp [hd, begOk, isRep, isEnd]
theorem grp_head {t : PT} (h : may t = true) {g : Bool} (hg : g = true ∨ pieceK t.kind = true) : hd begOk (grpT g (prt t)) := by
  unfold grpT
  cases g with
  | true => simp [hd, begOk, isRep, isEnd]
  | false =>
    rcases hg with hg | hg
    · cases hg
    · exact prt_head t h hg
theorem not_rep_of {r : List Nat} (h : r = [] ∨ hd begOk r ∨ hd isEnd r) : ¬ hd isRep r := by
  cases r with
  | nil => exact id
  | cons c t =>
    simp only [hd, begOk, isEnd, isRep] at *
    rcases h with h | h | h
    · cases h
    · exact h.1
    · omega
theorem ne_of_hd {p : Nat → Prop} {r : List Nat} (h : hd p r) : r ≠ [] := by
  rintro rfl
  exact h
theorem beg_not_end {r : List Nat} (h : hd begOk r) : ¬ hd isEnd r := by
  cases r with
  | nil => exact id
  | cons c t => exact h.2

theorem dec3_digs (n : Nat) (h : n ≤ 255) : Digs (dec3 n) n := by
  have key : ∀ n, n < 256 → (1 ≤ (dec3 n).length ∧ (dec3 n).length ≤ 3 ∧ (∀ c ∈ dec3 n, digit c) ∧ decv (dec3 n) = n) := by
    intro n hn
    unfold dec3
    split
    · simp [digit, decv]; omega
    · split
      · simp [digit, decv]; omega
      · simp [digit, decv]; omega
  exact key n (by omega)
theorem sign_run {m n : Int} (h : itv m n = true) (r : List Nat) : Times (signT m n ++ r) m n r := by
  unfold itv at h
  simp only [Bool.and_eq_true, Bool.or_eq_true, decide_eq_true_eq, beq_iff_eq] at h
  unfold signT
  by_cases h1 : m = 0 ∧ n = -1
  · rw [if_pos h1, h1.1, h1.2]; exact .star r
  · rw [if_neg h1]
    by_cases h2 : m = 1 ∧ n = -1
    · rw [if_pos h2, h2.1, h2.2]; exact .plus r
    · rw [if_neg h2]
      by_cases h3 : m = 0 ∧ n = 1
      · rw [if_pos h3, h3.1, h3.2]; exact .may r
      · rw [if_neg h3]
        refine .intv ⟨dec3 m.toNat, m.toNat, dec3_digs _ (by omega), by omega, by omega, ?_⟩
        by_cases e1 : n = m
        · left
          simp [e1]
        · right
          by_cases e2 : n = -1
          · left
            have e3 : ¬ (-1 = m) := by omega
            simp [e2, e3]
          · right
            refine ⟨dec3 n.toNat, n.toNat, ?_, dec3_digs _ (by omega), by omega, by omega, by omega⟩
            simp [e1, e2]
/-- What is claimed of a tree's text. -/
def Reads (t : PT) : Prop :=
  (pieceK t.kind = true → ∀ o r res, o + dep t ≤ 64 → Run o (.rep t) r res → Run o .piece (prt t ++ r) res) ∧
  (choiceK t.kind = false → ∀ o r, (r = [] ∨ hd isEnd r) → o + dep t ≤ 64 → Run o (.alt []) (prt t ++ r) (.ok t r)) ∧
  ∀ o r, (r = [] ∨ hd (· = 41) r) → o + dep t ≤ 64 → Run o (.pat []) (prt t ++ r) (.ok t r)
theorem pat_of_alt {o : Nat} {l r : List Nat} {t : PT} (h : Run o (.alt []) l (.ok t r)) (hr : r = [] ∨ hd (· = 41) r) : Run o (.pat []) l (.ok t r) := by
  have := Run.patEnd (acc := []) h (by
    rcases hr with rfl | hr
    · simp
    · cases r with
      | nil => simp
      | cons c t => simp [hd] at hr; simp [hr])
  simpa [joinT] using this
theorem alt_of_piece {o : Nat} {l r : List Nat} {t : PT} (hl : hd begOk l) (h : Run o .piece l (.ok t r)) (hr : r = [] ∨ hd isEnd r) : Run o (.alt []) l (.ok t r) := by
  have := Run.altMore (acc := []) (ne_of_hd hl) (beg_not_end hl) h (.altEnd hr)
  simpa [joinT] using this
/-- A part in a row, under a repetition: in parentheses, where it must be. -/
theorem part_run {t : PT} (h : Reads t) {o : Nat} {r : List Nat} {res : Res PT} (hd : o + (dep t + if !pieceK t.kind then 1 else 0) ≤ 64) (hr : Run o (.rep t) r res) : Run o .piece (grpT (!pieceK t.kind) (prt t) ++ r) res := by
  unfold grpT
  by_cases hp : pieceK t.kind = true
  · simp only [hp, Bool.not_true, Bool.false_eq_true, if_false] at hd ⊢
    exact h.1 hp o r res (by omega) hr
  · simp only [hp, Bool.not_false, if_true] at hd ⊢
    rw [List.cons_append, List.append_assoc, List.singleton_append]
    exact .pieceOk (.atomGroup (by omega) (h.2.2 (o + 1) (41 :: r) (.inr rfl) (by omega))) hr
theorem row_run {o : Nat} {r : List Nat} (hr : r = [] ∨ hd isEnd r) (ps : List PT) (h : ∀ t ∈ ps, Reads t) (hm : ∀ t ∈ ps, may t = true) (f : Bool) (acc : List PT) (hd : o + depL (fun k => !pieceK k) ps ≤ 64) :
    Run o (.alt acc) (prtL (fun k => !pieceK k) [] f ps ++ r) (.ok (joinT 4 (acc ++ ps)) r) := by
  induction ps generalizing acc f with
  | nil => simp only [prtL, List.nil_append, List.append_nil]; exact .altEnd hr
  | cons t ts ih =>
    have hdt := depL_mem (g := fun k => !pieceK k) (ps := t :: ts) t (by simp)
    have hdl : depL (fun k => !pieceK k) ts ≤ depL (fun k => !pieceK k) (t :: ts) := by rw [depL]; exact Nat.le_max_right _ _
    have ih' := ih (fun t ht => h t (List.mem_cons_of_mem _ ht)) (fun t ht => hm t (List.mem_cons_of_mem _ ht)) false (acc ++ [t]) (by omega)
    rw [prtL]
    simp only [ite_self, List.nil_append]
    rw [List.append_assoc]
    have hh : Proofs.YtckgbcgmladcfaaDoor.hd begOk (grpT (!pieceK t.kind) (prt t)) := grp_head (hm t (by simp)) (by cases pieceK t.kind <;> simp)
    have hn : ¬ Proofs.YtckgbcgmladcfaaDoor.hd isRep (prtL (fun k => !pieceK k) [] false ts ++ r) := by
      cases ts with
      | nil => simp only [prtL, List.nil_append]; exact not_rep_of (hr.elim .inl (fun h => .inr (.inr h)))
      | cons u us =>
        refine not_rep_of (.inr (.inl ?_))
        rw [prtL]
        simp only [ite_self, List.nil_append]
        exact hd_app (hd_app (grp_head (hm u (by simp)) (by cases pieceK u.kind <;> simp)))
    refine .altMore (ne_of_hd (hd_app hh)) (beg_not_end (hd_app hh)) (part_run (h t (by simp)) (by omega) (.repEnd hn)) ?_
    simpa using ih'
theorem choice_run {o : Nat} {r : List Nat} (hr : r = [] ∨ hd (· = 41) r) (ps : List PT) (h : ∀ t ∈ ps, Reads t) (hm : ∀ t ∈ ps, may t = true) (hne : ps ≠ []) (acc : List PT) (hd : o + depL choiceK ps ≤ 64) :
    Run o (.pat acc) (prtL choiceK [124] true ps ++ r) (.ok (joinT 5 (acc ++ ps)) r) := by
  induction ps generalizing acc with
  | nil => exact absurd rfl hne
  | cons t ts ih =>
    have hdt := depL_mem (g := choiceK) (ps := t :: ts) t (by simp)
    have hdl : depL choiceK ts ≤ depL choiceK (t :: ts) := by rw [depL]; exact Nat.le_max_right _ _
    have alt : ∀ R, (R = [] ∨ Proofs.YtckgbcgmladcfaaDoor.hd isEnd R) → Run o (.alt []) (grpT (choiceK t.kind) (prt t) ++ R) (.ok t R) := by
      intro R hR
      have ht := h t (by simp)
      by_cases hc : choiceK t.kind = true
      · have hp : pieceK t.kind = false := by simp [choiceK] at hc; simp [pieceK, hc]
        have := part_run ht (o := o) (r := R) (by rw [hp]; rw [hc] at hdt; simp at hdt ⊢; omega) (.repEnd (not_rep_of (hR.elim .inl (fun h => .inr (.inr h)))))
        rw [hp] at this
        rw [hc]
        refine alt_of_piece ?_ this hR
        simp [grpT, Proofs.YtckgbcgmladcfaaDoor.hd, begOk, isRep, isEnd]
      · simp only [Bool.not_eq_true] at hc
        rw [hc]
        exact ht.2.1 hc o R hR (by rw [hc] at hdt; simp at hdt; omega)
    rw [prtL]
    simp only [if_true, List.nil_append]
    rw [List.append_assoc]
    cases ts with
    | nil =>
      have hr2 : r = [] ∨ Proofs.YtckgbcgmladcfaaDoor.hd isEnd r := by
        rcases hr with hr | hr
        · exact .inl hr
        · cases r with
          | nil => exact .inl rfl
          | cons c u => exact .inr (.inr hr)
      have := Run.patEnd (acc := acc) (alt r hr2) (by
        rcases hr with rfl | hr
        · simp
        · cases r with
          | nil => simp
          | cons c t => simp [Proofs.YtckgbcgmladcfaaDoor.hd] at hr; simp [hr])
      simpa [prtL] using this
    | cons u us =>
      have ih' := ih (fun t ht => h t (List.mem_cons_of_mem _ ht)) (fun t ht => hm t (List.mem_cons_of_mem _ ht)) (by simp) (acc ++ [t]) (by omega)
      have e : prtL choiceK [124] false (u :: us) ++ r = 124 :: (prtL choiceK [124] true (u :: us) ++ r) := by
        rw [prtL, prtL]; simp
      rw [e]
      refine .patMore (alt _ (.inr (.inl rfl))) ?_
      simpa using ih'
theorem reads_any (t : PT) : may t = true → setsOk t → Reads t := by
  induction t using PT.ind with
  | h k s m n ps ih =>
    intro h hs
    rw [may, Bool.and_eq_true] at h
    rw [setsOk] at hs
    have hm := mayL_mem h.2
    have hR : ∀ t ∈ ps, Reads t := fun t ht => ih t ht (hm t ht) (setsOkL_mem hs.2 t ht)
    have hmay : may (.mk k s m n ps) = true := by rw [may, Bool.and_eq_true]; exact h
    obtain ⟨f1, f2, f3⟩ := fitT_parts h.1
    -- pieces
    have A : pieceK k = true → ∀ o r res, o + dep (.mk k s m n ps) ≤ 64 → Run o (.rep (.mk k s m n ps)) r res → Run o .piece (prt (.mk k s m n ps) ++ r) res := by
      intro hk o r res hd hr
      have hk' : k ≠ 0 ∧ k ≠ 4 ∧ k ≠ 5 := by simp [pieceK] at hk; omega
      rw [prt]
      by_cases h1 : k = 1
      · subst h1
        obtain rfl : ps = [] := by
          rcases f3 with ⟨_, h⟩ | ⟨h, _⟩ | ⟨h, _⟩
          · exact List.eq_nil_of_length_eq_zero h
          · omega
          · omega
        obtain ⟨rfl, rfl⟩ : m = 0 ∧ n = 0 := by omega
        rw [if_pos rfl]
        exact .pieceOk (setTxt_run o hs.1 r) hr
      · obtain rfl : s = .zero := f1.resolve_left h1
        rw [if_neg h1]
        by_cases h2 : k = 2
        · subst h2
          obtain rfl : ps = [] := by
            rcases f3 with ⟨_, h⟩ | ⟨h, _⟩ | ⟨h, _⟩
            · exact List.eq_nil_of_length_eq_zero h
            · omega
            · omega
          obtain ⟨rfl, rfl⟩ : m = 0 ∧ n = 0 := by omega
          rw [if_pos rfl]
          exact .pieceOk .atomBegin hr
        · rw [if_neg h2]
          by_cases h3 : k = 3
          · subst h3
            obtain rfl : ps = [] := by
              rcases f3 with ⟨_, h⟩ | ⟨h, _⟩ | ⟨h, _⟩
              · exact List.eq_nil_of_length_eq_zero h
              · omega
              · omega
            obtain ⟨rfl, rfl⟩ : m = 0 ∧ n = 0 := by omega
            rw [if_pos rfl]
            exact .pieceOk .atomEnd hr
          · obtain ⟨rfl, hl, hi⟩ : k = 6 ∧ ps.length = 1 ∧ itv m n = true := by
              rcases f3 with ⟨h, _⟩ | ⟨h, _⟩ | h
              · omega
              · omega
              · exact h
            match ps, hl with
            | [p], _ =>
              rw [if_neg h3, if_neg (by decide), if_neg (by decide), if_pos rfl]
              rw [dep, if_pos (.inr rfl)] at hd
              have hdt := depL_mem (g := fun k => !pieceK k) (ps := [p]) p (by simp)
              rw [List.append_assoc]
              simp only [prtL, if_true, List.nil_append, List.append_nil]
              refine part_run (hR p (by simp)) (by omega) ?_
              exact .repOk (sign_run hi r) hr
    -- not a choice
    have C : choiceK k = false → ∀ o r, (r = [] ∨ hd isEnd r) → o + dep (.mk k s m n ps) ≤ 64 → Run o (.alt []) (prt (.mk k s m n ps) ++ r) (.ok (.mk k s m n ps) r) := by
      intro hk o r hr hd
      by_cases hp : pieceK k = true
      · exact alt_of_piece (hd_app (prt_head _ hmay hp)) (A hp o r _ hd (.repEnd (not_rep_of (hr.elim .inl (fun h => .inr (.inr h)))))) hr
      · have hk' : k = 0 ∨ k = 4 := by simp [pieceK] at hp; simp [choiceK] at hk; omega
        obtain rfl : s = .zero := f1.resolve_left (by omega)
        obtain ⟨rfl, rfl⟩ : m = 0 ∧ n = 0 := by omega
        rcases hk' with rfl | rfl
        · obtain rfl : ps = [] := by
            rcases f3 with ⟨_, h⟩ | ⟨h, _⟩ | ⟨h, _⟩
            · exact List.eq_nil_of_length_eq_zero h
            · omega
            · omega
          rw [prt]
          simp only [if_neg (show ¬ (0 : Int) = 1 by decide), if_neg (show ¬ (0 : Int) = 2 by decide), if_neg (show ¬ (0 : Int) = 3 by decide), if_neg (show ¬ (0 : Int) = 4 by decide), if_neg (show ¬ (0 : Int) = 5 by decide), if_neg (show ¬ (0 : Int) = 6 by decide), List.nil_append]
          exact .altEnd (acc := []) hr
        · have hl : 2 ≤ ps.length := by omega
          rw [prt]
          simp only [if_neg (show ¬ (4 : Int) = 1 by decide), if_neg (show ¬ (4 : Int) = 2 by decide), if_neg (show ¬ (4 : Int) = 3 by decide), if_pos]
          rw [dep, if_pos (.inl rfl)] at hd
          have := row_run hr ps hR hm true [] hd
          match ps, hl with
          | a :: b :: t, _ => exact this
    refine ⟨A, C, fun o r hr hd => ?_⟩
    by_cases hc : choiceK k = true
    · have hk : k = 5 := by simpa [choiceK] using hc
      subst hk
      obtain rfl : s = .zero := f1.resolve_left (by omega)
      obtain ⟨rfl, rfl⟩ : m = 0 ∧ n = 0 := by omega
      have hl : 2 ≤ ps.length := by omega
      rw [prt]
      simp only [if_neg (show ¬ (5 : Int) = 1 by decide), if_neg (show ¬ (5 : Int) = 2 by decide), if_neg (show ¬ (5 : Int) = 3 by decide), if_neg (show ¬ (5 : Int) = 4 by decide), if_pos]
      rw [dep, if_neg (by omega), if_pos rfl] at hd
      have := choice_run hr ps hR hm (by rintro rfl; simp at hl) [] hd
      match ps, hl with
      | a :: b :: t, _ => exact this
    · simp only [Bool.not_eq_true] at hc
      refine pat_of_alt (C hc o r ?_ hd) hr
      rcases hr with rfl | hr
      · exact .inl rfl
      · cases r with
        | nil => exact .inl rfl
        | cons c t => exact .inr (.inr hr)
/-- A tree that may be, printed and read. -/
theorem back_any {t : PT} (h : may t = true) (hs : setsOk t) (hd : dep t ≤ 64) : Run 0 (.pat []) (prt t) (.ok t []) := by
  have := (reads_any t h hs).2.2 0 [] (.inl rfl) (by omega)
  simpa using this
end Go.Proofs.YtckgbcgmladcfaaDoor
