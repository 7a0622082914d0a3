import Derived.Test.YthhchpmlljfpjaaGreatPtF
import Derived.Test.YthhchpmlljfpjaaGreatPtI
namespace Go.Proofs.YthhchpmlljfpjaaGreat
open Go.RowKit

/-! Cutting a text at its first instance of a sign. -/
def cutP (P : List Nat) : List Nat → Option (List Nat × List Nat)
  | [] => none
  | x :: r => if P.isPrefixOf (x :: r) = true then some ([], (x :: r).drop P.length) else (cutP P r).map fun p => (x :: p.1, p.2)
theorem cutAt_P (c : Nat) (l : List Nat) : cutAt c l = cutP [c] l := by
  induction l with
  | nil => rfl
  | cons x r ih =>
    unfold cutAt cutP
    by_cases h : x = c
    · subst h; simp [List.isPrefixOf]
    · have : [c].isPrefixOf (x :: r) = false := by
        have e : (c == x) = false := by simp; exact fun e => h e.symm
        simp [List.isPrefixOf, e]
      rw [if_neg h, if_neg (by rw [this]; decide), ih]
theorem cutAt2_P (c d : Nat) (l : List Nat) : cutAt2 c d l = cutP [c, d] l := by
  induction l with
  | nil => rfl
  | cons x r ih =>
    cases r with
    | nil =>
      unfold cutAt2 cutP
      rw [if_neg (by simp [List.isPrefixOf])]
      rfl
    | cons y t =>
      unfold cutAt2 cutP
      by_cases h : x = c ∧ y = d
      · obtain ⟨rfl, rfl⟩ := h
        rw [if_pos ⟨rfl, rfl⟩, if_pos (pre2.2 ⟨t, rfl⟩)]
        rfl
      · rw [if_neg h, if_neg (fun e => by obtain ⟨u, hu⟩ := pre2.1 e; simp only [List.cons.injEq] at hu; exact h ⟨hu.1, hu.2.1⟩), ih]
theorem cutP_len {P l a r : List Nat} (h : cutP P l = some (a, r)) : a.length + P.length + r.length = l.length := by
  induction l generalizing a with
  | nil => cases h
  | cons x t ih =>
    unfold cutP at h
    split at h
    · rename_i hp
      simp only [Option.some.injEq, Prod.mk.injEq] at h
      obtain ⟨rfl, rfl⟩ := h
      have := (List.isPrefixOf_iff_prefix.1 hp).length_le
      simp only [List.length_nil, List.length_drop]
      omega
    · rw [Option.map_eq_some_iff] at h
      obtain ⟨⟨p1, p2⟩, h1, h2⟩ := h
      simp only [Prod.mk.injEq] at h2
      obtain ⟨rfl, rfl⟩ := h2
      have := ih h1
      simp only [List.length_cons]
      omega
theorem cutP_drop {P l a r : List Nat} (h : cutP P l = some (a, r)) : l.drop (a.length + P.length) = r := by
  induction l generalizing a with
  | nil => cases h
  | cons x t ih =>
    unfold cutP at h
    split at h
    · simp only [Option.some.injEq, Prod.mk.injEq] at h
      obtain ⟨rfl, rfl⟩ := h
      simp
    · rw [Option.map_eq_some_iff] at h
      obtain ⟨⟨p1, p2⟩, h1, h2⟩ := h
      simp only [Prod.mk.injEq] at h2
      obtain ⟨rfl, rfl⟩ := h2
      rw [List.length_cons, show p1.length + 1 + P.length = (p1.length + P.length) + 1 by omega, List.drop_succ_cons]
      exact ih h1
theorem cutP_pre {P l a r : List Nat} (h : cutP P l = some (a, r)) : ∃ u, a ++ u = l := by
  induction l generalizing a with
  | nil => cases h
  | cons x t ih =>
    unfold cutP at h
    split at h
    · simp only [Option.some.injEq, Prod.mk.injEq] at h
      obtain ⟨rfl, rfl⟩ := h
      exact ⟨_, rfl⟩
    · rw [Option.map_eq_some_iff] at h
      obtain ⟨⟨p1, p2⟩, h1, h2⟩ := h
      simp only [Prod.mk.injEq] at h2
      obtain ⟨rfl, rfl⟩ := h2
      obtain ⟨u, hu⟩ := ih h1
      exact ⟨u, by rw [List.cons_append, hu]⟩
theorem pre_map (p l : List UInt8) : (p.map UInt8.toNat).isPrefixOf (l.map UInt8.toNat) = p.isPrefixOf l := by
  have := hasPre ⟨l.toArray⟩ ⟨p.toArray⟩
  exact this.symm
theorem cut_lib (P : List UInt8) (hP : P ≠ []) (l : List UInt8) : match cutP (P.map UInt8.toNat) (l.map UInt8.toNat) with
    | none => Lib.index l P = -1
    | some (a, r) => ∃ i : Nat, Lib.index l P = i ∧ (l.take i).map UInt8.toNat = a ∧ (l.drop (i + P.length)).map UInt8.toNat = r := by
  induction l with
  | nil => cases P with
    | nil => exact absurd rfl hP
    | cons a t => rfl
  | cons b t ih =>
    rw [List.map_cons, cutP, ← List.map_cons, pre_map]
    by_cases h : P.isPrefixOf (b :: t) = true
    · rw [if_pos h]
      refine ⟨0, ?_, rfl, ?_⟩
      · unfold Lib.index; rw [if_pos h]; rfl
      · rw [Nat.zero_add, List.length_map, List.map_drop]
    · rw [if_neg h]
      have h' : P.isPrefixOf (b :: t) = false := Bool.eq_false_iff.2 h
      revert ih
      generalize cutP (P.map UInt8.toNat) (t.map UInt8.toNat) = q
      cases q with
      | none =>
        intro ih
        show Lib.index (b :: t) P = -1
        unfold Lib.index
        rw [h', show Lib.index t P = -1 from ih]
        rfl
      | some p =>
        rintro ⟨i, h1, h2, h3⟩
        refine ⟨i + 1, ?_, ?_, ?_⟩
        · unfold Lib.index
          have e : ((i : Int) == -1) = false := by rw [beq_eq_false_iff_ne]; omega
          rw [h', h1, e]
          simp
        · rw [List.take_succ_cons, List.map_cons, h2]
        · rw [show i + 1 + P.length = (i + P.length) + 1 by omega, List.drop_succ_cons, h3]
theorem strN_map (l : List UInt8) : strN (l.map UInt8.toNat) = ⟨l.toArray⟩ := strN_bsN ⟨l.toArray⟩
theorem cut_none {S p : ByteArray} (hp : p.data.toList ≠ []) (h : cutP (bsN p) (bsN S) = none) : Lib.cut S.data.toList p.data.toList = (S.data.toList, [], false) := by
  have := cut_lib p.data.toList hp S.data.toList
  rw [show cutP (p.data.toList.map UInt8.toNat) (S.data.toList.map UInt8.toNat) = none from h] at this
  unfold Lib.cut
  rw [show Lib.index S.data.toList p.data.toList = -1 from this]
  rfl
theorem cut_some {S p : ByteArray} {a r : List Nat} (hp : p.data.toList ≠ []) (h : cutP (bsN p) (bsN S) = some (a, r)) :
    (⟨(Lib.cut S.data.toList p.data.toList).1.toArray⟩ : ByteArray) = strN a ∧ (⟨(Lib.cut S.data.toList p.data.toList).2.1.toArray⟩ : ByteArray) = strN r ∧ (Lib.cut S.data.toList p.data.toList).2.2 = true := by
  have := cut_lib p.data.toList hp S.data.toList
  rw [show cutP (p.data.toList.map UInt8.toNat) (S.data.toList.map UInt8.toNat) = some (a, r) from h] at this
  obtain ⟨i, h1, h2, h3⟩ := this
  unfold Lib.cut
  rw [h1, if_pos (by omega)]
  simp only [Int.toNat_natCast]
  exact ⟨by rw [← h2, strN_map], by rw [← h3, strN_map], by trivial⟩
/-- What strings.Cut tells. -/
def CutRet (m : Option (List Nat × List Nat)) (S : ByteArray) (v : Value) : Prop :=
  match m with
  | none => v = .tuple #[.string S, .string ⟨#[]⟩, .bool false]
  | some (a, r) => v = .tuple #[.string (strN a), .string (strN r), .bool true]
/-- The library's own variable holds some number. -/
def Gl (w : World) : Prop := ∃ m : Int, w.cell? ⟨0, 0, none⟩ = some (.int .i64 m)
theorem Gl.chg {w w' : World} {rb : Nat} (h : Gl w) (hc : Chg (fun k => k = rb) w w') (hne : 0 < rb) : Gl w' := by
  obtain ⟨m, hm⟩ := h
  exact ⟨m, hc.cell hm (by intro e; simp at e; omega)⟩
theorem Gl.below {w w' : World} (h : Gl w) (hb : Below w.heap.size w w') : Gl w' := by
  obtain ⟨m, hm⟩ := h
  exact ⟨m, below_cell hb _ _ hm⟩
def cutVal (S p : ByteArray) : Value := .tuple #[.string ⟨(Lib.cut S.data.toList p.data.toList).1.toArray⟩, .string ⟨(Lib.cut S.data.toList p.data.toList).2.1.toArray⟩, .bool (Lib.cut S.data.toList p.data.toList).2.2]
theorem cutVal_ret {S p : ByteArray} (hp : p.data.toList ≠ []) : CutRet (cutP (bsN p) (bsN S)) S (cutVal S p) := by
  cases h : cutP (bsN p) (bsN S) with
  | none =>
    show cutVal S p = Value.tuple _
    unfold cutVal
    rw [cut_none hp h]
  | some x =>
    obtain ⟨a, r⟩ := x
    obtain ⟨h1, h2, h3⟩ := cut_some hp h
    show cutVal S p = Value.tuple _
    unfold cutVal
    rw [h1, h2, h3]
theorem q_cut {S p : ByteArray} {w : World} {k : Nat} {v : Value} (hS : S.size < 4294967281) (hg : Gl w) (hv : cutVal S p = v) : Calls Tryz.prog 121 #[.string S, .string p] (w.drewN k) fun e w' => e = .returned v ∧ ∃ n, w' = w.drewN n := by
  obtain ⟨m, hm⟩ := hg
  subst hv
  exact Calls.quiet_of (Tryz.strings_Cut S p m (w.drewN k) hS hm)
theorem p_cut {S p : ByteArray} {w : World} {v : Value} (hS : S.size < 4294967281) (hg : Gl w) (hv : cutVal S p = v) : Calls Tryz.prog 121 #[.string S, .string p] w fun e w' => e = .returned v ∧ ∃ n, w' = w.drewN n := by
  obtain ⟨m, hm⟩ := hg
  subst hv
  exact Tryz.strings_Cut S p m w hS hm

/-! A class. -/
def clsR (t : List Nat) : Res S4 := match cutP [58, 93] t with
  | none => .no 101
  | some (name, r) => match classOf name with
    | none => .no 103
    | some p => .ok (S4.of p) r
theorem item_cls (t : List Nat) : item (91 :: 58 :: t) = clsR t := by
  show (match cutAt2 58 93 t with | none => Res.no 101 | some (name, r) => match classOf name with | none => .no 103 | some p => .ok (S4.of p) r) = _
  rw [cutAt2_P]
  rfl
/-- A set was read, or the bracket is wrong. -/
def ItemRet (rb : Nat) (s : ByteArray) (i o n : Nat) (m : Res S4) (w : World) (e : Ending) (w' : World) : Prop :=
  ∃ (j : Nat) (S : S4) (k : Int), RS w w' rb s j o ∧ i ≤ j ∧ j ≤ n ∧ S.fit ∧ e = .returned (.tuple #[S.val, .int .i64 k]) ∧ ((k = 0 ∧ i < j ∧ m = .ok S ((bsN s).drop j)) ∨ (k ≠ 0 ∧ m = .no k.toNat))
theorem RS.below {w0 w w' : World} {rb : Nat} {s : ByteArray} {i o : Nat} (h : RS w0 w rb s i o) (hb : Below w.heap.size w w') : RS w0 w' rb s i o :=
  ⟨CB.below h.box hb, h.chg.trans ((Chg.of_below hb).mono fun k h1 h2 => by omega)⟩
theorem RS.at {w0 w : World} {rb : Nat} {s : ByteArray} {i o : Nat} (h : RS w0 w rb s i o) (j : Nat) {v : Value} (hv : v = .int .i64 (j : Nat)) : RS w0 (w.setCell ⟨rb, 1, none⟩ v) rb s j o :=
  ⟨RB.at h.box j hv, Chg.setCell (S := fun k => k = rb) h.chg (p := ⟨rb, 1, none⟩) rfl _⟩
theorem Chg.trans_new {S : Nat → Prop} {a w : World} (h : Chg S a w) {g : Nat} (hg : a.heap.size ≤ g) (k : Nat) (v : Value) : Chg S a (w.setCell ⟨g, k, none⟩ v) :=
  ⟨h.os, h.tape, h.output, by simpa [World.setCell] using h.size, fun j hj hs => by
    rw [Below.heap_setCell _ _ _ _ (by show j ≠ g; omega)]
    exact h.block j hj hs⟩
theorem RS.other {w0 w : World} {rb : Nat} {s : ByteArray} {i o : Nat} (h : RS w0 w rb s i o) {g : Nat} (hg : w0.heap.size ≤ g) (hne : g ≠ rb) (k : Nat) (v : Value) : RS w0 (w.setCell ⟨g, k, none⟩ v) rb s i o :=
  ⟨CB.other h.box _ hne v, Chg.trans_new h.chg hg k v⟩
end Go.Proofs.YthhchpmlljfpjaaGreat
