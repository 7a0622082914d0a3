import Derived.Test.YthhchpmlljfpjaaGreatPtQ
import Derived.Test.YthhchpmlljfpjaaGreatPtR
namespace Go.Proofs.YthhchpmlljfpjaaGreat
open Go.RowKit

/-! Intervals. -/
def num3B (l : List Nat) : Bool := decide (1 ≤ l.length) && (decide (l.length ≤ 3) && l.all dg)
theorem num3B_iff (l : List Nat) : num3B l = true ↔ Num3 l := by
  unfold num3B Num3
  simp only [Bool.and_eq_true, decide_eq_true_eq, List.all_eq_true, dg_iff]
/-- An interval's numbers: is its end there, a comma, what stands ahead of it and behind it. -/
def resF (E P : Bool) (f g : List Nat) : Option (Int × Int) :=
  if E && num3B f then
    if P then
      if g.isEmpty then (if itv (decv f : Nat) (-1) then some ((decv f : Nat), -1) else none)
      else if num3B g && itv (decv f : Nat) (decv g : Nat) then some ((decv f : Nat), (decv g : Nat)) else none
    else if itv (decv f : Nat) (decv f : Nat) then some ((decv f : Nat), (decv f : Nat)) else none
  else none
def intvF (t : List Nat) : Option (Int × Int × List Nat) := match cutP [125] t with
  | none => none
  | some (i, r) => match cutP [44] i with
    | none => (resF true false i []).map fun x => (x.1, x.2, r)
    | some (x, y) => (resF true true x y).map fun x => (x.1, x.2, r)
theorem digs_num {x : List Nat} {m : Nat} : Digs x m ↔ Num3 x ∧ decv x = m := by
  unfold Digs Num3
  constructor
  · rintro ⟨a, b, c, d⟩; exact ⟨⟨a, b, c⟩, d⟩
  · rintro ⟨⟨a, b, c⟩, d⟩; exact ⟨a, b, c, d⟩
theorem dig_ne {x : List Nat} (h : ∀ c ∈ x, digit c) (d : Nat) (hd : ¬ digit d) : d ∉ x := fun hm => hd (h d hm)
theorem cut_plain {c : Nat} {a r : List Nat} (h : c ∉ a) : cutP [c] (a ++ c :: r) = some (a, r) := by
  rw [← cutAt_P]; exact cutAt_some.2 ⟨rfl, h⟩
theorem itv_iff (m n : Int) : itv m n = true ↔ (0 ≤ m ∧ m ≤ 255) ∧ (n = -1 ∨ (m ≤ n ∧ n ≤ 255)) := by
  unfold itv
  simp
theorem intv_of {t : List Nat} {m n : Int} {r : List Nat} (h : Intv t m n r) : intvF t = some (m, n, r) := by
  obtain ⟨x, k, d1, hk, rfl, h | h | h⟩ := h
  · obtain ⟨rfl, rfl⟩ := h
    obtain ⟨n1, rfl⟩ := digs_num.1 d1
    have e1 := cut_plain (r := r) (dig_ne n1.2.2 125 (nodig _ (.inr rfl)))
    have e2 : cutP [44] x = none := by rw [← cutAt_P]; exact cutAt_none.2 (dig_ne n1.2.2 44 (nodig _ (.inl rfl)))
    unfold intvF
    rw [e1]
    simp only [e2]
    have hi : itv (decv x : Nat) (decv x : Nat) = true := (itv_iff _ _).2 (by omega)
    simp [resF, (num3B_iff x).2 n1, hi]
  · obtain ⟨rfl, rfl⟩ := h
    obtain ⟨n1, rfl⟩ := digs_num.1 d1
    have e1 : cutP [125] (x ++ 44 :: 125 :: r) = some (x ++ [44], r) := by
      have := cut_plain (c := 125) (a := x ++ [44]) (r := r) (by simp; exact dig_ne n1.2.2 125 (nodig _ (.inr rfl)))
      rwa [List.append_assoc] at this
    have e2 : cutP [44] (x ++ [44]) = some (x, []) := cut_plain (dig_ne n1.2.2 44 (nodig _ (.inl rfl)))
    unfold intvF
    rw [e1]
    simp only [e2]
    have hi : itv (decv x : Nat) (-1) = true := (itv_iff _ _).2 (by omega)
    simp [resF, (num3B_iff x).2 n1, hi]
  · obtain ⟨y, j, rfl, d2, h3, h4, rfl⟩ := h
    obtain ⟨n1, rfl⟩ := digs_num.1 d1
    obtain ⟨n2, rfl⟩ := digs_num.1 d2
    have e1 : cutP [125] (x ++ 44 :: (y ++ 125 :: r)) = some (x ++ 44 :: y, r) := by
      have := cut_plain (c := 125) (a := x ++ 44 :: y) (r := r) (by simp; exact ⟨dig_ne n1.2.2 125 (nodig _ (.inr rfl)), dig_ne n2.2.2 125 (nodig _ (.inr rfl))⟩)
      rwa [List.append_assoc] at this
    have e2 : cutP [44] (x ++ 44 :: y) = some (x, y) := cut_plain (dig_ne n1.2.2 44 (nodig _ (.inl rfl)))
    have hy : y.isEmpty = false := by cases y with | nil => exact absurd n2.1 (by simp) | cons => rfl
    unfold intvF
    rw [e1]
    simp only [e2]
    have hi : itv (decv x : Nat) (decv y : Nat) = true := (itv_iff _ _).2 (by omega)
    simp [resF, (num3B_iff x).2 n1, (num3B_iff y).2 n2, hi, hy]
theorem of_intv {t : List Nat} {m n : Int} {r : List Nat} (h : intvF t = some (m, n, r)) : Intv t m n r := by
  unfold intvF at h
  cases h1 : cutP [125] t with
  | none => rw [h1] at h; cases h
  | some q =>
    obtain ⟨i, r'⟩ := q
    have ht := (cutAt_some.1 ((cutAt_P 125 t).trans h1)).1
    rw [h1] at h
    simp only at h
    cases h2 : cutP [44] i with
    | none =>
      rw [h2] at h
      simp only [resF, Option.map_eq_some_iff] at h
      obtain ⟨x, hx, he⟩ := h
      simp only [Bool.true_and, Bool.false_eq_true, if_false] at hx
      split at hx
      · rename_i hn
        split at hx
        · rename_i hi
          cases hx
          cases he
          have := (itv_iff _ _).1 hi
          exact ⟨i, decv i, digs_num.2 ⟨(num3B_iff i).1 hn, rfl⟩, by omega, rfl, .inl ⟨ht, rfl⟩⟩
        · cases hx
      · cases hx
    | some q2 =>
      obtain ⟨x, y⟩ := q2
      have hi2 := (cutAt_some.1 ((cutAt_P 44 i).trans h2)).1
      subst hi2
      rw [h2] at h
      simp only [resF, Option.map_eq_some_iff] at h
      obtain ⟨z, hz, he⟩ := h
      simp only [Bool.true_and, if_true] at hz
      split at hz
      · rename_i hn
        split at hz
        · rename_i hy
          obtain rfl : y = [] := List.isEmpty_iff.1 hy
          split at hz
          · rename_i hi
            cases hz
            cases he
            have := (itv_iff _ _).1 hi
            exact ⟨x, decv x, digs_num.2 ⟨(num3B_iff x).1 hn, rfl⟩, by omega, rfl, .inr (.inl ⟨by rw [ht, List.append_assoc]; rfl, rfl⟩)⟩
          · cases hz
        · split at hz
          · rename_i hi
            rw [Bool.and_eq_true] at hi
            cases hz
            cases he
            have := (itv_iff _ _).1 hi.2
            exact ⟨x, decv x, digs_num.2 ⟨(num3B_iff x).1 hn, rfl⟩, by omega, rfl, .inr (.inr ⟨y, decv y, by rw [ht, List.append_assoc]; rfl, digs_num.2 ⟨(num3B_iff y).1 hi.1, rfl⟩, by omega, by omega, rfl⟩)⟩
          · cases hz
      · cases hz
/-- What reading an interval comes to. -/
def IntRet (rb : Nat) (s : ByteArray) (i o n : Nat) (w : World) (e : Ending) (w' : World) : Prop :=
  ∃ (j : Nat) (a b k : Int), RS w w' rb s j o ∧ i ≤ j ∧ j ≤ n ∧ e = .returned (.tuple #[.int .i64 a, .int .i64 b, .int .i64 k]) ∧ ((k = 0 ∧ i < j ∧ intvF ((bsN s).drop i) = some (a, b, (bsN s).drop j)) ∨ (k = 105 ∧ intvF ((bsN s).drop i) = none))
/-- The two cuts of an interval's text. -/
structure Cuts (t : List Nat) (In F G : ByteArray) (E P : Bool) : Prop where
  res : intvF t = (resF E P (bsN F) (bsN G)).map fun x => (x.1, x.2, t.drop (In.size + 1))
  size : E = true → In.size + 1 ≤ t.length
theorem cuts_of {S In R F G : ByteArray} {E P : Bool} (h1 : cutVal S ⟨#[125]⟩ = .tuple #[.string In, .string R, .bool E]) (h2 : cutVal In ⟨#[44]⟩ = .tuple #[.string F, .string G, .bool P]) : Cuts (bsN S) In F G E P := by
  have k1 := cutVal_ret (S := S) (p := ⟨#[125]⟩) (by decide)
  have k2 := cutVal_ret (S := In) (p := ⟨#[44]⟩) (by decide)
  rw [h1] at k1
  rw [h2] at k2
  have e125 : bsN ⟨#[125]⟩ = [125] := rfl
  have e44 : bsN ⟨#[44]⟩ = [44] := rfl
  rw [e125] at k1
  rw [e44] at k2
  cases c1 : cutP [125] (bsN S) with
  | none =>
    rw [c1] at k1
    have k1 : Value.tuple #[.string In, .string R, .bool E] = .tuple #[.string S, .string ⟨#[]⟩, .bool false] := k1
    obtain ⟨rfl, _, rfl⟩ : In = S ∧ R = ⟨#[]⟩ ∧ E = false := by simpa using k1
    refine ⟨?_, fun h => by cases h⟩
    unfold intvF
    rw [c1]
    simp [resF]
  | some q =>
    obtain ⟨a, r⟩ := q
    rw [c1] at k1
    have k1 : Value.tuple #[.string In, .string R, .bool E] = .tuple #[.string (strN a), .string (strN r), .bool true] := k1
    obtain ⟨rfl, _, rfl⟩ : In = strN a ∧ R = strN r ∧ E = true := by simpa using k1
    have ha8 : B8 a := by
      obtain ⟨u, hu⟩ := cutP_pre c1
      exact fun y hy => bsN_8 S y (hu ▸ List.mem_append_left _ hy)
    have hl := cutP_len c1
    have hd := cutP_drop c1
    have hlen : [125].length = 1 := rfl
    rw [hlen] at hl hd
    have hsz := strN_size a
    rw [bsN_strN ha8] at k2
    refine ⟨?_, fun _ => by rw [hsz]; omega⟩
    unfold intvF
    rw [c1, hsz, hd]
    simp only
    cases c2 : cutP [44] a with
    | none =>
      rw [c2] at k2
      have k2 : Value.tuple #[.string F, .string G, .bool P] = .tuple #[.string (strN a), .string ⟨#[]⟩, .bool false] := k2
      obtain ⟨rfl, rfl, rfl⟩ : F = strN a ∧ G = ⟨#[]⟩ ∧ P = false := by simpa using k2
      simp only [bsN_strN ha8]
      rfl
    | some q2 =>
      obtain ⟨x, y⟩ := q2
      rw [c2] at k2
      have k2 : Value.tuple #[.string F, .string G, .bool P] = .tuple #[.string (strN x), .string (strN y), .bool true] := k2
      obtain ⟨rfl, rfl, rfl⟩ : F = strN x ∧ G = strN y ∧ P = true := by simpa using k2
      have hxy := (cutAt_some.1 ((cutAt_P 44 a).trans c2)).1
      have hx : B8 x := fun z hz => ha8 z (by rw [hxy]; simp [hz])
      have hy : B8 y := fun z hz => ha8 z (by rw [hxy]; simp [hz])
      simp only [bsN_strN hx, bsN_strN hy]
end Go.Proofs.YthhchpmlljfpjaaGreat
