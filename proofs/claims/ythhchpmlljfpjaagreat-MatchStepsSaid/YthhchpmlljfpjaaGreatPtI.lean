import Derived.Test.YthhchpmlljfpjaaGreatPtE
import Derived.Carry
import Derived.Shelf.Abstract
import Derived.WideMake
namespace Go.Proofs.YthhchpmlljfpjaaGreat
open Go.RowKit

/-! The program's reader in a bracket: members. -/
theorem RB.drewN {w : World} {rb : Nat} {s : ByteArray} {i o : Nat} (h : RB w rb s i o) (n : Nat) : RB (w.drewN n) rb s i o := h
theorem drop_cons {l : List Nat} {i c : Nat} {r : List Nat} (h : l.drop i = c :: r) : i < l.length ∧ at0 l i = c ∧ l.drop (i + 1) = r := by
  have hlt : i < l.length := by
    rcases Nat.lt_or_ge i l.length with h1 | h1
    · exact h1
    · rw [List.drop_eq_nil_of_le h1] at h; cases h
  rw [drop_at hlt] at h
  simp only [List.cons.injEq] at h
  exact ⟨hlt, h.1, h.2⟩
theorem drop_nil {l : List Nat} {i : Nat} (h : l.drop i = []) : l.length ≤ i := by
  rcases Nat.lt_or_ge i l.length with h1 | h1
  · rw [drop_at h1] at h; cases h
  · exact h1
/-- A byte and a sign of two behind it. -/
def encl (a b : Nat) : List Nat → Option (Nat × List Nat)
  | c :: x :: y :: r => if x = a ∧ y = b then some (c, r) else none
  | _ => none
theorem pre2 {a b : Nat} {t : List Nat} : [a, b].isPrefixOf t = true ↔ ∃ u, t = a :: b :: u := by
  match t with
  | [] => simp [List.isPrefixOf]
  | [x] => simp [List.isPrefixOf]
  | x :: y :: u =>
    simp only [List.isPrefixOf, Bool.and_eq_true, beq_iff_eq, and_true]
    constructor
    · rintro ⟨rfl, rfl⟩; exact ⟨u, rfl⟩
    · rintro ⟨v, h⟩
      simp only [List.cons.injEq] at h
      exact ⟨h.1.symm, h.2.1.symm⟩
theorem memb_other {f : Bool} {c : Nat} {r : List Nat} (h1 : ∀ u, c :: r ≠ 91 :: 46 :: u) (h2 : f = true → (∀ u, c :: r ≠ 91 :: 58 :: u) ∧ ∀ u, c :: r ≠ 91 :: 61 :: u) : memb f (c :: r) = some (c, r) := by
  unfold memb
  split
  · rename_i h; exact absurd h (h1 _)
  · rename_i r' h
    cases f
    · simp only [List.cons.injEq] at h; obtain ⟨rfl, rfl⟩ := h; rfl
    · exact absurd h ((h2 rfl).1 _)
  · rename_i r' h
    cases f
    · simp only [List.cons.injEq] at h; obtain ⟨rfl, rfl⟩ := h; rfl
    · exact absurd h ((h2 rfl).2 _)
  · rename_i h; simp only [List.cons.injEq] at h; obtain ⟨rfl, rfl⟩ := h; rfl
  · rename_i h; cases h
theorem memb_dot {f : Bool} {u : List Nat} : memb f (91 :: 46 :: u) = encl 46 93 u := by
  unfold memb
  show (match u with | c :: 46 :: 93 :: r => some (c, r) | _ => none) = _
  unfold encl
  split
  · rfl
  · rename_i h
    split
    · rename_i c x y r
      rw [if_neg]
      rintro ⟨rfl, rfl⟩
      exact h _ _ rfl
    · rfl
theorem memb_false (t : List Nat) : (∃ u, t = 91 :: 46 :: u ∧ memb false t = encl 46 93 u) ∨ ([91, 46].isPrefixOf t = false ∧ memb false t = match t with | [] => none | c :: r => some (c, r)) := by
  by_cases h : [91, 46].isPrefixOf t = true
  · obtain ⟨u, rfl⟩ := pre2.1 h
    exact .inl ⟨u, rfl, memb_dot⟩
  · simp only [Bool.not_eq_true] at h
    refine .inr ⟨h, ?_⟩
    cases t with
    | nil => rfl
    | cons c r => exact memb_other (fun u e => by rw [e, pre2.2 ⟨u, rfl⟩] at h; cases h) (fun e => by cases e)
theorem memb_true (t : List Nat) : (([91, 58].isPrefixOf t = true ∨ [91, 61].isPrefixOf t = true) ∧ memb true t = none) ∨ (([91, 58].isPrefixOf t = false ∧ [91, 61].isPrefixOf t = false) ∧ memb true t = memb false t) := by
  by_cases h : [91, 58].isPrefixOf t = true
  · obtain ⟨u, rfl⟩ := pre2.1 h
    exact .inl ⟨.inl h, rfl⟩
  · by_cases h2 : [91, 61].isPrefixOf t = true
    · obtain ⟨u, rfl⟩ := pre2.1 h2
      exact .inl ⟨.inr h2, rfl⟩
    · simp only [Bool.not_eq_true] at h h2
      refine .inr ⟨⟨h, h2⟩, ?_⟩
      cases t with
      | nil => rfl
      | cons c r =>
        by_cases h3 : [91, 46].isPrefixOf (c :: r) = true
        · obtain ⟨u, e⟩ := pre2.1 h3
          rw [e, memb_dot, memb_dot]
        · simp only [Bool.not_eq_true] at h3
          have k : ∀ a b, [a, b].isPrefixOf (c :: r) = false → ∀ u, c :: r ≠ a :: b :: u := fun a b hf u e => by rw [e, pre2.2 ⟨u, rfl⟩] at hf; cases hf
          rw [memb_other (k _ _ h3) (fun _ => ⟨k _ _ h, k _ _ h2⟩), memb_other (k _ _ h3) (fun e => by cases e)]
/-- A byte was read, or the bracket is wrong. -/
def ByteRet (rb : Nat) (s : ByteArray) (i o n : Nat) (m : Option (Nat × List Nat)) (w : World) (e : Ending) (w' : World) : Prop :=
  ∃ j x : Nat, RS w w' rb s j o ∧ i ≤ j ∧ j ≤ n ∧ x < 256 ∧ ((∃ r, m = some (x, r) ∧ i < j ∧ (bsN s).drop j = r ∧ e = .returned (.tuple #[.int .u8 (x : Nat), .int .i64 0])) ∨ (m = none ∧ e = .returned (.tuple #[.int .u8 (x : Nat), .int .i64 101])))
theorem at8 (s : ByteArray) (i : Nat) : at0 (bsN s) i < 256 := (bsN_8 s).at0 i
set_option maxHeartbeats 1000000 in
theorem p_enclosed (rb : Nat) (s : ByteArray) (a b : UInt8) (i o : Nat) (w : World) (n : Nat) (hn : s.size = n) (hbig : n ≤ 1099511627776) (hi : i ≤ n) (hr : RB w rb s i o) :
    Calls Tryz.prog 137 #[.pointer (some ⟨rb, 0, none⟩), .string ⟨#[a, b]⟩] w fun e w' => ByteRet rb s i o n (encl a.toNat b.toNat ((bsN s).drop i)) w e w' := by
  have hl : (bsN s).length = n := by rw [bsN_len, hn]
  obtain ⟨t, ht⟩ : ∃ t, (bsN s).drop i = t := ⟨_, rfl⟩
  rw [ht]
  cases t with
  | nil =>
    have hin : i = s.size := by have := drop_nil ht; omega
    clear ht hl
    go_enter Tryz.func137, Tryz.ntmps137
    go_wp2_with (go_at_call 103; refine (p_take_no rb s i o _ hin hr).mono ?_; rintro e w' ⟨rfl, hs⟩)
    go_ret2
    exact ⟨i, 0, hs, Nat.le_refl _, by omega, by decide, .inr ⟨rfl, rfl⟩⟩
  | cons c r =>
    obtain ⟨h1, h2, h3⟩ := drop_cons ht
    have h8 := at8 s i
    rw [h2] at h8
    by_cases hp : [a.toNat, b.toNat].isPrefixOf r = true
    · obtain ⟨u, rfl⟩ := pre2.1 hp
      obtain ⟨g1, g2, g3⟩ := drop_cons h3
      obtain ⟨k1, k2, k3⟩ := drop_cons g3
      have hp2 : Hid ((bsN ⟨#[a, b]⟩).isPrefixOf ((bsN s).drop (i + 1)) = true) := by show _ = _; rw [h3]; exact hp
      have H := Lib.hid (show encl a.toNat b.toNat (c :: a.toNat :: b.toNat :: u) = some (c, u) by simp [encl])
      have HK := Lib.hid k3
      have hc := Lib.hid h2
      have hi3 : i + 3 ≤ n := by omega
      clear hp ht h2 h3 g2 g3 k2 k3 hl g1 k1
      go_enter Tryz.func137, Tryz.ntmps137
      go_wp2_with (first | (go_at_call 103; refine (p_take_yes rb s i o _ n c hn hbig (by omega) hc.out hr).mono ?_; rintro e w1 ⟨rfl, hs⟩) | (go_at_call 59; refine (p_takes_yes rb s _ (i + 1) o _ n 2 hn hbig (by omega) rfl hp2.out hs.box).mono ?_; rintro e w2 ⟨rfl, hs2⟩))
      go_ret2
      exact ⟨i + 1 + 2, c, hs.trans hs2, by omega, by omega, h8, .inl ⟨u, H.out, by omega, HK.out, rfl⟩⟩
    · have hm : encl a.toNat b.toNat (c :: r) = none := by
        match r with
        | [] => rfl
        | [x] => rfl
        | x :: y :: u =>
          show (if x = a.toNat ∧ y = b.toNat then some (c, u) else none) = none
          rw [if_neg]
          rintro ⟨rfl, rfl⟩
          exact hp (pre2.2 ⟨u, rfl⟩)
      have hp2 : Hid ((bsN ⟨#[a, b]⟩).isPrefixOf ((bsN s).drop (i + 1)) = false) := by show _ = _; rw [h3]; exact Bool.eq_false_iff.2 hp
      have HM := Lib.hid hm
      have hc := Lib.hid h2
      have hi3 : i + 1 ≤ n := by omega
      clear hp ht h2 h3 hl hm
      go_enter Tryz.func137, Tryz.ntmps137
      go_wp2_with (first | (go_at_call 103; refine (p_take_yes rb s i o _ n c hn hbig (by omega) hc.out hr).mono ?_; rintro e w1 ⟨rfl, hs⟩) | (go_at_call 59; refine (p_takes_no rb s _ (i + 1) o _ n hn (by omega) hp2.out hs.box).mono ?_; rintro e w2 ⟨rfl, hs2⟩))
      go_ret2
      exact ⟨i + 1, 0, hs.trans hs2, by omega, by omega, by decide, .inr ⟨HM.out, rfl⟩⟩
set_option maxHeartbeats 1000000 in
theorem p_member (rb : Nat) (s : ByteArray) (i o : Nat) (w : World) (n : Nat) (hn : s.size = n) (hbig : n ≤ 1099511627776) (hi : i ≤ n) (hr : RB w rb s i o) :
    Calls Tryz.prog 138 #[.pointer (some ⟨rb, 0, none⟩)] w fun e w' => ByteRet rb s i o n (memb false ((bsN s).drop i)) w e w' := by
  have hl : (bsN s).length = n := by rw [bsN_len, hn]
  obtain ⟨t, ht⟩ : ∃ t, (bsN s).drop i = t := ⟨_, rfl⟩
  rw [ht]
  rcases memb_false t with ⟨u, rfl, hm⟩ | ⟨hp, hm⟩
  · have hp2 : Hid ((bsN ⟨#[91, 46]⟩).isPrefixOf ((bsN s).drop i) = true) := by show _ = _; rw [ht]; rfl
    obtain ⟨g1, _, g3⟩ := drop_cons ht
    obtain ⟨k1, _, k3⟩ := drop_cons g3
    rw [hm]
    obtain ⟨m, hmm⟩ : ∃ m, encl 46 93 u = m := ⟨_, rfl⟩
    rw [hmm]
    have HM : Hid (encl 46 93 ((bsN s).drop (i + 2)) = m) := by show _ = _; rw [k3]; exact hmm
    have hi2 : i + 2 ≤ n := by omega
    clear hm hmm ht g3 k3 hl g1 k1
    go_enter Tryz.func138, Tryz.ntmps138
    go_wp2_with (first | (go_at_call 59; refine (p_takes_yes rb s _ i o _ n 2 hn hbig (by omega) rfl hp2.out hr).mono ?_; rintro e w1 ⟨rfl, hs⟩) | (go_at_call 137; refine (p_enclosed rb s 46 93 (i + 2) o _ n hn hbig (by omega) hs.box).mono ?_; rintro e w2 ⟨j, x, hs2, hj, hjn, hx, ⟨r, hr1, hr2, hr3, rfl⟩ | ⟨hr1, rfl⟩⟩))
    · go_ret2
      exact ⟨j, x, hs.trans hs2, by omega, hjn, hx, .inl ⟨r, HM.out.symm.trans hr1, by omega, hr3, rfl⟩⟩
    · go_ret2
      exact ⟨j, x, hs.trans hs2, by omega, hjn, hx, .inr ⟨HM.out.symm.trans hr1, rfl⟩⟩
  · have hp2 : Hid ((bsN ⟨#[91, 46]⟩).isPrefixOf ((bsN s).drop i) = false) := by show _ = _; rw [ht]; exact hp
    rw [hm]
    cases t with
    | nil =>
      have hin : i = s.size := by have := drop_nil ht; omega
      clear ht hl hm hp
      go_enter Tryz.func138, Tryz.ntmps138
      go_wp2_with (first | (go_at_call 59; refine (p_takes_no rb s _ i o _ n hn (by omega) hp2.out hr).mono ?_; rintro e w1 ⟨rfl, hs⟩) | (go_at_call 103; refine (p_take_no rb s i o _ hin hs.box).mono ?_; rintro e w' ⟨rfl, hs2⟩))
      go_ret2
      exact ⟨i, 0, hs.trans hs2, Nat.le_refl _, by omega, by decide, .inr ⟨rfl, rfl⟩⟩
    | cons c r =>
      obtain ⟨h1, h2, h3⟩ := drop_cons ht
      have h8 := at8 s i
      rw [h2] at h8
      have hc := Lib.hid h2
      have H3 := Lib.hid h3
      have hi3 : i + 1 ≤ n := by omega
      clear ht hl hm hp h2 h3
      go_enter Tryz.func138, Tryz.ntmps138
      go_wp2_with (first | (go_at_call 59; refine (p_takes_no rb s _ i o _ n hn (by omega) hp2.out hr).mono ?_; rintro e w1 ⟨rfl, hs⟩) | (go_at_call 103; refine (p_take_yes rb s i o _ n c hn hbig (by omega) hc.out hs.box).mono ?_; rintro e w' ⟨rfl, hs2⟩))
      go_ret2
      exact ⟨i + 1, c, hs.trans hs2, by omega, by omega, h8, .inl ⟨r, rfl, by omega, H3.out, rfl⟩⟩
set_option maxHeartbeats 1000000 in
set_option maxRecDepth 100000 in
theorem p_second (rb : Nat) (s : ByteArray) (i o : Nat) (w : World) (n : Nat) (hn : s.size = n) (hbig : n ≤ 1099511627776) (hi : i ≤ n) (hr : RB w rb s i o) :
    Calls Tryz.prog 140 #[.pointer (some ⟨rb, 0, none⟩)] w fun e w' => ByteRet rb s i o n (memb true ((bsN s).drop i)) w e w' := by
  obtain ⟨t, ht⟩ : ∃ t, (bsN s).drop i = t := ⟨_, rfl⟩
  obtain ⟨b1, hb1⟩ : ∃ b, [91, 58].isPrefixOf t = b := ⟨_, rfl⟩
  obtain ⟨b2, hb2⟩ : ∃ b, [91, 61].isPrefixOf t = b := ⟨_, rfl⟩
  have h1 : Hid ((bsN ⟨#[91, 58]⟩).isPrefixOf ((bsN s).drop i) = b1) := by show _ = _; rw [ht]; exact hb1
  have h2 : Hid ((bsN ⟨#[91, 61]⟩).isPrefixOf ((bsN s).drop i) = b2) := by show _ = _; rw [ht]; exact hb2
  rcases memb_true t with ⟨hp, hm⟩ | ⟨hp, hm⟩ <;> rw [hb1, hb2] at hp
  · rw [ht, hm]
    clear hb1 hb2 hm ht
    cases b1
    · obtain rfl : b2 = true := by simpa using hp
      clear hp
      go_enter Tryz.func140, Tryz.ntmps140
      go_wp2_with (first | (go_at_call 79; (with_reducible refine (p_stands rb s _ i o w n hn hi hr).mono ?_); rintro e w1 ⟨rfl, m, rfl⟩; rw [h1.out]) | (go_at_call 79; (with_reducible refine (p_stands rb s _ i o (w.drewN m) n hn hi (RB.drewN hr _)).mono ?_); rintro e w1 ⟨rfl, m2, rfl⟩; rw [h2.out]))
      go_ret2
      exact ⟨i, 0, (RS.refl hr).drewN _, Nat.le_refl _, hi, by decide, .inr ⟨rfl, rfl⟩⟩
    · clear hp
      go_enter Tryz.func140, Tryz.ntmps140
      go_wp2_with (go_at_call 79; (with_reducible refine (p_stands rb s _ i o w n hn hi hr).mono ?_); rintro e w1 ⟨rfl, m, rfl⟩; rw [h1.out])
      go_ret2
      exact ⟨i, 0, (RS.refl hr).drewN _, Nat.le_refl _, hi, by decide, .inr ⟨rfl, rfl⟩⟩
  · rw [ht, hm, ← ht]
    obtain ⟨rfl, rfl⟩ := hp
    clear hb1 hb2 hm ht
    go_enter Tryz.func140, Tryz.ntmps140
    go_wp2_with (first | (go_at_call 79; (with_reducible refine (p_stands rb s _ i o w n hn hi hr).mono ?_); rintro e w1 ⟨rfl, m, rfl⟩; rw [h1.out]) | (go_at_call 79; (with_reducible refine (p_stands rb s _ i o (w.drewN m) n hn hi (RB.drewN hr _)).mono ?_); rintro e w1 ⟨rfl, m2, rfl⟩; rw [h2.out]) | (go_at_call 138; (with_reducible refine (p_member rb s i o _ n hn hbig hi (RB.drewN hr _)).mono ?_); rintro e w2 ⟨j, x, hs2, hj, hjn, hx, ⟨r, hr1, hr2, hr3, rfl⟩ | ⟨hr1, rfl⟩⟩))
    · go_ret2
      exact ⟨j, x, ((RS.refl hr).drewN _).trans hs2, hj, hjn, hx, .inl ⟨r, hr1, hr2, hr3, rfl⟩⟩
    · go_ret2
      exact ⟨j, x, ((RS.refl hr).drewN _).trans hs2, hj, hjn, hx, .inr ⟨hr1, rfl⟩⟩
end Go.Proofs.YthhchpmlljfpjaaGreat
