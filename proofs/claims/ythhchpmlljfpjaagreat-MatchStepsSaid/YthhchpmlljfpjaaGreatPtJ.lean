import Derived.Test.YthhchpmlljfpjaaGreatPtB
import Derived.Test.YthhchpmlljfpjaaGreatPtI
namespace Go.Proofs.YthhchpmlljfpjaaGreat
open Go.RowKit

/-! The program's reader in a bracket: items. -/
def rng : List Nat → Bool
  | 45 :: r => !(r.head? == some 93)
  | _ => false
theorem rng_pre (t : List Nat) : rng t = ([45].isPrefixOf t && !([45, 93].isPrefixOf t)) := by
  match t with
  | [] => rfl
  | [c] =>
    by_cases h : c = 45
    · subst h; rfl
    · have e : rng [c] = false := by unfold rng; split <;> simp_all
      have e2 : ((45 : Nat) == c) = false := by simp; omega
      rw [e]; simp [List.isPrefixOf, e2]
  | c :: d :: u =>
    by_cases h : c = 45
    · subst h
      show (!((d :: u).head? == some 93)) = _
      simp only [List.isPrefixOf, List.head?_cons, beq_self_eq_true, Bool.true_and, Bool.and_true]
      congr 1
      rw [Bool.eq_iff_iff]; simp; exact eq_comm
    · have e : rng (c :: d :: u) = false := by unfold rng; split <;> simp_all
      have e2 : ((45 : Nat) == c) = false := by simp; omega
      rw [e]; simp [List.isPrefixOf, e2]
theorem item_no_rng {t r : List Nat} {c : Nat} (h1 : ∀ u, t ≠ 91 :: 58 :: u) (h2 : ∀ u, t ≠ 91 :: 61 :: u) (hm : memb false t = some (c, r)) (hr : rng r = false) : item t = .ok (S4.span c c) r := by
  rw [item_other h1 h2, hm]
  match r with
  | [] => rfl
  | x :: u =>
    by_cases hx : x = 45
    · subst hx
      have : u.head? = some 93 := by simpa [rng] using hr
      show (if u.head? = some 93 then _ else _) = _
      rw [if_pos this]
    · split
      · simp_all
      · simp_all
      · simp_all
theorem item_rng {t r : List Nat} {c : Nat} (h1 : ∀ u, t ≠ 91 :: 58 :: u) (h2 : ∀ u, t ≠ 91 :: 61 :: u) (hm : memb false t = some (c, 45 :: r)) (hr : rng (45 :: r) = true) :
    item t = match memb true r with | none => .no 101 | some (d, r') => if d < c then .no 102 else .ok (S4.span c d) r' := by
  rw [item_other h1 h2, hm]
  have : ¬ r.head? = some 93 := by simpa [rng] using hr
  show (if r.head? = some 93 then _ else _) = _
  rw [if_neg this]
  rfl
theorem rng_cons {r : List Nat} (h : rng r = true) : ∃ u, r = 45 :: u := by
  unfold rng at h
  split at h
  · exact ⟨_, rfl⟩
  · cases h
theorem item_err {t : List Nat} (h1 : ∀ u, t ≠ 91 :: 58 :: u) (h2 : ∀ u, t ≠ 91 :: 61 :: u) (hm : memb false t = none) : item t = .no 101 := by rw [item_other h1 h2, hm]
theorem item_eq {u : List Nat} : item (91 :: 61 :: u) = match encl 61 93 u with | none => .no 101 | some (c, r) => .ok (S4.span c c) r := by
  match u with
  | [] => rfl
  | [a] => rfl
  | [a, b] => simp [item, encl]
  | c :: x :: y :: r =>
    by_cases hxy : x = 61 ∧ y = 93
    · obtain ⟨rfl, rfl⟩ := hxy
      rw [show encl 61 93 (c :: 61 :: 93 :: r) = some (c, r) by simp [encl]]
      rfl
    · rw [show encl 61 93 (c :: x :: y :: r) = none from if_neg hxy]
      show (match c :: x :: y :: r with | c :: 61 :: 93 :: r => Res.ok (S4.span c c) r | _ => .no 101) = .no 101
      split
      · rename_i h
        simp only [List.cons.injEq] at h
        exact absurd ⟨h.2.1, h.2.2.1⟩ hxy
      · rfl

set_option maxHeartbeats 1000000 in
set_option maxRecDepth 100000 in
theorem p_range_yes (rb : Nat) (s : ByteArray) (i o : Nat) (w : World) (n : Nat) (hn : s.size = n) (hbig : n ≤ 1099511627776) (hi : i + 1 ≤ n) (hp : rng ((bsN s).drop i) = true) (hr : RB w rb s i o) :
    Calls Tryz.prog 139 #[.pointer (some ⟨rb, 0, none⟩)] w fun e w' => e = .returned (.bool true) ∧ RS w w' rb s (i + 1) o := by
  rw [rng_pre, Bool.and_eq_true] at hp
  have h1 : Hid ((bsN ⟨#[45]⟩).isPrefixOf ((bsN s).drop i) = true) := hp.1
  have h2 : Hid ((bsN ⟨#[45, 93]⟩).isPrefixOf ((bsN s).drop i) = false) := (show [45, 93].isPrefixOf ((bsN s).drop i) = false by simpa using hp.2)
  clear hp
  go_enter Tryz.func139, Tryz.ntmps139
  go_wp2_with (first | (go_at_call 79; (with_reducible refine (p_stands rb s _ i o _ n hn (by omega) hr).mono ?_); rintro e w1 ⟨rfl, m, rfl⟩; rw [h2.out]) | (go_at_call 59; (with_reducible refine (p_takes_yes rb s _ i o _ n 1 hn hbig hi rfl h1.out (RB.drewN hr _)).mono ?_); rintro e w1 ⟨rfl, hs⟩))
  go_ret
  exact ⟨rfl, ((RS.refl hr).drewN _).trans hs⟩
set_option maxHeartbeats 1000000 in
set_option maxRecDepth 100000 in
theorem p_range_no (rb : Nat) (s : ByteArray) (i o : Nat) (w : World) (n : Nat) (hn : s.size = n) (hi : i ≤ n) (hp : rng ((bsN s).drop i) = false) (hr : RB w rb s i o) :
    Calls Tryz.prog 139 #[.pointer (some ⟨rb, 0, none⟩)] w fun e w' => e = .returned (.bool false) ∧ RS w w' rb s i o := by
  rw [rng_pre] at hp
  obtain ⟨b2, hb2⟩ : ∃ b, [45, 93].isPrefixOf ((bsN s).drop i) = b := ⟨_, rfl⟩
  have h2 : Hid ((bsN ⟨#[45, 93]⟩).isPrefixOf ((bsN s).drop i) = b2) := hb2
  rw [hb2] at hp
  cases b2
  · have h1 : Hid ((bsN ⟨#[45]⟩).isPrefixOf ((bsN s).drop i) = false) := (show [45].isPrefixOf ((bsN s).drop i) = false by simpa using hp)
    clear hp hb2
    go_enter Tryz.func139, Tryz.ntmps139
    go_wp2_with (first | (go_at_call 79; (with_reducible refine (p_stands rb s _ i o _ n hn hi hr).mono ?_); rintro e w1 ⟨rfl, m, rfl⟩; rw [h2.out]) | (go_at_call 59; (with_reducible refine (p_takes_no rb s _ i o _ n hn hi h1.out (RB.drewN hr _)).mono ?_); rintro e w1 ⟨rfl, hs⟩))
    go_ret
    exact ⟨rfl, ((RS.refl hr).drewN _).trans hs⟩
  · clear hp hb2
    go_enter Tryz.func139, Tryz.ntmps139
    go_wp2_with (go_at_call 79; (with_reducible refine (p_stands rb s _ i o _ n hn hi hr).mono ?_); rintro e w1 ⟨rfl, m, rfl⟩; rw [h2.out])
    go_ret
    exact ⟨rfl, (RS.refl hr).drewN _⟩
/-- An item that is no class: its ends. -/
def EndsRet (rb : Nat) (s : ByteArray) (i o n : Nat) (m : Res S4) (w : World) (e : Ending) (w' : World) : Prop :=
  ∃ (j x y : Nat) (k : Int), RS w w' rb s j o ∧ i ≤ j ∧ j ≤ n ∧ x < 256 ∧ y < 256 ∧ e = .returned (.tuple #[.int .u8 (x : Nat), .int .u8 (y : Nat), .int .i64 k]) ∧ ((k = 0 ∧ i < j ∧ m = .ok (S4.span x y) ((bsN s).drop j)) ∨ (k ≠ 0 ∧ m = .no k.toNat))
set_option maxHeartbeats 2000000 in
set_option maxRecDepth 100000 in
theorem p_ends (rb : Nat) (s : ByteArray) (i o : Nat) (w : World) (n : Nat) (hn : s.size = n) (hbig : n ≤ 1099511627776) (hi : i ≤ n) (hc : ∀ u, (bsN s).drop i ≠ 91 :: 58 :: u) (hr : RB w rb s i o) :
    Calls Tryz.prog 127 #[.pointer (some ⟨rb, 0, none⟩)] w fun e w' => EndsRet rb s i o n (item ((bsN s).drop i)) w e w' := by
  have hl : (bsN s).length = n := by rw [bsN_len, hn]
  obtain ⟨t, ht⟩ : ∃ t, (bsN s).drop i = t := ⟨_, rfl⟩
  obtain ⟨b, hb⟩ : ∃ b, [91, 61].isPrefixOf t = b := ⟨_, rfl⟩
  have hp : Hid ((bsN ⟨#[91, 61]⟩).isPrefixOf ((bsN s).drop i) = b) := by show _ = _; rw [ht]; exact hb
  rw [ht] at hc ⊢
  cases b
  · have h2 : ∀ u, t ≠ 91 :: 61 :: u := fun u e => by rw [e, pre2.2 ⟨u, rfl⟩] at hb; cases hb
    obtain ⟨M, hM⟩ : ∃ M, item t = M := ⟨_, rfl⟩
    rw [hM]
    have E1 : Hid (memb false ((bsN s).drop i) = none → M = .no 101) := fun h => by rw [ht] at h; rw [← hM]; exact item_err hc h2 h
    have E2 : Hid (∀ c r, memb false ((bsN s).drop i) = some (c, r) → rng r = false → M = .ok (S4.span c c) r) := fun c r h h3 => by rw [ht] at h; rw [← hM]; exact item_no_rng hc h2 h h3
    have E3 : Hid (∀ c r, memb false ((bsN s).drop i) = some (c, 45 :: r) → rng (45 :: r) = true → M = match memb true r with | none => .no 101 | some (d, r') => if d < c then .no 102 else .ok (S4.span c d) r') := fun c r h h3 => by rw [ht] at h; rw [← hM]; exact item_rng hc h2 h h3
    clear hM ht hb h2 hc
    go_enter Tryz.func127, Tryz.ntmps127
    go_wp2_with (first | (go_at_call 59; (with_reducible refine (p_takes_no rb s _ i o _ n hn hi hp.out hr).mono ?_); rintro e w1 ⟨rfl, hs⟩) | (go_at_call 138; (with_reducible refine (p_member rb s i o _ n hn hbig hi hs.box).mono ?_); rintro e w2 ⟨j, x, hs2, hj, hjn, hx, ⟨r, hr1, hr2, hr3, rfl⟩ | ⟨hr1, rfl⟩⟩))
    · have R1 := Lib.hid hr1
      have R3 := Lib.hid hr3
      clear hr1
      by_cases hg : rng ((bsN s).drop j) = true
      · obtain ⟨u, hu⟩ := rng_cons hg
        obtain ⟨g1, _, g3⟩ := drop_cons hu
        have hj1 : j + 1 ≤ n := by omega
        have G3 := Lib.hid g3
        have HU := Lib.hid (hr3.symm.trans hu)
        have HG := Lib.hid hg
        clear g3 hu hr3 hg g1
        go_wp2_with (first | (go_at_call 139; (with_reducible refine (p_range_yes rb s j o _ n hn hbig hj1 HG.out hs2.box).mono ?_); rintro e w3 ⟨rfl, hs3⟩) | (go_at_call 140; (with_reducible refine (p_second rb s (j + 1) o _ n hn hbig hj1 hs3.box).mono ?_); rintro e w4 ⟨j', y, hs4, hj', hjn', hy, ⟨r', hq1, hq2, hq3, rfl⟩ | ⟨hq1, rfl⟩⟩))
        · have hM := E3.out x u (by rw [R1.out, HU.out]) (by rw [← HU.out, ← R3.out]; exact HG.out)
          rw [G3.out] at hq1
          rw [hq1] at hM
          have HM : Hid (M = if y < x then .no 102 else .ok (S4.span x y) r') := hM
          have Q3 := Lib.hid hq3
          clear hM hq1 hq3
          have hchg := Lib.hid (((hs.trans hs2).trans hs3).trans hs4)
          have hyx : y < x := by omega
          go_ret3
          exact ⟨j', x, y, 102, hchg.out, by omega, hjn', hx, hy, rfl, .inr ⟨by decide, by rw [HM.out, if_pos hyx]; rfl⟩⟩
        · have hM := E3.out x u (by rw [R1.out, HU.out]) (by rw [← HU.out, ← R3.out]; exact HG.out)
          rw [G3.out] at hq1
          rw [hq1] at hM
          have HM : Hid (M = if y < x then .no 102 else .ok (S4.span x y) r') := hM
          have Q3 := Lib.hid hq3
          clear hM hq1 hq3
          have hchg := Lib.hid (((hs.trans hs2).trans hs3).trans hs4)
          have hyx : ¬ y < x := by omega
          go_ret3
          exact ⟨j', x, y, 0, hchg.out, by omega, hjn', hx, hy, rfl, .inl ⟨rfl, by omega, by rw [HM.out, if_neg hyx, Q3.out]⟩⟩
        · have hM := E3.out x u (by rw [R1.out, HU.out]) (by rw [← HU.out, ← R3.out]; exact HG.out)
          rw [G3.out] at hq1
          rw [hq1] at hM
          have HM : Hid (M = .no 101) := hM
          clear hM hq1
          have hchg := Lib.hid (((hs.trans hs2).trans hs3).trans hs4)
          go_wp2
          go_ret3
          exact ⟨j', x, y, 101, hchg.out, by omega, hjn', hx, hy, rfl, .inr ⟨by decide, HM.out⟩⟩
      · simp only [Bool.not_eq_true] at hg
        have HG := Lib.hid hg
        have HM : Hid (M = .ok (S4.span x x) r) := E2.out x r R1.out (by rw [← hr3]; exact hg)
        clear hg hr3
        go_wp2_with (go_at_call 139; (with_reducible refine (p_range_no rb s j o _ n hn hjn HG.out hs2.box).mono ?_); rintro e w3 ⟨rfl, hs3⟩)
        go_ret3
        exact ⟨j, x, x, 0, (hs.trans hs2).trans hs3, by omega, hjn, hx, hx, rfl, .inl ⟨rfl, hr2, by rw [HM.out, R3.out]⟩⟩
    · have HM := Lib.hid (E1.out hr1)
      clear hr1
      go_wp2
      go_ret3
      exact ⟨j, x, x, 101, hs.trans hs2, hj, hjn, hx, hx, rfl, .inr ⟨by decide, HM.out⟩⟩
  · obtain ⟨u, rfl⟩ := pre2.1 hb
    obtain ⟨g1, _, g3⟩ := drop_cons ht
    obtain ⟨k1, _, k3⟩ := drop_cons g3
    have hi2 : i + 2 ≤ n := by omega
    obtain ⟨M, hM⟩ : ∃ M, item (91 :: 61 :: u) = M := ⟨_, rfl⟩
    rw [hM]
    have HM : Hid (M = match encl 61 93 ((bsN s).drop (i + 2)) with | none => .no 101 | some (c, r) => .ok (S4.span c c) r) := by show _ = _; rw [← hM, item_eq, k3]
    clear hM ht hb g3 k3 hc g1 k1
    go_enter Tryz.func127, Tryz.ntmps127
    go_wp2_with (first | (go_at_call 59; (with_reducible refine (p_takes_yes rb s _ i o _ n 2 hn hbig hi2 rfl hp.out hr).mono ?_); rintro e w1 ⟨rfl, hs⟩) | (go_at_call 137; (with_reducible refine (p_enclosed rb s 61 93 (i + 2) o _ n hn hbig hi2 hs.box).mono ?_); rintro e w2 ⟨j, x, hs2, hj, hjn, hx, ⟨r, hr1, hr2, hr3, rfl⟩ | ⟨hr1, rfl⟩⟩))
    · have H2 : Hid (M = .ok (S4.span x x) ((bsN s).drop j)) := by
        show _ = _
        rw [HM.out, show encl 61 93 ((bsN s).drop (i + 2)) = some (x, r) from hr1, hr3]
      clear hr1 hr3
      go_wp2
      go_ret3
      exact ⟨j, x, x, 0, hs.trans hs2, by omega, hjn, hx, hx, rfl, .inl ⟨rfl, by omega, H2.out⟩⟩
    · have H2 : Hid (M = .no 101) := by
        show _ = _
        rw [HM.out, show encl 61 93 ((bsN s).drop (i + 2)) = none from hr1]
      clear hr1
      go_wp2
      go_ret3
      exact ⟨j, x, x, 101, hs.trans hs2, by omega, hjn, hx, hx, rfl, .inr ⟨by decide, H2.out⟩⟩
end Go.Proofs.YthhchpmlljfpjaaGreat
