import Derived.Test.YtkghgfiindpcjaaDeL
namespace Go.Proofs.Ytkghgfiindpcjaa
open Go.RowKit

/-! The program's contents and keys' bytes. -/
theorem told0 {xs : List Nat} (bx : Bd xs) (h : val xs < 18446744073709551616 ^ 128) : fl xs ≤ 128 := by
  have := (num_fm bx).len_le (k := 128)
  rw [fm_length] at this
  exact this.2 h
/-- A number's content, or the error. -/
def CofPost (n : Nat) (w : World) (e : Ending) (w' : World) : Prop :=
  Below w.heap.size w w' ∧ ((n < 2 ^ 4096 ∧ ∃ v l, e = .returned v ∧ own8 w' w.heap.size v l ∧ IntB n l ∧ l.length ≤ 1025) ∨ (¬ n < 2 ^ 4096 ∧ e = pan 3))
set_option maxHeartbeats 800000 in
set_option maxRecDepth 100000 in
theorem contentOf_any (a : Option Addr) (la ca : Nat) (xs : List Nat) (w : World) (hla : xs.length = la) (hba : la ≤ 1048576) (hca : la ≤ ca) (hra : Rd .u64 w a xs) (bx : Bd xs) :
    Calls Try.prog 54 #[.slice a la ca] w (CofPost (val xs) w) := by
  have HL := Lib.hid hla
  have HR := Lib.hid hra
  have HX := Lib.hid bx
  obtain ⟨V, hV⟩ : ∃ V, V = val xs := ⟨_, rfl⟩
  have HV := Lib.hid hV
  rw [← hV]
  unfold CofPost
  clear hla hra bx hV
  go_enter Try.func54, Try.ntmps54
  go_wp2_with fail
  refine (bits_any a la ca xs _ HL.out (by omega) hca HR.out HX.out).mono ?_
  rintro e w2 ⟨⟨q, rfl, hq, hqs⟩, rfl⟩
  rw [← HV.out] at hq
  have hle := bits_le (m := 4096) hq
  clear hq hqs
  by_cases hq4 : q ≤ 4096
  · have hd : decide ((q : Int) ≤ 4096) = true := decide_eq_true (by omega)
    have HP := Lib.hid (hle.1 hq4)
    clear hle hq4
    go_wp2_with fail
    refine (demand_yes _ _).mono ?_
    rintro e w' ⟨rfl, rfl⟩
    go_wp2_with fail
    refine (bytes_any a la ca xs _ HL.out hba hca HR.out HX.out).mono ?_
    rintro e w2 ⟨hb2, a, c, k, zs, rfl, ho, hz, hQ⟩
    have hT : k = 0 ∧ BNum zs V := by
      rcases hQ with ⟨h1, _, _⟩ | ⟨_, h2, h3⟩
      · have := told0 HX.out (by rw [← HV.out]; have := HP.out; have := lim8; omega)
        omega
      · rw [← HV.out] at h3; exact ⟨h2, h3⟩
    obtain ⟨rfl, hN⟩ := hT
    obtain ⟨a', c', e', hc', hr', hn', -⟩ := own8_open ho
    simp only [Value.slice.injEq, true_and] at e'
    obtain ⟨rfl, rfl⟩ := e'
    have HN := Lib.hid hN
    have HRZ := Lib.hid hr'
    have HNO := Lib.hid hn'
    have HB := Lib.hid hb2
    have HO := Lib.hid ho
    obtain ⟨m, hm⟩ : ∃ m, m = zs.length := ⟨_, rfl⟩
    have HM := Lib.hid hm
    have hz' := hz
    rw [← hm] at hz' ⊢
    have hcase : (m = 0 ∨ (0 < m ∧ 128 ≤ at0 zs 0)) ∨ (0 < m ∧ at0 zs 0 < 128) := by omega
    have HZ := Lib.hid hz
    clear hQ hN ho hz hc' hr' hn' hb2 hm
    rcases hcase with hcase | ⟨h1, h2⟩
    · have HIB : Hid (IntB V (0 :: zs)) := .inr ⟨zs, HN.out, by rcases hcase with h | ⟨_, h⟩; exact .inl (List.eq_nil_of_length_eq_zero (by rw [← HM.out]; exact h)); exact .inr h, rfl⟩
      rcases hcase with h0 | ⟨h1, h2⟩
      · subst h0
        go_wp2_with fail
        have hP := parts2 (w := w2.alloc (.cells #[.int .u8 ((0 : Nat) : Int)] 5)) (T := 22) (p := (some ⟨w2.heap.size, 0, none⟩, 1, [0])) (q := (a, c, zs)) ⟨rd_lit w2 0, fun h => by cases h⟩ ⟨rd_alloc HRZ.out _, HNO.out⟩
        rw [show (w2.alloc (.cells #[.int .u8 ((0 : Nat) : Int)] 5)).heap.size = w2.heap.size + 1 by simp] at hP
        simp only at hP
        rw [← HM.out] at hP
        refine (concat_any (w2.heap.size + 1) _ 2 _ rfl (by decide) hP (by have := HZ.out; simp [flatL]; omega)).mono ?_
        rintro e w3 ⟨v, rfl, ho, hb3⟩
        have HO3 := Lib.hid ho
        have HB3 := Lib.hid (((HB.out.alloc HB.out.size _).alloc (by have := HB.out.size; simp; omega) _).trans (hb3.mono (by have := HB.out.size; simp; omega)))
        clear ho hb3 hP
        go_wp2
        go_ret
        exact ⟨HB3.out, .inl ⟨HP.out, _, _, rfl, owns_base HO3.out (by have := HB.out.size; simp; omega), by rw [show flatL [(some ⟨w2.heap.size, 0, none⟩, 1, [0]), (a, c, zs)] = 0 :: zs by simp [flatL]]; exact HIB.out, by have := HZ.out; simp [flatL]; omega⟩⟩
      · obtain ⟨bb, off, rfl, hc⟩ := HRZ.out.get (by rw [← HM.out]; exact h1)
        have c0 := hc 0 (by rw [← HM.out]; exact h1)
        rw [show zs.getD 0 0 = at0 zs 0 from rfl, Nat.add_zero] at c0
        obtain ⟨x, hx⟩ : ∃ x, x = at0 zs 0 := ⟨_, rfl⟩
        rw [← hx] at c0 h2
        have hq0 : ((m : Int) == 0) = false := by simp; omega
        have hq1 : decide ((128 : Int) ≤ (x : Int)) = true := decide_eq_true (by omega)
        clear hc hx
        go_wp2_with fail
        have hP := parts2 (w := w2.alloc (.cells #[.int .u8 ((0 : Nat) : Int)] 5)) (T := 22) (p := (some ⟨w2.heap.size, 0, none⟩, 1, [0])) (q := (some ⟨bb, off, none⟩, c, zs)) ⟨rd_lit w2 0, fun h => by cases h⟩ ⟨rd_alloc HRZ.out _, HNO.out⟩
        rw [show (w2.alloc (.cells #[.int .u8 ((0 : Nat) : Int)] 5)).heap.size = w2.heap.size + 1 by simp] at hP
        simp only at hP
        rw [← HM.out] at hP
        refine (concat_any (w2.heap.size + 1) _ 2 _ rfl (by decide) hP (by have := HZ.out; simp [flatL]; omega)).mono ?_
        rintro e w3 ⟨v, rfl, ho, hb3⟩
        have HO3 := Lib.hid ho
        have HB3 := Lib.hid (((HB.out.alloc HB.out.size _).alloc (by have := HB.out.size; simp; omega) _).trans (hb3.mono (by have := HB.out.size; simp; omega)))
        clear ho hb3 hP
        go_wp2
        go_ret
        exact ⟨HB3.out, .inl ⟨HP.out, _, _, rfl, owns_base HO3.out (by have := HB.out.size; simp; omega), by rw [show flatL [(some ⟨w2.heap.size, 0, none⟩, 1, [0]), (some ⟨bb, off, none⟩, c, zs)] = 0 :: zs by simp [flatL]]; exact HIB.out, by have := HZ.out; simp [flatL]; omega⟩⟩
    · obtain ⟨bb, off, rfl, hc⟩ := HRZ.out.get (by rw [← HM.out]; exact h1)
      have HIB : Hid (IntB V zs) := .inl ⟨HN.out, List.length_pos_iff.1 (by rw [← HM.out]; exact h1), h2⟩
      have c0 := hc 0 (by rw [← HM.out]; exact h1)
      rw [show zs.getD 0 0 = at0 zs 0 from rfl, Nat.add_zero] at c0
      obtain ⟨x, hx⟩ : ∃ x, x = at0 zs 0 := ⟨_, rfl⟩
      rw [← hx] at c0 h2
      have hq0 : ((m : Int) == 0) = false := by simp; omega
      have hq1 : decide ((128 : Int) ≤ (x : Int)) = false := decide_eq_false (by omega)
      clear hc hx
      go_wp2
      go_ret
      exact ⟨HB.out, .inl ⟨HP.out, _, _, rfl, by rw [HM.out]; exact HO.out, HIB.out, by have := HZ.out; omega⟩⟩
  · have hd : decide ((q : Int) ≤ 4096) = false := decide_eq_false (by omega)
    have HP := Lib.hid (fun h => hq4 (hle.2 h))
    clear hle hq4
    go_wp2_with fail
    refine (demand_no _ _).mono ?_
    rintro e w' ⟨rfl, rfl⟩
    go_wp2
    exact ⟨rfl, Below.refl _ _, .inr ⟨HP.out, rfl⟩⟩
end Go.Proofs.Ytkghgfiindpcjaa
