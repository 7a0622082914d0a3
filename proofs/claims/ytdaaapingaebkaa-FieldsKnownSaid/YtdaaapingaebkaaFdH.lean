import Derived.Test.YtdaaapingaebkaaFdG
namespace Go.Proofs.Ytdaaapingaebkaa
open Go.RowKit

/-! fields: Split. -/
theorem str_empty {s : ByteArray} (h : s.size = 0) : s = ⟨#[]⟩ := by
  apply ByteArray.ext
  exact Array.eq_empty_of_size_eq_zero h
theorem SRet.under {r : Res} {w w0 : World} {e : Ending} {w' : World} (h : SRet r w0 e w') (hb : Below w.heap.size w w0) : SRet r w e w' := by
  obtain ⟨h1 | ⟨fs, a, cap, h1, h2, h3, h4, h5⟩, hb2⟩ := h
  · exact ⟨.inl h1, bel_next hb hb2⟩
  · exact ⟨.inr ⟨fs, a, cap, h1, h2, h3, h4, ownsS_base h5 hb.size⟩, bel_next hb hb2⟩
set_option maxHeartbeats 1000000 in
set_option maxRecDepth 100000 in
theorem f_Split (s : ByteArray) (n : Nat) (w : World) (hn : s.size = n) (r : Res) (hr : (splitR (bsN s)).fin n = r) :
    Calls Try.prog 12 #[.string s] w fun e w' => SRet r w e w' := by
  have hsl : (bsN s).length = n := by rw [bsN_len, hn]
  unfold splitR at hr
  rw [hsl] at hr
  by_cases hbig : 65536 < n
  · rw [if_pos hbig] at hr
    obtain rfl : r = .bad 0 3 := hr.symm
    have hb2 : (n : Int) > 65536 := by omega
    clear hr hsl
    go_enter Try.func12, Try.ntmps12
    go_wp2
    go_ret3
    exact ⟨.inl ⟨0, 3, rfl, by decide, rfl⟩, Below.refl _ _⟩
  · rw [if_neg hbig] at hr
    have HR := Lib.hid hr
    have HSL := Lib.hid hsl
    have hb2 : ¬ (65536 : Int) < (n : Int) := by omega
    have hb3 : n ≤ 65536 := by omega
    have HCUT := Lib.hid (fun W => f_fields s n W hn hb3)
    clear hr hsl hbig
    go_enter Try.func12, Try.ntmps12
    go_wp2
    go_loopw [11] (fun iv wr => ∃ i : Nat, i ≤ n ∧ iv = .int .i64 (i : Nat) ∧ Hid (∀ j, j < i → mayB (at0 (bsN s) j) = true) ∧ wr = w) (fun iv _ => n - (intOf iv).toNat)
    case atStart => exact ⟨0, Nat.zero_le _, rfl, fun j h => absurd h (Nat.not_lt_zero _), rfl⟩
    case round =>
      obtain ⟨i, hi, rfl, HE, rfl⟩ := hrel
      by_cases hin : i < n
      · obtain ⟨c, hc⟩ : ∃ c, at0 (bsN s) i = c := ⟨_, rfl⟩
        have x1 : ∀ W, (Instr.index 9 (.string s) (.int .i64 (i : Int))).run Try.prog W = .ok (.int .u8 (c : Nat)) W := idx_str 9 Try.underlying9 s i c (by omega) hc
        have c1 : (0 : Int) ≤ (i : Int) := by omega
        have c2 : (i : Int) < (s.size : Int) := by omega
        have HC := Lib.hid hc
        obtain ⟨b, hb⟩ : ∃ b, mayB c = b := ⟨_, rfl⟩
        have HM : Hid (∀ W, Calls Try.prog 30 #[.int .u8 (c : Nat)] W fun e w' => e = .returned (.bool b) ∧ w' = W) := fun W => by have := f_mayStand c W; rw [hb] at this; exact this
        have HB := Lib.hid hb
        clear hc hb
        cases b with
        | true =>
          have HE2 : Hid (∀ j, j < i + 1 → mayB (at0 (bsN s) j) = true) := fun j hj => by
            by_cases h : j = i
            · subst h; rw [HC.out]; exact HB.out
            · exact HE.out j (by omega)
          go_wp2_with (go_at_call 30; refine (HM.out _).mono ?_; rintro e w1 ⟨rfl, rfl⟩)
          go_roundw
          case rel => exact ⟨i + 1, by omega, by go_num, HE2.out, trivial⟩
          case measure => simp [intOf]; omega
        | false =>
          have hbad := badB_some (l := bsN s) (by rw [HSL.out]; exact hin) HE.out (by rw [HC.out]; exact HB.out)
          have hr := HR.out
          rw [hbad] at hr
          obtain rfl : r = .bad i 130 := hr.symm
          clear hbad hr
          go_wp2_with (go_at_call 30; refine (HM.out _).mono ?_; rintro e w1 ⟨rfl, rfl⟩)
          go_ret3
          exact ⟨.inl ⟨i, 130, rfl, by decide, rfl⟩, Below.refl _ _⟩
      · obtain rfl : i = n := by omega
        have hr := HR.out
        rw [badB_none (l := bsN s) (by rw [HSL.out]; exact HE.out)] at hr
        simp only at hr
        by_cases h0 : i = 0
        · obtain rfl := str_empty (hn.trans h0)
          obtain rfl : r = .bad 0 131 := by rw [← hr]; rfl
          clear hr
          go_wp2
          go_ret3
          exact ⟨.inl ⟨0, 131, rfl, by decide, rfl⟩, Below.refl _ _⟩
        · have hne : (bsN s).isEmpty = false := by
            cases hx : bsN s with
            | nil => have := HSL.out; rw [hx] at this; simp at this; omega
            | cons c t => rfl
          have hse : (s.toList == []) = false := by
            rw [beq_lit]
            refine decide_eq_false fun e => ?_
            rw [e] at hne
            cases hne
          obtain ⟨c, hc⟩ : ∃ c, at0 (bsN s) 0 = c := ⟨_, rfl⟩
          have x1 : ∀ W, (Instr.index 9 (.string s) (.int .i64 0)).run Try.prog W = .ok (.int .u8 (c : Nat)) W := fun W => idx_str 9 Try.underlying9 s 0 c (by omega) hc W
          have c2 : (0 : Int) < (s.size : Int) := by omega
          obtain ⟨b, hb⟩ : ∃ b, goesB c = b := ⟨_, rfl⟩
          have HM : Hid (∀ W, Calls Try.prog 31 #[.int .u8 (c : Nat)] W fun e w' => e = .returned (.bool b) ∧ w' = W) := fun W => by have := f_goesOn c W; rw [hb] at this; exact this
          rw [hne, hc, hb] at hr
          clear hc hb hne HR HE
          cases b with
          | true =>
            obtain rfl : r = .bad 0 131 := hr.symm
            clear hr
            go_wp2_with (go_at_call 31; refine (HM.out _).mono ?_; rintro e w1 ⟨rfl, rfl⟩)
            go_ret3
            exact ⟨.inl ⟨0, 131, rfl, by decide, rfl⟩, Below.refl _ _⟩
          | false =>
            have hr2 : (walk (bsN s) 0 []).fin i = r := hr
            rw [hr2] at HCUT
            clear hr hr2
            go_wp2_with (go_at_call 31; refine (HM.out _).mono ?_; rintro e w1 ⟨rfl, rfl⟩)
            refine (HCUT.out _).mono ?_
            rintro e w1 ⟨⟨i1, c1, h1, h2, rfl⟩ | ⟨fs, a, cap, h1, h2, h3, rfl, h5⟩, hb⟩
            · have H1 := Lib.hid h1
              have H2 := Lib.hid h2
              clear h1 h2
              go_wp2
              go_ret3
              exact ⟨.inl ⟨i1, c1, H1.out, H2.out, rfl⟩, hb⟩
            · have H1 := Lib.hid h1
              have H2 := Lib.hid h2
              have H3 := Lib.hid h3
              have H5 := Lib.hid h5
              clear h1 h2 h3 h5
              go_wp2
              go_ret3
              exact ⟨.inr ⟨fs, a, cap, H1.out, H2.out, H3.out, rfl, H5.out⟩, hb⟩
end Go.Proofs.Ytdaaapingaebkaa
