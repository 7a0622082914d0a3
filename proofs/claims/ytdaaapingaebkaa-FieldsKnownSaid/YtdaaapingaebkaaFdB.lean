import Derived.Test.YtdaaapingaebkaaFdA
namespace Go.Proofs.Ytdaaapingaebkaa
open Go.RowKit

/-! fields: letters and names, in the program. -/
set_option maxRecDepth 100000 in
theorem f_mayStand (c : Nat) (w : World) : Calls Try.prog 30 #[.int .u8 (c : Nat)] w fun e w' => e = .returned (.bool (mayB c)) ∧ w' = w := by
  obtain ⟨b, hb⟩ : ∃ b, b = mayB c := ⟨_, rfl⟩
  rw [← hb]
  unfold mayB at hb
  rcases (show c = 9 ∨ c = 10 ∨ c = 13 ∨ (c < 32 ∧ c ≠ 9 ∧ c ≠ 10 ∧ c ≠ 13) ∨ (32 ≤ c ∧ c ≤ 126) ∨ 126 < c by omega) with u | u | u | ⟨u, u1, u2, u3⟩ | ⟨u, u1⟩ | u
  · subst u
    obtain rfl : b = true := by rw [hb]; decide
    clear hb
    go_enter Try.func30, Try.ntmps30
    go_wp2
    go_ret
    exact ⟨rfl, rfl⟩
  · subst u
    obtain rfl : b = true := by rw [hb]; decide
    clear hb
    go_enter Try.func30, Try.ntmps30
    go_wp2
    go_ret
    exact ⟨rfl, rfl⟩
  · subst u
    obtain rfl : b = true := by rw [hb]; decide
    clear hb
    go_enter Try.func30, Try.ntmps30
    go_wp2
    go_ret
    exact ⟨rfl, rfl⟩
  · obtain rfl : b = false := by rw [hb]; exact decide_eq_false (by omega)
    have h1 : ¬ (32 : Int) ≤ (c : Int) := by omega
    have h2 : ((c : Int) == 9) = false := by simp; omega
    have h3 : ((c : Int) == 10) = false := by simp; omega
    have h4 : ((c : Int) == 13) = false := by simp; omega
    clear hb
    go_enter Try.func30, Try.ntmps30
    go_wp2
    go_ret
    exact ⟨rfl, rfl⟩
  · obtain rfl : b = true := by rw [hb]; exact decide_eq_true (by omega)
    have h1 : (32 : Int) ≤ (c : Int) := by omega
    have h2 : (c : Int) ≤ 126 := by omega
    clear hb
    go_enter Try.func30, Try.ntmps30
    go_wp2
    go_ret
    exact ⟨rfl, rfl⟩
  · obtain rfl : b = false := by rw [hb]; exact decide_eq_false (by omega)
    have h1 : (32 : Int) ≤ (c : Int) := by omega
    have h0 : ¬ (c : Int) ≤ 126 := by omega
    have h2 : ((c : Int) == 9) = false := by simp; omega
    have h3 : ((c : Int) == 10) = false := by simp; omega
    have h4 : ((c : Int) == 13) = false := by simp; omega
    clear hb
    go_enter Try.func30, Try.ntmps30
    go_wp2
    go_ret
    exact ⟨rfl, rfl⟩
set_option maxRecDepth 100000 in
theorem f_goesOn (c : Nat) (w : World) : Calls Try.prog 31 #[.int .u8 (c : Nat)] w fun e w' => e = .returned (.bool (goesB c)) ∧ w' = w := by
  obtain ⟨b, hb⟩ : ∃ b, b = goesB c := ⟨_, rfl⟩
  rw [← hb]
  unfold goesB at hb
  rcases (show (c = 9 ∨ c = 10 ∨ c = 13 ∨ c = 32) ∨ (c ≠ 9 ∧ c ≠ 10 ∧ c ≠ 13 ∧ c ≠ 32) by omega) with u | ⟨u0, u1, u2, u3⟩
  · rcases u with u | u | u | u
    all_goals
      subst u
      obtain rfl : b = true := by rw [hb]; decide
      clear hb
      go_enter Try.func31, Try.ntmps31
      go_wp2
      go_ret
      exact ⟨rfl, rfl⟩
  · obtain rfl : b = false := by rw [hb]; exact decide_eq_false (by omega)
    have h1 : ((c : Int) == 9) = false := by simp; omega
    have h2 : ((c : Int) == 10) = false := by simp; omega
    have h3 : ((c : Int) == 13) = false := by simp; omega
    have h4 : ((c : Int) == 32) = false := by simp; omega
    clear hb
    go_enter Try.func31, Try.ntmps31
    go_wp2
    go_ret
    exact ⟨rfl, rfl⟩
set_option maxRecDepth 100000 in
theorem f_small (c : Nat) (w : World) (hc : c < 256) : Calls Try.prog 44 #[.int .u8 (c : Nat)] w fun e w' => e = .returned (.int .u8 (smA c : Nat)) ∧ w' = w := by
  obtain ⟨d, hd⟩ : ∃ d, d = smA c := ⟨_, rfl⟩
  rw [← hd]
  unfold smA at hd
  rcases (show c < 65 ∨ (65 ≤ c ∧ c ≤ 90) ∨ (65 ≤ c ∧ 90 < c) by omega) with u | ⟨u, u1⟩ | ⟨u, u1⟩
  · rw [if_neg (by omega)] at hd
    subst hd
    go_enter Try.func44, Try.ntmps44
    go_wp2
    go_ret
    exact ⟨rfl, rfl⟩
  · rw [if_pos ⟨u, u1⟩] at hd
    have e1 : IntKind.u8.wrap ((c : Int) - 65) = (c : Int) - 65 := by
      rw [show ((c : Int) - 65) = ((c - 65 : Nat) : Int) by omega]; exact wrap_u8_in (c - 65) (by omega)
    have e2 : IntKind.u8.wrap ((c : Int) - 65 + 97) = (d : Int) := by
      rw [show ((c : Int) - 65 + 97) = ((d : Nat) : Int) by omega]; exact wrap_u8_in d (by omega)
    have HD := Lib.hid hd
    clear hd
    go_enter Try.func44, Try.ntmps44
    go_wp2
    go_ret
    exact ⟨rfl, rfl⟩
  · rw [if_neg (by omega)] at hd
    subst hd
    go_enter Try.func44, Try.ntmps44
    go_wp2
    go_ret
    exact ⟨rfl, rfl⟩
/-- A kind's name, as a text. -/
def nameS (k : Nat) : ByteArray := strN (nameN k)
theorem nameN_8 : ∀ k, k < 8 → ∀ x ∈ nameN k, x < 256 := by decide
theorem bsN_nameS {k : Nat} (h : k < 8) : bsN (nameS k) = nameN k := bsN_strN (nameN_8 k h)
set_option maxRecDepth 100000 in
theorem f_nameOf (k : Nat) (w : World) : Calls Try.prog 33 #[.int .u8 (k : Nat)] w fun e w' => e = .returned (.string (nameS k)) ∧ w' = w := by
  rcases (show (k = 1 ∨ k = 2 ∨ k = 3 ∨ k = 4 ∨ k = 5 ∨ k = 6 ∨ k = 7) ∨ (k ≠ 1 ∧ k ≠ 2 ∧ k ≠ 3 ∧ k ≠ 4 ∧ k ≠ 5 ∧ k ≠ 6 ∧ k ≠ 7) by omega) with u | ⟨u1, u2, u3, u4, u5, u6, u7⟩
  · rcases u with u | u | u | u | u | u | u
    all_goals
      subst u
      go_enter Try.func33, Try.ntmps33
      go_wp2
      go_ret
      exact ⟨rfl, rfl⟩
  · have e0 : nameS k = ⟨#[]⟩ := by
      unfold nameS
      rw [show nameN k = [] by unfold nameN; split <;> first | contradiction | rfl]
      rfl
    have h1 : ((k : Int) == 1) = false := by simp; omega
    have h2 : ((k : Int) == 2) = false := by simp; omega
    have h3 : ((k : Int) == 3) = false := by simp; omega
    have h4 : ((k : Int) == 4) = false := by simp; omega
    have h5 : ((k : Int) == 5) = false := by simp; omega
    have h6 : ((k : Int) == 6) = false := by simp; omega
    have h7 : ((k : Int) == 7) = false := by simp; omega
    rw [e0]
    clear e0
    go_enter Try.func33, Try.ntmps33
    go_wp2
    go_ret
    exact ⟨rfl, rfl⟩
theorem drew_more {w wr : World} (h : ∃ k, wr = w.drewN k) (n : Nat) : ∃ k, wr.drewN n = w.drewN k := by
  obtain ⟨k, rfl⟩ := h
  exact ⟨_, World.drewN_drewN _ _ _⟩
theorem map_small_eq {x y : List Nat} (h : x.length = y.length) : x.map smA = y.map smA ↔ ∀ i, i < x.length → smA (at0 x i) = smA (at0 y i) := by
  constructor
  · intro e i hi
    have := congrArg (fun l => l.getD i 0) e
    simpa [at0, List.getD, hi, h ▸ hi] using this
  · intro e
    refine List.ext_getElem (by simp [h]) fun i h1 h2 => ?_
    have h3 : i < x.length := by simpa using h1
    have := e i h3
    rw [at0_getElem h3, at0_getElem (by omega)] at this
    simpa using this
set_option maxHeartbeats 1000000 in
set_option maxRecDepth 100000 in
theorem f_alike (s t : ByteArray) (n m : Nat) (w : World) (hs : s.size = n) (ht : t.size = m) (hbig : m ≤ 1099511627776) :
    Calls Try.prog 37 #[.string s, .string t] w fun e w' => e = .returned (.bool (decide ((bsN s).map smA = (bsN t).map smA))) ∧ ∃ k, w' = w.drewN k := by
  obtain ⟨b, hb⟩ : ∃ b, b = decide ((bsN s).map smA = (bsN t).map smA) := ⟨_, rfl⟩
  rw [← hb]
  have hls : (bsN s).length = n := by rw [bsN_len, hs]
  have hlt : (bsN t).length = m := by rw [bsN_len, ht]
  by_cases hnm : n = m
  · subst hnm
    have hiff := map_small_eq (hls.trans hlt.symm)
    rw [hls] at hiff
    have HIFF := Lib.hid hiff
    have HB := Lib.hid hb
    have HLS := Lib.hid hls
    have HLT := Lib.hid hlt
    clear hiff hb hls hlt
    go_enter Try.func37, Try.ntmps37
    go_wp2
    go_loopw [13] (fun iv wr => ∃ i : Nat, i ≤ n ∧ iv = .int .i64 (i : Nat) ∧ Hid (∀ j, j < i → smA (at0 (bsN s) j) = smA (at0 (bsN t) j)) ∧ Hid (∃ k, wr = w.drewN k)) (fun iv _ => n - (intOf iv).toNat)
    case atStart => exact ⟨0, Nat.zero_le _, rfl, fun j h => absurd h (Nat.not_lt_zero _), 0, rfl⟩
    case round =>
      obtain ⟨i, hi, rfl, HE, HK⟩ := hrel
      by_cases hin : i < n
      · obtain ⟨c, hc⟩ : ∃ c, at0 (bsN s) i = c := ⟨_, rfl⟩
        obtain ⟨d, hd⟩ : ∃ d, at0 (bsN t) i = d := ⟨_, rfl⟩
        have x1 : ∀ W, (Instr.index 9 (.string s) (.int .i64 (i : Int))).run Try.prog W = .ok (.int .u8 (c : Nat)) W := idx_str 9 Try.underlying9 s i c (by omega) hc
        have x2 : ∀ W, (Instr.index 9 (.string t) (.int .i64 (i : Int))).run Try.prog W = .ok (.int .u8 (d : Nat)) W := idx_str 9 Try.underlying9 t i d (by omega) hd
        have hc8 : c < 256 := by rw [← hc]; exact (bsN_8 s).at0 i
        have hd8 : d < 256 := by rw [← hd]; exact (bsN_8 t).at0 i
        have c1 : (0 : Int) ≤ (i : Int) := by omega
        have c2 : (i : Int) < (s.size : Int) := by omega
        have c3 : (i : Int) < (t.size : Int) := by omega
        have HC := Lib.hid hc
        have HD := Lib.hid hd
        obtain ⟨sc, hsc⟩ : ∃ sc, smA c = sc := ⟨_, rfl⟩
        obtain ⟨sd, hsd⟩ : ∃ sd, smA d = sd := ⟨_, rfl⟩
        have HCS : Hid (∀ W, Calls Try.prog 44 #[.int .u8 (c : Nat)] W fun e w' => e = .returned (.int .u8 (sc : Nat)) ∧ w' = W) := by rw [← hsc]; exact fun W => f_small c W hc8
        have HDS : Hid (∀ W, Calls Try.prog 44 #[.int .u8 (d : Nat)] W fun e w' => e = .returned (.int .u8 (sd : Nat)) ∧ w' = W) := by rw [← hsd]; exact fun W => f_small d W hd8
        have HSC := Lib.hid hsc
        have HSD := Lib.hid hsd
        clear hc hd hc8 hd8 hsc hsd
        by_cases hcd : sc = sd
        · have HE2 : Hid (∀ j, j < i + 1 → smA (at0 (bsN s) j) = smA (at0 (bsN t) j)) := fun j hj => by
            by_cases h : j = i
            · subst h; rw [HC.out, HD.out, HSC.out, HSD.out]; exact hcd
            · exact HE.out j (by omega)
          have hq : ((sc : Int) == (sd : Int)) = true := by rw [hcd]; simp
          clear hcd
          go_wp2
          go_quiet ((go_at_call 44; with_reducible first | exact Calls.quiet_of_same (HCS.out _) | exact Calls.quiet_of_same (HDS.out _)))
          go_wp2
          go_roundw
          case rel => exact ⟨i + 1, by omega, by go_num, HE2.out, drew_more HK.out _⟩
          case measure => simp [intOf]; omega
        · have hq : ((sc : Int) == (sd : Int)) = false := by simp; omega
          obtain rfl : b = false := by
            rw [HB.out]
            refine decide_eq_false fun e => hcd ?_
            have := HIFF.out.1 e i hin
            rwa [HC.out, HD.out, HSC.out, HSD.out] at this
          clear hcd
          go_wp2
          go_quiet ((go_at_call 44; with_reducible first | exact Calls.quiet_of_same (HCS.out _) | exact Calls.quiet_of_same (HDS.out _)))
          go_wp2
          go_ret
          exact ⟨rfl, drew_more HK.out _⟩
      · obtain rfl : i = n := by omega
        obtain rfl : b = true := by rw [HB.out]; exact decide_eq_true (HIFF.out.2 HE.out)
        go_wp2
        go_ret
        exact ⟨rfl, HK.out⟩
  · obtain rfl : b = false := by
      rw [hb]
      refine decide_eq_false fun e => hnm ?_
      have := congrArg List.length e
      simpa [hls, hlt] using this
    clear hb hls hlt
    have hne : ((n : Int) == (m : Int)) = false := by simp; omega
    go_enter Try.func37, Try.ntmps37
    go_wp2
    go_ret
    exact ⟨rfl, 0, rfl⟩
end Go.Proofs.Ytdaaapingaebkaa
