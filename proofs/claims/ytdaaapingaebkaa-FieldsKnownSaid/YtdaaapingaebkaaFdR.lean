import Derived.Test.YtdaaapingaebkaaFdI
namespace Go.Proofs.Ytdaaapingaebkaa
open Go.RowKit

/-! fields: the reference's letters, names, lines. -/
set_option maxRecDepth 100000 in
theorem r_Blank (c : Nat) (w : World) : Calls Try.prog 27 #[.int .u8 (c : Nat)] w fun e w' => e = .returned (.bool (decide (c = 9 ∨ c = 13 ∨ c = 32))) ∧ w' = w := by
  obtain ⟨b, hb⟩ : ∃ b, b = decide (c = 9 ∨ c = 13 ∨ c = 32) := ⟨_, rfl⟩
  rw [← hb]
  rcases (show (c = 9 ∨ c = 13 ∨ c = 32) ∨ (c ≠ 9 ∧ c ≠ 13 ∧ c ≠ 32) by omega) with u | ⟨u0, u2, u3⟩
  · rcases u with u | u | u
    all_goals
      subst u
      obtain rfl : b = true := by rw [hb]; decide
      clear hb
      go_enter Try.func27, Try.ntmps27
      go_wp2
      go_ret
      exact ⟨rfl, rfl⟩
  · obtain rfl : b = false := by rw [hb]; exact decide_eq_false (by omega)
    have h1 : ((c : Int) == 9) = false := by simp; omega
    have h3 : ((c : Int) == 13) = false := by simp; omega
    have h4 : ((c : Int) == 32) = false := by simp; omega
    clear hb
    go_enter Try.func27, Try.ntmps27
    go_wp2
    go_ret
    exact ⟨rfl, rfl⟩
set_option maxRecDepth 100000 in
theorem r_may (c : Nat) (w : World) : Calls Try.prog 26 #[.int .u8 (c : Nat)] w fun e w' => e = .returned (.bool (mayB c)) ∧ w' = w := by
  obtain ⟨b, hb⟩ : ∃ b, b = mayB c := ⟨_, rfl⟩
  obtain ⟨q, hq⟩ : ∃ q, q = decide (c = 9 ∨ c = 13 ∨ c = 32) := ⟨_, rfl⟩
  have hB := r_Blank c
  rw [← hb]
  rw [← hq] at hB
  have HB := Lib.hid hB
  unfold mayB at hb
  clear hB
  by_cases u : c = 9 ∨ c = 13 ∨ c = 32
  · obtain rfl : q = true := by rw [hq]; exact decide_eq_true u
    obtain rfl : b = true := by rw [hb]; exact decide_eq_true (by omega)
    clear hb hq u
    go_enter Try.func26, Try.ntmps26
    go_wp2_with (go_at_call 27; refine (HB.out _).mono ?_; rintro e w1 ⟨rfl, rfl⟩)
    go_ret
    exact ⟨rfl, rfl⟩
  · obtain rfl : q = false := by rw [hq]; exact decide_eq_false u
    rcases (show c = 10 ∨ (c < 32 ∧ c ≠ 10) ∨ (32 ≤ c ∧ c ≤ 126) ∨ (32 ≤ c ∧ 126 < c) by omega) with v | ⟨v, v1⟩ | ⟨v, v1⟩ | ⟨v, v1⟩
    · subst v
      obtain rfl : b = true := by rw [hb]; decide
      clear hb hq u
      go_enter Try.func26, Try.ntmps26
      go_wp2_with (go_at_call 27; refine (HB.out _).mono ?_; rintro e w1 ⟨rfl, rfl⟩)
      go_ret
      exact ⟨rfl, rfl⟩
    · obtain rfl : b = false := by rw [hb]; exact decide_eq_false (by omega)
      have h1 : ¬ (32 : Int) ≤ (c : Int) := by omega
      have h3 : ((c : Int) == 10) = false := by simp; omega
      clear hb hq u
      go_enter Try.func26, Try.ntmps26
      go_wp2_with (go_at_call 27; refine (HB.out _).mono ?_; rintro e w1 ⟨rfl, rfl⟩)
      go_ret
      exact ⟨rfl, rfl⟩
    · obtain rfl : b = true := by rw [hb]; exact decide_eq_true (by omega)
      have h1 : (32 : Int) ≤ (c : Int) := by omega
      have h2 : (c : Int) ≤ 126 := by omega
      have h3 : ((c : Int) == 10) = false := by simp; omega
      clear hb hq u
      go_enter Try.func26, Try.ntmps26
      go_wp2_with (go_at_call 27; refine (HB.out _).mono ?_; rintro e w1 ⟨rfl, rfl⟩)
      go_ret
      exact ⟨rfl, rfl⟩
    · obtain rfl : b = false := by rw [hb]; exact decide_eq_false (by omega)
      have h1 : (32 : Int) ≤ (c : Int) := by omega
      have h2 : decide ((c : Int) ≤ 126) = false := decide_eq_false (by omega)
      have h3 : ((c : Int) == 10) = false := by simp; omega
      clear hb hq u
      go_enter Try.func26, Try.ntmps26
      go_wp2_with (go_at_call 27; refine (HB.out _).mono ?_; rintro e w1 ⟨rfl, rfl⟩)
      go_ret
      exact ⟨rfl, rfl⟩
set_option maxRecDepth 100000 in
theorem r_Name (k : Nat) (w : World) : Calls Try.prog 22 #[.int .u8 (k : Nat)] w fun e w' => e = .returned (.string (nameS k)) ∧ w' = w := by
  rcases (show (k = 1 ∨ k = 2 ∨ k = 3 ∨ k = 4 ∨ k = 5 ∨ k = 6 ∨ k = 7) ∨ (k ≠ 1 ∧ k ≠ 2 ∧ k ≠ 3 ∧ k ≠ 4 ∧ k ≠ 5 ∧ k ≠ 6 ∧ k ≠ 7) by omega) with u | ⟨u1, u2, u3, u4, u5, u6, u7⟩
  · rcases u with u | u | u | u | u | u | u
    all_goals
      subst u
      go_enter Try.func22, Try.ntmps22
      go_wp2
      go_ret
      exact ⟨rfl, rfl⟩
  · have e0 : nameS k = ⟨#[]⟩ := by
      unfold nameS
      rw [show nameN k = [] by unfold nameN; split <;> first | contradiction | rfl]
      rfl
    have h1 : ((k : Int) == 1) = false := by simp; omega
    have h2 : ((k : Int) == 2) = false := by simp; omega
    have h3 : ((k : Int) == 3) = false := by simp; omega
    have h4 : ((k : Int) == 4) = false := by simp; omega
    have h5 : ((k : Int) == 5) = false := by simp; omega
    have h6 : ((k : Int) == 6) = false := by simp; omega
    have h7 : ((k : Int) == 7) = false := by simp; omega
    rw [e0]
    clear e0
    go_enter Try.func22, Try.ntmps22
    go_wp2
    go_ret
    exact ⟨rfl, rfl⟩
theorem u8s_push (l : List Nat) (c : Nat) : u8s l ++ [Value.int .u8 (c : Nat)] = u8s (l ++ [c]) := by simp [u8s]
theorem small_below {w wr w6 : World} {o : Obj} {v : Value} {i : Nat} {xs : List Value} (h : wr.ownsRow w.heap.size 5 1 v i xs) (hb : Below w.heap.size w wr) (hg : (wr.alloc o).grownBy w6 v.ownBlock) : Below w.heap.size w w6 :=
  (bel_alloc hb o).trans ((Chg.of_grown hg).below (bel_alloc hb o).size fun k hk => (World.ownsRow.lt h k hk.symm).1)
theorem sm_step {l : List Nat} {i : Nat} (h : i < l.length) : (l.take (i + 1)).map smA = (l.take i).map smA ++ [smA (at0 l i)] := by
  rw [take_succ_at0 h, List.map_append]; rfl
set_option maxHeartbeats 1000000 in
set_option maxRecDepth 100000 in
theorem r_small (s : ByteArray) (n : Nat) (w : World) (hn : s.size = n) (hbig : n ≤ 65536) :
    Calls Try.prog 36 #[.string s] w fun e w' => e = .returned (.string (strN ((bsN s).map smA))) ∧ Below w.heap.size w w' := by
  obtain ⟨l, hl⟩ : ∃ l, l = bsN s := ⟨_, rfl⟩
  have hll : l.length = n := by rw [hl, bsN_len, hn]
  have h8 : B8 l := by rw [hl]; exact bsN_8 s
  have HX := Lib.hid hl
  rw [← hl]
  have HL := Lib.hid hll
  have H8 := Lib.hid h8
  clear hl hll h8
  go_enter Try.func36, Try.ntmps36
  go_wp2
  go_loopw [3, 4] (fun v iv wr => ∃ i : Nat, i ≤ n ∧ iv = .int .i64 (i : Nat) ∧ Hid (wr.ownsRow w.heap.size 5 1 v i (u8s ((l.take i).map smA))) ∧ Hid (Below w.heap.size w wr)) (fun _ iv _ => n - (intOf iv).toNat)
  case atStart => exact ⟨0, Nat.zero_le _, rfl, ⟨rfl, .inl ⟨rfl, rfl⟩⟩, Below.refl _ _⟩
  case round =>
    obtain ⟨i, hi, rfl, HO, HB⟩ := hrel
    by_cases hin : i < n
    · have hil : i < l.length := by rw [HL.out]; exact hin
      obtain ⟨c, hc⟩ : ∃ c, at0 l i = c := ⟨_, rfl⟩
      have x1 : ∀ W, (Instr.index 9 (.string s) (.int .i64 (i : Int))).run Try.prog W = .ok (.int .u8 (c : Nat)) W := idx_str 9 Try.underlying9 s i c (by omega) (by rw [← HX.out]; exact hc)
      have c1 : (0 : Int) ≤ (i : Int) := by omega
      have c2 : (i : Int) < (s.size : Int) := by omega
      have hc8 : c < 256 := by rw [← hc]; exact H8.out.at0 i
      obtain ⟨d, hd⟩ : ∃ d, smA c = d := ⟨_, rfl⟩
      have hstep := sm_step hil
      rw [hc, hd] at hstep
      have HST := Lib.hid hstep
      have hbs := HB.out.size
      have hcnt : i + 1 ≤ 4398046511104 := by omega
      clear hc hstep hil
      unfold smA at hd
      rcases (show c < 65 ∨ (65 ≤ c ∧ c ≤ 90) ∨ (65 ≤ c ∧ 90 < c) by omega) with u | ⟨u, u1⟩ | ⟨u, u1⟩
      · rw [if_neg (by omega)] at hd
        subst hd
        go_wp2_with (at_builtin; refine wpl_app 49 5 Try.underlying49 info8 rfl (by decide) rfl _ _ rfl w.heap.size _ i (u8s ((l.take i).map smA)) rfl (World.ownsRow.alloc HO.out _) wr.heap.size (.int .u8 (c : Nat)) rfl ?_ rfl hcnt (by go_size) ?_; exact World.cell?_alloc_at _ _ _ _ rfl; intro g cap w6 hown hgr hBg hlt hor; have HO6 := Lib.hid hown; have HG6 := Lib.hid hgr; clear hown hgr)
        go_roundw
        case rel => exact ⟨i + 1, by omega, by go_num, by rw [HST.out, ← u8s_push]; exact HO6.out, small_below HO.out HB.out HG6.out⟩
        case measure => simp [intOf]; omega
      · rw [if_pos ⟨u, u1⟩] at hd
        have e1 : IntKind.u8.wrap ((c : Int) + 32) = (d : Int) := by
          rw [show ((c : Int) + 32) = ((d : Nat) : Int) by omega]; exact wrap_u8_in d (by omega)
        clear hd
        go_wp2_with (at_builtin; refine wpl_app 49 5 Try.underlying49 info8 rfl (by decide) rfl _ _ rfl w.heap.size _ i (u8s ((l.take i).map smA)) rfl (World.ownsRow.alloc HO.out _) wr.heap.size (.int .u8 (d : Nat)) rfl ?_ rfl hcnt (by go_size) ?_; exact World.cell?_alloc_at _ _ _ _ rfl; intro g cap w6 hown hgr hBg hlt hor; have HO6 := Lib.hid hown; have HG6 := Lib.hid hgr; clear hown hgr)
        go_roundw
        case rel => exact ⟨i + 1, by omega, by go_num, by rw [HST.out, ← u8s_push]; exact HO6.out, small_below HO.out HB.out HG6.out⟩
        case measure => simp [intOf]; omega
      · rw [if_neg (by omega)] at hd
        subst hd
        go_wp2_with (at_builtin; refine wpl_app 49 5 Try.underlying49 info8 rfl (by decide) rfl _ _ rfl w.heap.size _ i (u8s ((l.take i).map smA)) rfl (World.ownsRow.alloc HO.out _) wr.heap.size (.int .u8 (c : Nat)) rfl ?_ rfl hcnt (by go_size) ?_; exact World.cell?_alloc_at _ _ _ _ rfl; intro g cap w6 hown hgr hBg hlt hor; have HO6 := Lib.hid hown; have HG6 := Lib.hid hgr; clear hown hgr)
        go_roundw
        case rel => exact ⟨i + 1, by omega, by go_num, by rw [HST.out, ← u8s_push]; exact HO6.out, small_below HO.out HB.out HG6.out⟩
        case measure => simp [intOf]; omega
    · obtain rfl : i = n := by omega
      have ht := own_text HO.out (by rw [List.length_map, List.length_take, HL.out]; omega) 9 Try.underlying9
      rw [List.take_of_length_le (by rw [HL.out]; exact Nat.le_refl _)] at ht
      go_wp2
      go_ret
      exact ⟨rfl, HB.out⟩
set_option maxHeartbeats 1000000 in
set_option maxRecDepth 100000 in
theorem r_Kind (s : ByteArray) (q : Nat) (w : World) (hq : kindN (bsN s) = q) :
    Calls Try.prog 19 #[.string s] w fun e w' => e = .returned (.tuple #[.int .u8 (q : Nat), .bool (decide (q ≠ 0))]) ∧ Below w.heap.size w w' := by
  obtain ⟨bq, hbq⟩ : ∃ b, b = decide (q ≠ 0) := ⟨_, rfl⟩
  rw [← hbq]
  have HBQ := Lib.hid hbq
  have HQ := Lib.hid hq
  obtain ⟨n, hn⟩ : ∃ n, s.size = n := ⟨_, rfl⟩
  by_cases hbig : 20 < n
  · obtain rfl : q = 0 := by
      by_cases h0 : kindN (bsN s) = 0
      · rw [← hq]; exact h0
      · have := kindN_len h0
        rw [bsN_len] at this
        omega
    obtain rfl : bq = false := hbq
    clear hq
    have hb2 : (20 : Int) < (n : Int) := by omega
    go_enter Try.func19, Try.ntmps19
    go_wp2
    go_ret2
    exact ⟨rfl, Below.refl _ _⟩
  have hb2 : ¬ (20 : Int) < (n : Int) := by omega
  have HSM := Lib.hid (fun W => r_small s n W hn (by omega))
  have HNM := Lib.hid (fun (k : Nat) W => r_small (nameS k) (nameS k).size W rfl (by have := nameS_size k; omega))
  clear hq hbq hbig
  go_enter Try.func19, Try.ntmps19
  go_wp2
  go_loopw [4] (fun iv wr => ∃ k : Nat, 1 ≤ k ∧ k ≤ 8 ∧ iv = .int .u8 (k : Nat) ∧ Hid (kindFrom (bsN s) (8 - k) k = q) ∧ Hid (Below w.heap.size w wr)) (fun iv _ => 8 - (intOf iv).toNat)
  case atStart => exact ⟨1, Nat.le_refl _, by omega, rfl, HQ.out, Below.refl _ _⟩
  case round =>
    obtain ⟨k, hk1, hk8, rfl, HK, HM⟩ := hrel
    by_cases hk : k ≤ 7
    · obtain ⟨b, hb⟩ : ∃ b, isK (bsN s) k = b := ⟨_, rfl⟩
      obtain ⟨nm, hnm⟩ : ∃ nm, nm = strN ((bsN (nameS k)).map smA) := ⟨_, rfl⟩
      obtain ⟨sm, hsm⟩ : ∃ sm, sm = strN ((bsN s).map smA) := ⟨_, rfl⟩
      have hsm8 : ∀ l : List Nat, B8 l → B8 (l.map smA) := fun l hl x hx => by
        obtain ⟨y, hy, rfl⟩ := List.mem_map.1 hx
        have := hl y hy
        unfold smA
        split <;> omega
      have heq : (nm.toList == sm.toList) = b := by
        rw [beq_str, hnm, hsm, bsN_strN (hsm8 _ (bsN_8 _)), bsN_strN (hsm8 _ (bsN_8 _)), bsN_nameS (by omega), ← hb]
        unfold isK
        rw [Bool.eq_iff_iff]
        simp only [decide_eq_true_eq]
        exact eq_comm
      have HN1 := Lib.hid (HNM.out k)
      rw [← hnm] at HN1
      have HS1 := HSM
      rw [← hsm] at HS1
      have e1 : IntKind.u8.wrap ((k : Int) + 1) = (k : Int) + 1 := by
        rw [show ((k : Int) + 1) = ((k + 1 : Nat) : Int) by omega]; exact wrap_u8_in (k + 1) (by omega)
      have HBB := Lib.hid hb
      have HMARK : Hid True := trivial
      clear hb hnm hsm hsm8
      cases b with
      | true =>
        have hqk : q = k := by
          have := HK.out
          rw [show 8 - k = (7 - k) + 1 by omega] at this
          simp only [kindFrom, HBB.out, if_true] at this
          exact this.symm
        obtain rfl : bq = true := by rw [HBQ.out]; exact decide_eq_true (by omega)
        subst hqk
        go_wp2_with (first | (go_at_call 22; refine (r_Name _ _).mono ?_; rintro e w1 ⟨rfl, rfl⟩) | (go_at_call 36; clear HMARK; refine (HN1.out _).mono ?_; rintro e w2 ⟨rfl, hb2⟩; have HB2 := Lib.hid (bel_next HM.out hb2); clear hb2) | (go_at_call 36; refine (HS1.out _).mono ?_; rintro e w3 ⟨rfl, hb3⟩; have HB3 := Lib.hid (bel_next HB2.out hb3); clear hb3))
        go_ret2
        exact ⟨rfl, HB3.out⟩
      | false =>
        have HK2 : Hid (kindFrom (bsN s) (8 - (k + 1)) (k + 1) = q) := by
          have := HK.out
          rw [show 8 - k = (7 - k) + 1 by omega] at this
          simp only [kindFrom, HBB.out, Bool.false_eq_true, if_false] at this
          show kindFrom _ _ _ = q
          rw [show 8 - (k + 1) = 7 - k by omega]
          exact this
        go_wp2_with (first | (go_at_call 22; refine (r_Name _ _).mono ?_; rintro e w1 ⟨rfl, rfl⟩) | (go_at_call 36; clear HMARK; refine (HN1.out _).mono ?_; rintro e w2 ⟨rfl, hb2⟩; have HB2 := Lib.hid (bel_next HM.out hb2); clear hb2) | (go_at_call 36; refine (HS1.out _).mono ?_; rintro e w3 ⟨rfl, hb3⟩; have HB3 := Lib.hid (bel_next HB2.out hb3); clear hb3))
        go_roundw
        case rel => exact ⟨k + 1, by omega, by omega, by go_num, HK2.out, HB3.out⟩
        case measure => simp [intOf]; omega
    · obtain rfl : k = 8 := by omega
      obtain rfl : q = 0 := HK.out.symm
      obtain rfl : bq = false := HBQ.out
      go_wp2
      go_ret2
      exact ⟨rfl, HM.out⟩
end Go.Proofs.Ytdaaapingaebkaa
