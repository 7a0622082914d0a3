import Derived.Test.YthhchpmlljfpjaaGreatPtF
namespace Go.Proofs.YthhchpmlljfpjaaGreat
open Go.RowKit

/-! Letters and sets in the program. -/
set_option maxHeartbeats 1000000 in
theorem p_span (x y : Nat) (w : World) :
    Calls Tryz.prog 119 #[.int .u8 (x : Nat), .int .u8 (y : Nat)] w fun e w' => SetRet (S4.span x y) w e w' := by
  have hmf : ∀ (fn : Fn) (first cap : Array Value) (w : World), (Instr.makeFunc fn first cap).run Tryz.prog w = .ok (.func fn first cap) w := fun _ _ _ _ => rfl
  have HT : ∀ W : World, W.heap.size = w.heap.size + 3 → W.cell? ⟨w.heap.size, 0, none⟩ = some (.int .u8 (x : Nat)) → W.cell? ⟨w.heap.size + 1, 0, none⟩ = some (.int .u8 (y : Nat)) →
      Tests 129 #[.pointer (some ⟨w.heap.size, 0, none⟩), .pointer (some ⟨w.heap.size + 1, 0, none⟩)] (fun c => decide (x ≤ c) && decide (c ≤ y)) W := by
    intro W hs c0 c1 c hc w1 hb
    have d0 : w1.cell? ⟨w.heap.size, 0, none⟩ = some (.int .u8 (x : Nat)) := by rw [hb.cell (p := ⟨w.heap.size, 0, none⟩) (by simp; omega), c0]
    have d1 : w1.cell? ⟨w.heap.size + 1, 0, none⟩ = some (.int .u8 (y : Nat)) := by rw [hb.cell (p := ⟨w.heap.size + 1, 0, none⟩) (by simp; omega), c1]
    clear hb c0 c1 hs
    by_cases h1 : x ≤ c
    · have e1 : decide (x ≤ c) = true := decide_eq_true h1
      go_enter Tryz.func129, Tryz.ntmps129
      go_wp2
      go_ret
      exact ⟨ret_bool (by simp [e1]), rfl⟩
    · have e1 : decide (x ≤ c) = false := decide_eq_false h1
      go_enter Tryz.func129, Tryz.ntmps129
      go_wp2
      go_ret
      exact ⟨ret_bool (by simp [e1]), rfl⟩
  have hT := HT (((w.alloc (.cells #[.int .u8 (x : Nat)] 5)).alloc (.cells #[.int .u8 (y : Nat)] 5)).alloc (.cells #[.int .u64 0, .int .u64 0, .int .u64 0, .int .u64 0] 39)) (by simp) (CB.cell (CB.alloc (CB.alloc (CB.new w 5 [.int .u8 (x : Nat)]) _) _) 0) (CB.cell (CB.alloc (cb2 w _ 5 [.int .u8 (y : Nat)]) _) 0)
  have HT := Lib.hid hT
  clear hT
  have HZ := Lib.hid (cb3 w (.cells #[.int .u8 (x : Nat)] 5) (.cells #[.int .u8 (y : Nat)] 5) 39 S4.zero.cells)
  go_enter Tryz.func119, Tryz.ntmps119
  go_wp2_with (go_at_call 128; refine (p_those _ _ _ _ (enters_of Tryz.func129 (by kernel_rfl) rfl) HT.out).mono ?_; rintro e w1 ⟨S, rfl, HS, hb⟩; have HZ1 := Lib.hid (CB.below HZ.out hb); have hz := CB.four HZ1.out)
  refine bodyPost_ret (ret_row rfl rfl (CB.set4 HZ1.out _ _ _ _) _ Tryz.underlying39 rfl infoSet) rfl ⟨S, rfl, HS, ?_⟩
  exact Below.set4 (((((Below.refl _ _).alloc (Nat.le_refl _) _).alloc (by go_size) _).alloc (by go_size) _).trans (hb.mono (by go_size))) (by omega) _ _ _ _
set_option maxHeartbeats 1000000 in
theorem p_only (x : Nat) (w : World) : Calls Tryz.prog 108 #[.int .u8 (x : Nat)] w fun e w' => SetRet (S4.span x x) w e w' := by
  have HZ := Lib.hid (CB.new w 39 S4.zero.cells)
  go_enter Tryz.func108, Tryz.ntmps108
  go_wp2_with (go_at_call 119; refine (p_span x x _).mono ?_; rintro e w1 ⟨S, rfl, HS, hb⟩; have HZ1 := Lib.hid (CB.below HZ.out hb); have hz := CB.four HZ1.out)
  refine bodyPost_ret (ret_row rfl rfl (CB.set4 HZ1.out _ _ _ _) _ Tryz.underlying39 rfl infoSet) rfl ⟨S, rfl, HS, ?_⟩
  exact Below.set4 (((Below.refl _ _).alloc (Nat.le_refl _) _).trans (hb.mono (by simp))) (Nat.le_refl _) _ _ _ _

/-! Words: all bits turned, two words together. -/
theorem xor_all (x : Nat) (h : x < 18446744073709551616) : ∃ y : Nat, bits BinOp.xor IntKind.u64 (if IntKind.u64.signed = true then -1 else IntKind.u64.max) (x : Int) = (y : Int) ∧ y = 18446744073709551615 - x := by
  refine ⟨18446744073709551615 - x, ?_, rfl⟩
  have h1 : (BitVec.ofInt 64 (x : Int)).toNat = x := by
    rw [BitVec.ofInt_natCast, BitVec.toNat_ofNat]; exact Nat.mod_eq_of_lt (by omega)
  have h2 : (if IntKind.u64.signed = true then (-1 : Int) else IntKind.u64.max) = 18446744073709551615 := by decide
  rw [h2]
  show IntKind.u64.wrap ((BitVec.ofInt 64 18446744073709551615 ^^^ BitVec.ofInt 64 (x : Int)).toNat : Int) = _
  rw [show BitVec.ofInt 64 18446744073709551615 = BitVec.allOnes 64 by decide, BitVec.allOnes_xor, BitVec.toNat_not, h1, IntKind.wrap_u64]
  omega
theorem testBit_not64 (x k : Nat) (h : x < 2 ^ 64) (hk : k < 64) : (18446744073709551615 - x).testBit k = !x.testBit k := by
  have e : 18446744073709551615 - x = 2 ^ 64 - (x + 1) := by omega
  rw [e, Nat.testBit_two_pow_sub_succ h]
  simp [hk]
/-- The words of a set, turned. -/
def S4.not (s : S4) : S4 := ⟨18446744073709551615 - s.a, 18446744073709551615 - s.b, 18446744073709551615 - s.c, 18446744073709551615 - s.d⟩
theorem S4.not_eq {s : S4} (h : s.fit) : s.not = s.cpl := by
  refine S4.ext ⟨by simp [S4.not]; omega, by simp [S4.not]; omega, by simp [S4.not]; omega, by simp [S4.not]; omega⟩ (S4.of_fit _) fun c hc => ?_
  rw [S4.has_cpl _ _ hc]
  obtain ⟨h1, h2, h3, h4⟩ := h
  have hm : c % 64 < 64 := Nat.mod_lt _ (by decide)
  unfold S4.has S4.not S4.word
  split <;> exact testBit_not64 _ _ (by assumption) hm
def S4.mk4 (f : Nat → Nat) : S4 := ⟨f 0, f 1, f 2, f 3⟩
/-- The first i words are new. -/
def S4.mix (s : S4) (g : Nat → Nat) (i : Nat) : S4 := S4.mk4 fun j => if j < i then g j else s.word j
theorem S4.mix_four (s : S4) (g : Nat → Nat) : s.mix g 4 = S4.mk4 g := rfl
theorem S4.mix_put (s : S4) (g : Nat → Nat) (i : Nat) (h : i < 4) : (s.mix g i).put i (g i) = s.mix g (i + 1) := by
  rcases (show i = 0 ∨ i = 1 ∨ i = 2 ∨ i = 3 by omega) with rfl | rfl | rfl | rfl <;> rfl
theorem S4.mix_word (s : S4) (g : Nat → Nat) (i : Nat) (h : i < 4) : (s.mix g i).word i = s.word i := by
  rcases (show i = 0 ∨ i = 1 ∨ i = 2 ∨ i = 3 by omega) with rfl | rfl | rfl | rfl <;> rfl
theorem S4.or_mk4 (s t : S4) : S4.mk4 (fun j => s.word j ||| t.word j) = s.or t := rfl
theorem S4.not_mk4 (s : S4) : S4.mk4 (fun j => 18446744073709551615 - s.word j) = s.not := rfl
set_option maxHeartbeats 1000000 in
set_option maxRecDepth 100000 in
theorem p_others (s : S4) (hs : s.fit) (w : World) : Calls Tryz.prog 118 #[s.val] w fun e w' => SetRet s.cpl w e w' := by
  go_enter Tryz.func118, Tryz.ntmps118
  go_wp2
  go_loopw [4] (fun iv wr => ∃ i : Nat, i ≤ 4 ∧ iv = .int .i64 (i : Nat) ∧ Hid (SB wr w.heap.size (s.mix (fun j => 18446744073709551615 - s.word j) i)) ∧ Hid (SB wr (w.heap.size + 1) .zero) ∧ Hid (Below w.heap.size w wr)) (fun iv _ => 4 - (intOf iv).toNat)
  case atStart => exact ⟨0, by omega, rfl, CB.alloc (CB.new _ _ s.cells) _, cb2 _ _ _ S4.zero.cells, ((Below.refl _ _).alloc (Nat.le_refl _) _).alloc (by go_size) _⟩
  case round =>
    obtain ⟨i, hi, rfl, HS, HZ, HB⟩ := hrel
    by_cases hlt : i < 4
    · have hw := HS.out.word i hlt
      rw [S4.mix_word _ _ _ hlt] at hw
      have hf := CB.free HS.out i
      obtain ⟨y, hx, hxy⟩ := xor_all (s.word i) (S4.word_lt hs i)
      have HN : Hid (SB (wr.setCell ⟨w.heap.size, i, none⟩ (.int .u64 (y : Nat))) w.heap.size (s.mix (fun j => 18446744073709551615 - s.word j) (i + 1))) := by
        have h := HS.out.put i y hlt
        rw [hxy, S4.mix_put s (fun j => 18446744073709551615 - s.word j) i hlt] at h
        rw [hxy]; exact h
      clear hxy
      go_wp2
      go_roundw
      case rel => exact ⟨i + 1, by omega, by go_num, HN.out, CB.other HZ.out _ (by simp) _, HB.out.setCell (p := ⟨w.heap.size, i, none⟩) (Nat.le_refl _) _⟩
      case measure => simp [intOf]; omega
    · obtain rfl : i = 4 := by omega
      rw [S4.mix_four, S4.not_mk4, S4.not_eq hs] at HS
      obtain ⟨S, hS⟩ : ∃ S, s.cpl = S := ⟨_, rfl⟩
      have HSS : Hid (S = s.cpl) := hS.symm
      rw [hS] at HS
      clear hS
      obtain ⟨h0, h1, h2, h3⟩ := HS.out.four
      obtain ⟨z0, z1, z2, z3⟩ := HZ.out.four
      have hfr := CB.free HZ.out
      go_wp2
      refine bodyPost_ret (ret_row rfl rfl (CB.set4 HZ.out _ _ _ _) _ Tryz.underlying39 rfl infoSet) rfl ⟨S, rfl, HSS, ?_⟩
      exact Below.set4 HB.out (by omega) _ _ _ _
set_option maxHeartbeats 1000000 in
theorem p_every (w : World) : Calls Tryz.prog 107 #[] w fun e w' => SetRet .all w e w' := by
  have HZ := Lib.hid (CB.new w 39 S4.zero.cells)
  have he : S4.zero.cpl = .all := S4.ext (S4.of_fit _) (S4.of_fit _) fun c hc => by rw [S4.has_cpl _ _ hc, S4.has_zero, S4.has_all _ hc]; rfl
  have HE := Lib.hid he
  clear he
  go_enter Tryz.func107, Tryz.ntmps107
  go_wp2_with (go_at_call 118; refine (p_others .zero S4.zero_fit _).mono ?_; rintro e w1 ⟨S, rfl, HS, hb⟩; have HZ1 := Lib.hid (CB.below HZ.out hb); have hz := CB.four HZ1.out)
  refine bodyPost_ret (ret_row rfl rfl (CB.set4 HZ1.out _ _ _ _) _ Tryz.underlying39 rfl infoSet) rfl ⟨S, rfl, HS.out.trans HE.out, ?_⟩
  exact Below.set4 (((Below.refl _ _).alloc (Nat.le_refl _) _).trans (hb.mono (by go_size))) (Nat.le_refl _) _ _ _ _
set_option maxHeartbeats 1000000 in
set_option maxRecDepth 100000 in
theorem p_both (s t : S4) (hs : s.fit) (ht : t.fit) (w : World) : Calls Tryz.prog 117 #[s.val, t.val] w fun e w' => SetRet (s.or t) w e w' := by
  go_enter Tryz.func117, Tryz.ntmps117
  go_wp2
  go_loopw [6] (fun iv wr => ∃ i : Nat, i ≤ 4 ∧ iv = .int .i64 (i : Nat) ∧ Hid (SB wr w.heap.size (s.mix (fun j => s.word j ||| t.word j) i)) ∧ Hid (SB wr (w.heap.size + 1) t) ∧ Hid (SB wr (w.heap.size + 1 + 1) .zero) ∧ Hid (Below w.heap.size w wr)) (fun iv _ => 4 - (intOf iv).toNat)
  case atStart => exact ⟨0, by omega, rfl, CB.alloc (CB.alloc (CB.new _ _ s.cells) _) _, CB.alloc (cb2 _ _ _ t.cells) _, cb3 _ _ _ _ S4.zero.cells, (((Below.refl _ _).alloc (Nat.le_refl _) _).alloc (by go_size) _).alloc (by go_size) _⟩
  case round =>
    obtain ⟨i, hi, rfl, HS, HT, HZ, HB⟩ := hrel
    by_cases hlt : i < 4
    · have hw := HS.out.word i hlt
      rw [S4.mix_word _ _ _ hlt] at hw
      have hv := HT.out.word i hlt
      have hf := CB.free HS.out i
      have hor := or_nat (s.word i) (t.word i) (S4.word_lt hs i) (S4.word_lt ht i)
      have HN : Hid (SB (wr.setCell ⟨w.heap.size, i, none⟩ (.int .u64 ((s.word i ||| t.word i : Nat) : Int))) w.heap.size (s.mix (fun j => s.word j ||| t.word j) (i + 1))) := by
        have h := HS.out.put i (s.word i ||| t.word i) hlt
        rw [S4.mix_put s (fun j => s.word j ||| t.word j) i hlt] at h
        exact h
      go_wp2
      go_region
      all_goals
        go_wp2
        go_roundw
        case rel => exact ⟨i + 1, by omega, by go_num, HN.out, CB.other HT.out _ (by show _ ≠ _; simp) _, CB.other HZ.out _ (by show w.heap.size ≠ w.heap.size + 1 + 1; omega) _, HB.out.drew.setCell (p := ⟨w.heap.size, i, none⟩) (Nat.le_refl _) _⟩
        case measure => simp [intOf]; omega
    · obtain rfl : i = 4 := by omega
      rw [S4.mix_four, S4.or_mk4] at HS
      obtain ⟨S, hS⟩ : ∃ S, s.or t = S := ⟨_, rfl⟩
      have HSS : Hid (S = s.or t) := hS.symm
      rw [hS] at HS
      clear hS
      obtain ⟨h0, h1, h2, h3⟩ := HS.out.four
      obtain ⟨z0, z1, z2, z3⟩ := HZ.out.four
      have hfr := CB.free HZ.out
      go_wp2
      refine bodyPost_ret (ret_row rfl rfl (CB.set4 HZ.out _ _ _ _) _ Tryz.underlying39 rfl infoSet) rfl ⟨S, rfl, HSS, ?_⟩
      exact Below.set4 HB.out (by omega) _ _ _ _

/-! Classes of letters. -/
theorem p_isUpper (c : Nat) (w : World) : Calls Tryz.prog 144 #[.int .u8 (c : Nat)] w fun e w' => e = .returned (.bool (up c)) ∧ w = w' := by
  rcases (show c < 65 ∨ (65 ≤ c ∧ c ≤ 90) ∨ (65 ≤ c ∧ 90 < c) by omega) with h | ⟨h, h2⟩ | ⟨h, h2⟩
  all_goals
    go_enter Tryz.func144, Tryz.ntmps144
    go_wp2
    go_ret
    exact ⟨ret_bool (by unfold up; rw [Bool.eq_iff_iff]; simp; omega), rfl⟩
theorem p_isLower (c : Nat) (w : World) : Calls Tryz.prog 145 #[.int .u8 (c : Nat)] w fun e w' => e = .returned (.bool (lw c)) ∧ w = w' := by
  rcases (show c < 97 ∨ (97 ≤ c ∧ c ≤ 122) ∨ (97 ≤ c ∧ 122 < c) by omega) with h | ⟨h, h2⟩ | ⟨h, h2⟩
  all_goals
    go_enter Tryz.func145, Tryz.ntmps145
    go_wp2
    go_ret
    exact ⟨ret_bool (by unfold lw; rw [Bool.eq_iff_iff]; simp; omega), rfl⟩
theorem p_isDigit (c : Nat) (w : World) : Calls Tryz.prog 132 #[.int .u8 (c : Nat)] w fun e w' => e = .returned (.bool (dg c)) ∧ w = w' := by
  rcases (show c < 48 ∨ (48 ≤ c ∧ c ≤ 57) ∨ (48 ≤ c ∧ 57 < c) by omega) with h | ⟨h, h2⟩ | ⟨h, h2⟩
  all_goals
    go_enter Tryz.func132, Tryz.ntmps132
    go_wp2
    go_ret
    exact ⟨ret_bool (by unfold dg; rw [Bool.eq_iff_iff]; simp; omega), rfl⟩
theorem p_isGraph (c : Nat) (w : World) : Calls Tryz.prog 151 #[.int .u8 (c : Nat)] w fun e w' => e = .returned (.bool (gr c)) ∧ w = w' := by
  rcases (show c < 33 ∨ (33 ≤ c ∧ c ≤ 126) ∨ (33 ≤ c ∧ 126 < c) by omega) with h | ⟨h, h2⟩ | ⟨h, h2⟩
  all_goals
    go_enter Tryz.func151, Tryz.ntmps151
    go_wp2
    go_ret
    exact ⟨ret_bool (by unfold gr; rw [Bool.eq_iff_iff]; simp; omega), rfl⟩
theorem p_isAlpha (c : Nat) (w : World) : Calls Tryz.prog 143 #[.int .u8 (c : Nat)] w fun e w' => e = .returned (.bool (up c || lw c)) ∧ w = w' := by
  obtain ⟨b, hb⟩ : ∃ b, up c = b := ⟨_, rfl⟩
  obtain ⟨d, hd⟩ : ∃ d, lw c = d := ⟨_, rfl⟩
  have h1 := p_isUpper c w
  have h2 := p_isLower c w
  rw [hb] at h1 ⊢
  rw [hd] at h2 ⊢
  clear hb hd
  cases b
  all_goals
    go_enter Tryz.func143, Tryz.ntmps143
    go_wp2_with (first | (go_at_call 144; refine h1.mono ?_; rintro e w' ⟨rfl, rfl⟩) | (go_at_call 145; refine h2.mono ?_; rintro e w' ⟨rfl, rfl⟩))
    go_ret
    exact ⟨ret_bool (by simp), rfl⟩
theorem p_isAlnum (c : Nat) (w : World) : Calls Tryz.prog 146 #[.int .u8 (c : Nat)] w fun e w' => e = .returned (.bool (up c || lw c || dg c)) ∧ w = w' := by
  obtain ⟨b, hb⟩ : ∃ b, (up c || lw c) = b := ⟨_, rfl⟩
  obtain ⟨d, hd⟩ : ∃ d, dg c = d := ⟨_, rfl⟩
  have h1 := p_isAlpha c w
  have h2 := p_isDigit c w
  rw [hb] at h1 ⊢
  rw [hd] at h2 ⊢
  clear hb hd
  cases b
  all_goals
    go_enter Tryz.func146, Tryz.ntmps146
    go_wp2_with (first | (go_at_call 143; refine h1.mono ?_; rintro e w' ⟨rfl, rfl⟩) | (go_at_call 132; refine h2.mono ?_; rintro e w' ⟨rfl, rfl⟩))
    go_ret
    exact ⟨ret_bool (by simp), rfl⟩
theorem p_xdigit (c : Nat) (w : World) : Calls Tryz.prog 147 #[.int .u8 (c : Nat)] w fun e w' => e = .returned (.bool (dg c || (decide (65 ≤ c) && decide (c ≤ 70)) || (decide (97 ≤ c) && decide (c ≤ 102)))) ∧ w = w' := by
  obtain ⟨b, hb⟩ : ∃ b, dg c = b := ⟨_, rfl⟩
  have h1 := p_isDigit c w
  rw [hb] at h1 ⊢
  clear hb
  cases b
  · rcases (show c < 65 ∨ (65 ≤ c ∧ c ≤ 70) ∨ (65 ≤ c ∧ 70 < c ∧ c < 97) ∨ (65 ≤ c ∧ 70 < c ∧ 97 ≤ c ∧ c ≤ 102) ∨ (65 ≤ c ∧ 70 < c ∧ 97 ≤ c ∧ 102 < c) by omega) with h | ⟨h, h2⟩ | ⟨h, h2, h3⟩ | ⟨h, h2, h3, h4⟩ | ⟨h, h2, h3, h4⟩
    · have h5 : c < 97 := by omega
      go_enter Tryz.func147, Tryz.ntmps147
      go_wp2_with (go_at_call 132; refine h1.mono ?_; rintro e w' ⟨rfl, rfl⟩)
      go_ret
      exact ⟨ret_bool (by first | rfl | (rw [Bool.eq_iff_iff]; simp <;> omega)), rfl⟩
    all_goals
      go_enter Tryz.func147, Tryz.ntmps147
      go_wp2_with (go_at_call 132; refine h1.mono ?_; rintro e w' ⟨rfl, rfl⟩)
      go_ret
      exact ⟨ret_bool (by first | rfl | (rw [Bool.eq_iff_iff]; simp <;> omega)), rfl⟩
  · go_enter Tryz.func147, Tryz.ntmps147
    go_wp2_with (go_at_call 132; refine h1.mono ?_; rintro e w' ⟨rfl, rfl⟩)
    go_ret
    exact ⟨ret_bool (by simp), rfl⟩
theorem p_space (c : Nat) (w : World) : Calls Tryz.prog 148 #[.int .u8 (c : Nat)] w fun e w' => e = .returned (.bool ((decide (9 ≤ c) && decide (c ≤ 13)) || decide (c = 32))) ∧ w = w' := by
  rcases (show c < 9 ∨ (9 ≤ c ∧ c ≤ 13) ∨ (9 ≤ c ∧ 13 < c) by omega) with h | ⟨h, h2⟩ | ⟨h, h2⟩
  all_goals
    go_enter Tryz.func148, Tryz.ntmps148
    go_wp2
    go_ret
    exact ⟨ret_bool (by first | rfl | (rw [Bool.eq_iff_iff]; simp <;> omega)), rfl⟩
theorem p_blank (c : Nat) (w : World) : Calls Tryz.prog 149 #[.int .u8 (c : Nat)] w fun e w' => e = .returned (.bool (decide (c = 9) || decide (c = 32))) ∧ w = w' := by
  by_cases h : c = 9
  · subst h
    go_enter Tryz.func149, Tryz.ntmps149
    go_wp2
    go_ret
    exact ⟨ret_bool (by decide), rfl⟩
  · have hd : ((c : Int) == 9) = false := by simp; omega
    go_enter Tryz.func149, Tryz.ntmps149
    go_wp2
    go_ret
    exact ⟨ret_bool (by first | rfl | (rw [Bool.eq_iff_iff]; simp <;> omega)), rfl⟩
theorem p_cntrl (c : Nat) (w : World) : Calls Tryz.prog 150 #[.int .u8 (c : Nat)] w fun e w' => e = .returned (.bool (decide (c ≤ 31) || decide (c = 127))) ∧ w = w' := by
  rcases (show c ≤ 31 ∨ 31 < c by omega) with h | h
  all_goals
    go_enter Tryz.func150, Tryz.ntmps150
    go_wp2
    go_ret
    exact ⟨ret_bool (by first | rfl | (rw [Bool.eq_iff_iff]; simp <;> omega)), rfl⟩
theorem p_print (c : Nat) (w : World) : Calls Tryz.prog 152 #[.int .u8 (c : Nat)] w fun e w' => e = .returned (.bool (decide (c = 32) || gr c)) ∧ w = w' := by
  by_cases h : c = 32
  · subst h
    go_enter Tryz.func152, Tryz.ntmps152
    go_wp2
    go_ret
    exact ⟨ret_bool (by decide), rfl⟩
  · have hd : ((c : Int) == 32) = false := by simp; omega
    have hd2 : decide (c = 32) = false := decide_eq_false h
    have h1 := p_isGraph c w
    rw [hd2, Bool.false_or]
    obtain ⟨b, hb⟩ : ∃ b, gr c = b := ⟨_, rfl⟩
    rw [hb] at h1 ⊢
    clear hb hd2 h
    go_enter Tryz.func152, Tryz.ntmps152
    go_wp2_with (go_at_call 151; refine h1.mono ?_; rintro e w' ⟨rfl, rfl⟩)
    go_ret
    exact ⟨rfl, rfl⟩
theorem p_punct (c : Nat) (w : World) : Calls Tryz.prog 153 #[.int .u8 (c : Nat)] w fun e w' => e = .returned (.bool (gr c && !(up c || lw c || dg c))) ∧ w = w' := by
  have h1 := p_isGraph c w
  have h2 := p_isAlnum c w
  obtain ⟨b, hb⟩ : ∃ b, gr c = b := ⟨_, rfl⟩
  obtain ⟨d, hd⟩ : ∃ d, (up c || lw c || dg c) = d := ⟨_, rfl⟩
  rw [hb] at h1 ⊢
  rw [hd] at h2 ⊢
  clear hb hd
  cases b
  all_goals
    go_enter Tryz.func153, Tryz.ntmps153
    go_wp2_with (first | (go_at_call 151; refine h1.mono ?_; rintro e w' ⟨rfl, rfl⟩) | (go_at_call 146; refine h2.mono ?_; rintro e w' ⟨rfl, rfl⟩))
    go_ret
    exact ⟨ret_bool (by simp), rfl⟩
end Go.Proofs.YthhchpmlljfpjaaGreat
