import Derived.Test.YtdaaapingaebkaaFdP
namespace Go.Proofs.Ytdaaapingaebkaa
open Go.RowKit

/-! FieldsKnown. -/
def isBad : Res → Int → Int → Bool
  | .bad i c, ii, ci => decide ((i : Int) = ii) && decide ((c : Int) = ci)
  | .ok _, _, _ => false
theorem isBad_of {r : Res} {ii ci : Int} (h : isBad r ii ci = true) : ∃ i c : Nat, r = .bad i c ∧ ii = i ∧ ci = c := by
  cases r with
  | bad i c =>
    simp only [isBad, Bool.and_eq_true, decide_eq_true_eq] at h
    exact ⟨i, c, rfl, h.1.symm, h.2.symm⟩
  | ok fs => cases h
set_option maxHeartbeats 1000000 in
set_option maxRecDepth 100000 in
theorem l_split (s : ByteArray) (i c : Nat) (w : World) (h : (splitR (bsN s)).fin s.size = .bad i c) :
    Calls Try.prog 25 #[.string s, .int .i64 (c : Nat), .int .i64 (i : Nat)] w fun e w' => e = .returned (.bool true) ∧ Below w.heap.size w w' := by
  have HS := Lib.hid (fun W => f_Split s s.size W rfl _ h)
  clear h
  go_enter Try.func25, Try.ntmps25
  go_wp2_with fail
  refine (HS.out _).mono ?_
  rintro e w1 ⟨⟨i1, c1, h1, h2, rfl⟩ | ⟨fs, a, cap, h1, h2, h3, rfl, h5⟩, hb⟩
  · injection h1 with e1 e2
    subst e1 e2
    have HB := Lib.hid hb
    clear h2 hb
    go_wp2
    go_ret
    exact ⟨rfl, HB.out⟩
  · cases h1
theorem l_splitB (s : ByteArray) (ci ii : Int) (w : World) (h : isBad (splitF (bsN s)) ii ci = true) :
    Calls Try.prog 25 #[.string s, .int .i64 ci, .int .i64 ii] w fun e w' => e = .returned (.bool true) ∧ Below w.heap.size w w' := by
  obtain ⟨i, c, h1, rfl, rfl⟩ := isBad_of h
  exact l_split s i c w (by rw [← bsN_len, splitF_eq]; exact h1)
/-- Authorizer: and blanks. -/
def longL (m : Nat) : List Nat := [65, 117, 116, 104, 111, 114, 105, 122, 101, 114] ++ 58 :: List.replicate m 32
theorem longL_len (m : Nat) : (longL m).length = 11 + m := by simp [longL]; omega
theorem longL_8 (m : Nat) : B8 (longL m) := fun x hx => by
  rcases List.mem_append.1 hx with h | h
  · have : ∀ x ∈ ([65, 117, 116, 104, 111, 114, 105, 122, 101, 114] : List Nat), x < 256 := by decide
    exact this x h
  · rcases List.mem_cons.1 h with h | h
    · omega
    · have := (List.mem_replicate.1 h).2
      omega
theorem longL_split {m : Nat} (h : m ≤ 65525) : (splitR (longL m)).fin (11 + m) = .ok [⟨2, 0, 11, 11 + m⟩] := by
  have hl := longL_len m
  have h10 : 10 ∉ List.replicate m 32 := fun e => by have := (List.mem_replicate.1 e).2; omega
  have hmay : ∀ x ∈ longL m, mayB x = true := fun x hx => by
    rcases List.mem_append.1 hx with h | h
    · have : ∀ x ∈ ([65, 117, 116, 104, 111, 114, 105, 122, 101, 114] : List Nat), mayB x = true := by decide
      exact this x h
    · rcases List.mem_cons.1 h with h | h
      · rw [h]; rfl
      · rw [(List.mem_replicate.1 h).2]; rfl
  have hbeg : begL (longL m) 0 = some ⟨2, 0, 11, 0⟩ := by
    unfold begL
    rw [List.drop_zero, longL, col_nm _ (by decide) (by decide)]
    simp only
    rw [List.take_left' rfl]
    rfl
  have hbeh : behL (longL m) = 11 + m := by
    rw [longL, beh_nm _ (by decide), behL_all h10]
    simp
  have hw : walk (longL m) 0 [] = .ok [⟨2, 0, 11, 0⟩] := by
    have h1 := walk_some (l := longL m) (i := 0) (fs := []) (by omega) rfl hbeg
    rw [h1, if_pos (show ordK [] (Fd.mk 2 0 11 0).k = 0 from rfl), List.drop_zero, hbeh, walk_end (by omega)]
    rfl
  unfold splitR
  rw [if_neg (by omega), badB_of hmay]
  simp only
  rw [if_neg (by show ¬ (false = true); decide), hw]
  rfl
theorem longL_more : (splitR (longL 65526)).fin 65537 = .bad 0 3 := by
  unfold splitR
  rw [if_pos (by rw [longL_len]; omega)]
  rfl
theorem longL_app (m k : Nat) : longL m ++ List.replicate k 32 = longL (m + k) := by
  simp only [longL, List.cons_append, List.nil_append, List.replicate_append_replicate]
theorem longL_take {m k : Nat} (h : k ≤ m) : (longL m).take (11 + k) = longL k := by
  unfold longL
  rw [List.take_append, List.take_of_length_le (by simp; omega), show 11 + k - [65, 117, 116, 104, 111, 114, 105, 122, 101, 114].length = k + 1 by simp; omega, List.take_succ_cons, List.take_replicate, Nat.min_eq_left h]
theorem longL_drop (m : Nat) : (longL m).drop 11 = List.replicate m 32 := rfl
theorem longL_top : (splitR (bsN (strN (longL 65525)))).fin 65536 = .ok [⟨2, 0, 11, 65536⟩] := by
  have h := longL_split (m := 65525) (by omega)
  rw [bsN_strN (longL_8 _)]
  rwa [show 11 + 65525 = 65536 by omega] at h
theorem longS_size (m : Nat) : (strN (longL m)).size = 11 + m := by rw [strN_size, longL_len]
theorem longL_past : (splitR (bsN (strN (longL 65526)))).fin (strN (longL 65526)).size = .bad 0 3 := by
  rw [bsN_strN (longL_8 _), longS_size, show 11 + 65526 = 65537 by omega]
  exact longL_more
def strSz : Value → Nat
  | .string s => s.size
  | _ => 0
set_option maxHeartbeats 8000000 in
set_option maxRecDepth 100000 in
theorem d_FieldsKnown (w : World) : Calls Try.prog 10 #[] w fun e w' => e = .returned (.bool true) ∧ Below w.heap.size w w' := by
  obtain ⟨T1, hT1⟩ : ∃ T1, T1 = strN (longL 65525) := ⟨_, rfl⟩
  obtain ⟨T2, hT2⟩ : ∃ T2, T2 = strN (longL 65526) := ⟨_, rfl⟩
  have hS1 : ∀ W, Calls Try.prog 12 #[.string T1] W fun e w' => SRet (.ok [⟨2, 0, 11, 65536⟩]) W e w' := fun W => f_Split T1 65536 W (by rw [hT1, longS_size]) _ (by rw [hT1]; exact longL_top)
  have hS2 : ∀ W, Calls Try.prog 25 #[.string T2, .int .i64 3, .int .i64 0] W fun e w' => e = .returned (.bool true) ∧ Below W.heap.size W w' := fun W => l_split T2 0 3 W (by rw [hT2]; exact longL_past)
  have HS1 := Lib.hid hS1
  have HS2 := Lib.hid hS2
  have HX1 := Lib.hid hT1
  have HX2 := Lib.hid hT2
  clear hS1 hS2 hT1 hT2
  have HSA : Hid (∀ W, Calls Try.prog 12 #[.string ⟨#[65, 85, 84, 72, 79, 82, 73, 90, 69, 82, 58, 10, 32, 120, 10, 108, 105, 99, 101, 110, 115, 101, 101, 115, 58, 10]⟩] W fun e w' => SRet (.ok [⟨2, 0, 11, 15⟩, ⟨3, 15, 25, 26⟩]) W e w') := fun W => f_Split _ 26 W rfl _ (by rw [show (26 : Nat) = (bsN ⟨#[65, 85, 84, 72, 79, 82, 73, 90, 69, 82, 58, 10, 32, 120, 10, 108, 105, 99, 101, 110, 115, 101, 101, 115, 58, 10]⟩).length from rfl, splitF_eq]; kernel_rfl)
  have HF1 : Hid (∀ W, Calls Try.prog 16 #[.string ⟨#[65, 117, 116, 104, 111, 114, 105, 122, 101, 114, 58, 32, 120, 10]⟩, .int .u8 2] W fun e w' => e = .returned (.tuple #[.string ⟨#[32, 120, 10]⟩, .bool true, .int .i64 0]) ∧ Below W.heap.size W w') := fun W => f_Find _ 14 2 W rfl (.ok [⟨2, 0, 11, 14⟩]) (by rw [show (14 : Nat) = (bsN ⟨#[65, 117, 116, 104, 111, 114, 105, 122, 101, 114, 58, 32, 120, 10]⟩).length from rfl, splitF_eq]; kernel_rfl) ⟨#[32, 120, 10]⟩ true 0 rfl
  have HF2 : Hid (∀ W, Calls Try.prog 16 #[.string ⟨#[65, 117, 116, 104, 111, 114, 105, 122, 101, 114, 58, 32, 120, 10]⟩, .int .u8 3] W fun e w' => e = .returned (.tuple #[.string ⟨#[]⟩, .bool false, .int .i64 0]) ∧ Below W.heap.size W w') := fun W => f_Find _ 14 3 W rfl (.ok [⟨2, 0, 11, 14⟩]) (by rw [show (14 : Nat) = (bsN ⟨#[65, 117, 116, 104, 111, 114, 105, 122, 101, 114, 58, 32, 120, 10]⟩).length from rfl, splitF_eq]; kernel_rfl) ⟨#[]⟩ false 0 rfl
  have HF3 : Hid (∀ W, Calls Try.prog 16 #[.string ⟨#[]⟩, .int .u8 8] W fun e w' => e = .returned (.tuple #[.string ⟨#[]⟩, .bool false, .int .i64 2]) ∧ Below W.heap.size W w') := fun W => f_Find _ 0 8 W rfl _ rfl ⟨#[]⟩ false 2 rfl
  have HSG : Hid (∀ W, Calls Try.prog 18 #[.string ⟨#[65, 117, 116, 104, 111, 114, 105, 122, 101, 114, 58, 10, 32, 120, 10, 83, 105, 103, 110, 97, 116, 117, 114, 101, 58, 32, 121]⟩] W fun e w' => e = .returned (.tuple #[.string ⟨#[65, 117, 116, 104, 111, 114, 105, 122, 101, 114, 58, 10, 32, 120, 10]⟩, .int .i64 0]) ∧ Below W.heap.size W w') := fun W => f_Signed _ 27 W rfl (.ok [⟨2, 0, 11, 15⟩, ⟨7, 15, 25, 27⟩]) (by rw [show (27 : Nat) = (bsN ⟨#[65, 117, 116, 104, 111, 114, 105, 122, 101, 114, 58, 10, 32, 120, 10, 83, 105, 103, 110, 97, 116, 117, 114, 101, 58, 32, 121]⟩).length from rfl, splitF_eq]; kernel_rfl) ⟨#[65, 117, 116, 104, 111, 114, 105, 122, 101, 114, 58, 10, 32, 120, 10]⟩ 0 rfl
  go_enter Try.func10, Try.ntmps10
  go_wp2
  go_loopw [1] (fun v1 wr => ∃ (m N : Nat) (T : ByteArray), m ≤ 65525 ∧ v1 = .string T ∧ T.size = N ∧ Hid (N = 11 + m) ∧ Hid (T = strN (longL m)) ∧ wr = w) (fun v1 _ => 65536 - strSz v1)
  case atStart => exact ⟨0, 11, _, Nat.zero_le _, rfl, rfl, rfl, rfl, rfl⟩
  case round =>
    obtain ⟨m, N, T, hm, rfl, hTs, HN, HT, rfl⟩ := hrel
    by_cases hin : m < 65525
    · have hN1 : (N : Int) < 65536 := by have := HN.out; omega
      have hN2 : (11 : Int) ≤ (N : Int) := by have := HN.out; omega
      obtain ⟨U, hU⟩ : ∃ U, T.extract 11 N = U := ⟨_, rfl⟩
      have hUN : bsN U = List.replicate m 32 := by
        rw [← hU, bsN_extract, HT.out, bsN_strN (longL_8 _), longL_drop, List.take_of_length_le (by rw [List.length_replicate]; have := HN.out; omega)]
      have hUs : U.size = m := by rw [← bsN_len, hUN, List.length_replicate]
      have H1 : Hid (T ++ U ++ ⟨#[32]⟩ = strN (longL (m + m + 1))) := by
        show _ = _
        rw [← longL_app, ← longL_app, ← strN_app, ← strN_app, ← hUN, strN_bsN, HT.out]
        rfl
      have H2 : Hid (m + m + 1 > 65525 → (T ++ U ++ ⟨#[32]⟩).extract 0 65536 = strN (longL 65525)) := fun h => by
        rw [H1.out, ext_str, bsN_strN (longL_8 _), List.drop_zero, show 65536 - 0 = 11 + 65525 by omega, longL_take (by omega)]
      clear hUN
      by_cases hbig : 65525 < m + m + 1
      · have hb1 : (65536 : Int) < (N : Int) + (m : Int) + 1 := by have := HN.out; omega
        have hb2 : 65536 < N + m + 1 := by omega
        have hb3 : (65536 : Int) ≤ (N : Int) + (m : Int) + 1 := by omega
        have h2 := H2.out hbig
        clear hbig hin
        go_wp2
        go_roundw
        case rel => exact ⟨65525, 65536, _, Nat.le_refl _, rfl, longS_size 65525, rfl, rfl, trivial⟩
        case measure =>
          have := HN.out
          simp only [strSz, longS_size, hTs]
          omega
      · have hb1 : decide ((65536 : Int) < (N : Int) + (m : Int) + 1) = false := decide_eq_false (by have := HN.out; omega)
        have hb2 : decide (65536 < N + m + 1) = false := decide_eq_false (by have := HN.out; omega)
        have hb3 : (N : Int) + (m : Int) + 1 ≤ 65536 := by have := HN.out; omega
        have hb4 : N + m + 1 ≤ 65536 := by omega
        have hmm : m + m + 1 ≤ 65525 := by omega
        clear hbig hin
        go_wp2
        go_roundw
        case rel => exact ⟨m + m + 1, 11 + (m + m + 1), _, hmm, rfl, by rw [H1.out, longS_size], rfl, H1.out, trivial⟩
        case measure =>
          have := HN.out
          rw [H1.out]
          simp only [strSz, longS_size, hTs]
          omega
    · obtain rfl : m = 65525 := by omega
      obtain rfl : T1 = T := HX1.out.trans HT.out.symm
      obtain rfl : N = 65536 := HN.out
      have HT2 : T1 ++ ⟨#[32]⟩ = T2 := by
        rw [HX1.out, HX2.out]
        have := longL_app 65525 1
        rw [show 65525 + 1 = 65526 by omega] at this
        rw [← this, ← strN_app]
        rfl
      have HB0 : Hid (Below wr.heap.size wr wr) := Below.refl _ _
      clear hin hm HN HT
      go_wp2_with fail
      refine (HS1.out _).mono ?_
      rintro e w1 ⟨⟨i1, c1, h1, h2, rfl⟩ | ⟨fs, a, cap, h1, h2, h3, rfl, h5⟩, hb⟩
      · cases h1
      · injection h1 with h1
        subst h1
        obtain ⟨g, rfl, hg, hr⟩ := own_fd h5 rfl (by decide)
        obtain ⟨a0, a1, a2, a3⟩ := range4 (show w1.rangeAt g 0 [.int .u8 2, .int .i64 0, .int .i64 11, .int .i64 65536] from hr 0 (by decide))
        have HB := Lib.hid hb
        clear h2 h3 h5 hr hb hg
        go_wp2_with (go_at_call 25; refine (HS2.out _).mono ?_; rintro e w2 ⟨rfl, hb2⟩; have HB2 := Lib.hid (bel_next HB.out hb2); clear hb2)
        refine (HSA.out _).mono ?_
        rintro e w3 ⟨⟨i1, c1, h1, h2, rfl⟩ | ⟨fs, a, cap, h1, h2, h3, rfl, h5⟩, hb⟩
        · cases h1
        · injection h1 with h1
          subst h1
          obtain ⟨g, rfl, hg, hr⟩ := own_fd h5 rfl (by decide)
          obtain ⟨a0, a1, a2, a3⟩ := range4 (show w3.rangeAt g 0 [.int .u8 2, .int .i64 0, .int .i64 11, .int .i64 15] from hr 0 (by decide))
          obtain ⟨b0, b1, b2, b3⟩ := range4 (show w3.rangeAt g 4 [.int .u8 3, .int .i64 15, .int .i64 25, .int .i64 26] from hr 1 (by decide))
          have HB := Lib.hid (bel_next HB2.out hb)
          clear h2 h3 h5 hr hb hg
          go_wp2_with (first | (go_at_call 25; refine (l_splitB _ _ _ _ (by kernel_rfl)).mono ?_; rintro e wn ⟨rfl, hbn⟩; have HB := Lib.hid (bel_next HB.out hbn); clear hbn) | (go_at_call 16; (with_reducible first | refine (HF1.out _).mono ?_ | refine (HF2.out _).mono ?_ | refine (HF3.out _).mono ?_); rintro e wn ⟨rfl, hbn⟩; have HB := Lib.hid (bel_next HB.out hbn); clear hbn) | (go_at_call 18; refine (HSG.out _).mono ?_; rintro e wn ⟨rfl, hbn⟩; have HB := Lib.hid (bel_next HB.out hbn); clear hbn) | (go_at_call 14; refine (f_works _).mono ?_; rintro e wn ⟨rfl, hbn⟩; have HB := Lib.hid (bel_next HB.out hbn); clear hbn))
          go_ret
          exact ⟨rfl, HB.out⟩
end Go.Proofs.Ytdaaapingaebkaa
