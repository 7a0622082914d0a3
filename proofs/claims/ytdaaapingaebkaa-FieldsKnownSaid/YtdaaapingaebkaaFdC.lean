import Derived.Test.YtdaaapingaebkaaFdB
namespace Go.Proofs.Ytdaaapingaebkaa
open Go.RowKit

/-! fields: kinds, names; a text cut at a byte. -/
theorem nameS_size : ∀ k, (nameS k).size ≤ 15 := by
  intro k
  rw [nameS, strN_size]
  unfold nameN
  split <;> decide
set_option maxHeartbeats 1000000 in
set_option maxRecDepth 100000 in
theorem f_Kind (s : ByteArray) (q : Nat) (w : World) (hq : kindN (bsN s) = q) :
    Calls Try.prog 20 #[.string s] w fun e w' => e = .returned (.tuple #[.int .u8 (q : Nat), .bool (decide (q ≠ 0))]) ∧ ∃ k, w' = w.drewN k := by
  obtain ⟨bq, hbq⟩ : ∃ b, b = decide (q ≠ 0) := ⟨_, rfl⟩
  rw [← hbq]
  have HBQ := Lib.hid hbq
  have HQ := Lib.hid hq
  have HSZ := Lib.hid nameS_size
  clear hq hbq
  go_enter Try.func20, Try.ntmps20
  go_wp2
  go_loopw [4] (fun iv wr => ∃ k : Nat, 1 ≤ k ∧ k ≤ 8 ∧ iv = .int .u8 (k : Nat) ∧ Hid (kindFrom (bsN s) (8 - k) k = q) ∧ Hid (∃ m, wr = w.drewN m)) (fun iv _ => 8 - (intOf iv).toNat)
  case atStart => exact ⟨1, Nat.le_refl _, by omega, rfl, HQ.out, 0, rfl⟩
  case round =>
    obtain ⟨k, hk1, hk8, rfl, HK, HM⟩ := hrel
    by_cases hk : k ≤ 7
    · obtain ⟨b, hb⟩ : ∃ b, isK (bsN s) k = b := ⟨_, rfl⟩
      have HAL : Hid (∀ W, Calls Try.prog 37 #[.string s, .string (nameS k)] W fun e w' => e = .returned (.bool b) ∧ ∃ m, w' = W.drewN m) := fun W => by
        have h := f_alike s (nameS k) s.size (nameS k).size W rfl rfl (by have := HSZ.out k; omega)
        rw [bsN_nameS (by omega)] at h
        rw [← hb]
        exact h
      have e1 : IntKind.u8.wrap ((k : Int) + 1) = (k : Int) + 1 := by
        rw [show ((k : Int) + 1) = ((k + 1 : Nat) : Int) by omega]; exact wrap_u8_in (k + 1) (by omega)
      have HBB := Lib.hid hb
      clear hb
      cases b with
      | true =>
        have hqk : q = k := by
          have := HK.out
          rw [show 8 - k = (7 - k) + 1 by omega] at this
          simp only [kindFrom, HBB.out, if_true] at this
          exact this.symm
        obtain rfl : bq = true := by rw [HBQ.out]; exact decide_eq_true (by omega)
        subst hqk
        go_wp2_with (first | (go_at_call 33; refine (f_nameOf q _).mono ?_; rintro e w1 ⟨rfl, rfl⟩) | (go_at_call 37; refine (HAL.out _).mono ?_; rintro e w1 ⟨rfl, m1, rfl⟩))
        go_ret2
        exact ⟨rfl, drew_more HM.out _⟩
      | false =>
        have HK2 : Hid (kindFrom (bsN s) (8 - (k + 1)) (k + 1) = q) := by
          have := HK.out
          rw [show 8 - k = (7 - k) + 1 by omega] at this
          simp only [kindFrom, HBB.out, Bool.false_eq_true, if_false] at this
          show kindFrom _ _ _ = q
          rw [show 8 - (k + 1) = 7 - k by omega]
          exact this
        go_wp2_with (first | (go_at_call 33; refine (f_nameOf k _).mono ?_; rintro e w1 ⟨rfl, rfl⟩) | (go_at_call 37; refine (HAL.out _).mono ?_; rintro e w1 ⟨rfl, m1, rfl⟩))
        go_roundw
        case rel => exact ⟨k + 1, by omega, by omega, by go_num, HK2.out, drew_more HM.out _⟩
        case measure => simp [intOf]; omega
    · obtain rfl : k = 8 := by omega
      obtain rfl : q = 0 := HK.out.symm
      obtain rfl : bq = false := HBQ.out
      go_wp2
      go_ret2
      exact ⟨rfl, HM.out⟩
set_option maxRecDepth 100000 in
theorem f_clone (s : ByteArray) (w : World) (h : s.size ≤ 281474976710656) : Calls Try.prog 35 #[.string s] w fun e w' => e = .returned (.string s) ∧ Below w.heap.size w w' := by
  go_enter Try.func35, Try.ntmps35
  go_wp2_with (go_at_call 43; refine (Try.stringslite_Clone s _ h).mono ?_; rintro e w1 ⟨rfl, hb⟩)
  go_ret
  exact ⟨rfl, hb⟩
set_option maxRecDepth 100000 in
theorem f_Name (k : Nat) (w : World) : Calls Try.prog 21 #[.int .u8 (k : Nat)] w fun e w' => e = .returned (.string (nameS k)) ∧ Below w.heap.size w w' := by
  have HSZ := Lib.hid (nameS_size k)
  go_enter Try.func21, Try.ntmps21
  go_wp2_with (first | (go_at_call 33; refine (f_nameOf k _).mono ?_; rintro e w1 ⟨rfl, rfl⟩) | (go_at_call 35; refine (f_clone _ _ (by have := HSZ.out; omega)).mono ?_; rintro e w1 ⟨rfl, hb⟩))
  go_ret
  exact ⟨rfl, hb⟩
/-- A text cut at a byte. -/
def CutC (c : UInt8) (s : ByteArray) (e : Ending) : Prop :=
  (∃ f d, bsN s = f ++ c.toNat :: d ∧ c.toNat ∉ f ∧ e = .returned (.tuple #[.string (strN f), .string (strN d), .bool true])) ∨ (c.toNat ∉ bsN s ∧ e = .returned (.tuple #[.string s, .string ⟨#[]⟩, .bool false]))
set_option maxHeartbeats 1000000 in
set_option maxRecDepth 100000 in
theorem f_cutL (c : UInt8) (s : ByteArray) (n : Nat) (w : World) (hn : s.size = n) (hbig : n ≤ 1099511627776) :
    Calls Try.prog 46 #[.string s, .string ⟨#[c]⟩] w fun e w' => CutC c s e ∧ Below w.heap.size w w' := by
  have hl : (bsN s).length = n := by rw [bsN_len, hn]
  rcases index_list s.data.toList c with ⟨h1, h2⟩ | ⟨i, h1, h2, h3, h4⟩
  · have HN : Hid (c.toNat ∉ bsN s) := h2
    clear h2 hl
    go_enter Try.func46, Try.ntmps46
    go_wp2_with fail
    refine (Try.stringslite_Index_one s c _).mono ?_
    rintro e w1 ⟨rfl, rfl⟩
    rw [h1]
    clear h1
    go_wp2
    go_ret3
    exact ⟨.inr ⟨HN.out, rfl⟩, Below.refl _ _⟩
  · have hin : i < n := by rw [← hn]; exact h2
    have HE1 : Hid (s.extract 0 i = strN ((bsN s).take i)) := by show _ = _; rw [ext_str]; simp
    have HE2 : Hid (s.extract (i + 1) n = strN ((bsN s).drop (i + 1))) := by show _ = _; rw [ext_str, List.take_of_length_le (by rw [List.length_drop, hl]; omega)]
    obtain ⟨f, hf⟩ : ∃ f, f = (bsN s).take i := ⟨_, rfl⟩
    obtain ⟨d, hd⟩ : ∃ d, d = (bsN s).drop (i + 1) := ⟨_, rfl⟩
    have HS : Hid (bsN s = f ++ c.toNat :: d) := by show _ = _; rw [hf, hd]; exact h3
    have HN : Hid (c.toNat ∉ f) := by show _ ∉ _; rw [hf]; exact h4
    rw [← hf] at HE1
    rw [← hd] at HE2
    clear hf hd
    have c1 : (0 : Int) ≤ (i : Int) := by omega
    have c2 : (i : Int) ≤ (n : Int) := by omega
    have c3 : (0 : Int) ≤ (i : Int) + 1 := by omega
    have c4 : (i : Int) + 1 ≤ (n : Int) := by omega
    have c5 : IntKind.i64.wrap ((i : Int) + 1) = (i : Int) + 1 := by rw [show ((i : Int) + 1) = ((i + 1 : Nat) : Int) by omega]; exact wrap_i64_nat _ (by omega)
    clear h2 h3 h4 hl
    go_enter Try.func46, Try.ntmps46
    go_wp2_with fail
    refine (Try.stringslite_Index_one s c _).mono ?_
    rintro e w1 ⟨rfl, rfl⟩
    rw [h1]
    clear h1
    go_wp2
    go_region_with (fail)
    all_goals
      go_simp
      rw [HE1.out, HE2.out]
      go_wp2
      go_ret3
      refine ⟨.inl ⟨f, d, HS.out, HN.out, (by go_simp)⟩, (Below.refl _ _).drew⟩
set_option maxHeartbeats 1000000 in
set_option maxRecDepth 100000 in
theorem f_cut (c : UInt8) (s : ByteArray) (n : Nat) (w : World) (hn : s.size = n) (hbig : n ≤ 1099511627776) :
    Calls Try.prog 45 #[.string s, .string ⟨#[c]⟩] w fun e w' => CutC c s e ∧ Below w.heap.size w w' := by
  go_enter Try.func45, Try.ntmps45
  go_wp2_with fail
  refine (f_cutL c s n _ hn hbig).mono ?_
  rintro e w1 ⟨⟨f, d, hs, hf, rfl⟩ | ⟨hno, rfl⟩, hb⟩
  · have HS := Lib.hid hs
    have HF := Lib.hid hf
    clear hs hf
    go_wp2
    go_ret3
    exact ⟨.inl ⟨f, d, HS.out, HF.out, rfl⟩, hb⟩
  · have HN := Lib.hid hno
    clear hno
    go_wp2
    go_ret3
    exact ⟨.inr ⟨HN.out, rfl⟩, hb⟩
set_option maxHeartbeats 1000000 in
set_option maxRecDepth 100000 in
/-- The place behind a line. -/
theorem f_behindLine (s : ByteArray) (n i z : Nat) (w : World) (hn : s.size = n) (hbig : n ≤ 65536) (hi : i ≤ n) (hz : z = i + behL ((bsN s).drop i)) :
    Calls Try.prog 39 #[.string s, .int .i64 (i : Nat)] w fun e w' => e = .returned (.int .i64 (z : Nat)) ∧ Below w.heap.size w w' := by
  obtain ⟨t, ht⟩ : ∃ t, t = s.extract i n := ⟨_, rfl⟩
  have htl : bsN t = (bsN s).drop i := by rw [ht, ← hn]; exact bsN_from s i
  have hts : t.size = n - i := by rw [← bsN_len, htl, List.length_drop, bsN_len, hn]
  have HC := Lib.hid (fun W => f_cut 10 t (n - i) W hts (by omega))
  have HTL := Lib.hid htl
  have HT : Hid (s.extract i n = t) := ht.symm
  have hsl : (bsN s).length = n := by rw [bsN_len, hn]
  have HSL := Lib.hid hsl
  have c1 : (0 : Int) ≤ (i : Int) := by omega
  have c2 : (i : Int) ≤ (n : Int) := by omega
  have HZ := Lib.hid hz
  have hzn : z ≤ n := by have := behL_le ((bsN s).drop i); rw [List.length_drop, hsl] at this; omega
  clear hz ht htl hts hsl
  go_enter Try.func39, Try.ntmps39
  go_wp2_with fail
  rw [HT.out]
  refine (HC.out _).mono ?_
  rintro e w1 ⟨⟨f, d, hs, hf, rfl⟩ | ⟨hno, rfl⟩, hb⟩
  · have hz2 : z = i + f.length + 1 := by
      rw [HZ.out, ← HTL.out, show bsN t = f ++ 10 :: d from hs, behL_cut (show 10 ∉ f from hf)]; rfl
    have HF : (strN f).size = f.length := strN_size f
    have HB := Lib.hid hb
    clear hs hf hb
    go_wp2
    go_ret
    refine ⟨ret_int ?_, HB.out⟩
    go_num
  · have hz2 : z = n := by
      rw [HZ.out, ← HTL.out, behL_all (show 10 ∉ bsN t from hno), HTL.out, List.length_drop, HSL.out]; omega
    have HB := Lib.hid hb
    clear hno hb
    go_wp2
    go_ret
    refine ⟨ret_int ?_, HB.out⟩
    omega
end Go.Proofs.Ytdaaapingaebkaa
