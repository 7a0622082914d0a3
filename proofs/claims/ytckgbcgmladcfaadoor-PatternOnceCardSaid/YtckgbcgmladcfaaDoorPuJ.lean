import Derived.Test.YtckgbcgmladcfaaDoorPuI
namespace Go.Proofs.YtckgbcgmladcfaaDoor
open Go.RowKit

/-! The sign of a repetition. -/
def Tb (w : World) : Prop := Lib.TabIs Tryd.prog w "internal/strconv.uint64pow10" .u64 Lib.pow10Tab
theorem powName : Tryd.prog.globalNamed "internal/strconv.uint64pow10" = some 1 := by kernel_rfl
theorem Tb.low {w w' : World} {m : Nat} (h : Tb w) (hb : Below m w w') (hm : 1 < m) : Tb w' := by
  unfold Tb Lib.TabIs World.var? at h ⊢
  rw [powName] at h ⊢
  simp only [Option.bind_some] at h ⊢
  rw [hb.block _ hm]
  exact h
theorem Tb.below {w w' : World} (h : Tb w) (hb : Below w.heap.size w w') : Tb w' := by
  refine h.low hb ?_
  unfold Tb Lib.TabIs World.var? at h
  rw [powName] at h
  simp only [Option.bind_some] at h
  rcases Nat.lt_or_ge 1 w.heap.size with h' | h'
  · exact h'
  · rw [Array.getElem?_eq_none h'] at h; cases h
theorem itoa_dec (n : Nat) (h : n < 256) : Lib.itoa (n : Int) = (dec3 n).map UInt8.ofNat := by
  have : ∀ x : Fin 256, Lib.itoa ((x.val : Nat) : Int) = (dec3 x.val).map UInt8.ofNat := by decide +kernel
  exact this ⟨n, h⟩
theorem p_itoa (n : Nat) (h : n < 256) (w : World) (ht : Tb w) : Calls Tryd.prog 31 #[.int .i64 (n : Nat)] w fun e w' => e = .returned (.string (strN (dec3 n))) ∧ Below w.heap.size w w' := by
  refine (Tryd.strconv_Itoa (n : Int) (by omega) (by omega) w ht).mono ?_
  rintro e w' ⟨rfl, k, os, rfl⟩
  rw [itoa_dec n h]
  exact ⟨rfl, rfl, rfl, rfl, by show w.heap.size ≤ (w.heap ++ os).size; simp, fun i hi => by show (w.heap ++ os)[i]? = w.heap[i]?; exact Array.getElem?_append_left hi⟩
theorem dec3_len (n : Nat) : (dec3 n).length ≤ 3 := by unfold dec3; split <;> (try split) <;> simp
theorem signT_len (m n : Int) : (signT m n).length ≤ 9 := by
  have h1 := dec3_len m.toNat
  have h2 := dec3_len n.toNat
  unfold signT
  split
  · simp
  · split
    · simp
    · split
      · simp
      · rw [List.length_cons, List.length_append, List.length_append, List.length_append]
        split <;> split <;> simp <;> omega
theorem sz3 (n : Nat) : (strN (dec3 n)).size ≤ 3 := by rw [strN_size]; exact dec3_len n
theorem ret_str {a b : ByteArray} (h : a = b) : Ending.returned (.string a) = .returned (.string b) := by rw [h]
theorem s123 : (⟨#[123]⟩ : ByteArray) = strN [123] := rfl
theorem s125 : (⟨#[125]⟩ : ByteArray) = strN [125] := rfl
theorem s44 : (⟨#[44]⟩ : ByteArray) = strN [44] := rfl
theorem app_sign1 (X : List Nat) : (⟨#[123]⟩ : ByteArray) ++ strN X ++ ⟨#[125]⟩ = strN (123 :: (X ++ ([] ++ ([] ++ [125])))) := by
  rw [s123, s125, strN_app, strN_app]
  simp
theorem app_sign2 (X : List Nat) : (⟨#[123]⟩ : ByteArray) ++ strN X ++ ⟨#[44]⟩ ++ ⟨#[125]⟩ = strN (123 :: (X ++ ([44] ++ ([] ++ [125])))) := by
  rw [s123, s125, s44, strN_app, strN_app, strN_app]
  simp
theorem app_sign3 (X Y : List Nat) : (⟨#[123]⟩ : ByteArray) ++ strN X ++ ⟨#[44]⟩ ++ strN Y ++ ⟨#[125]⟩ = strN (123 :: (X ++ ([44] ++ (Y ++ [125])))) := by
  rw [s123, s125, s44, strN_app, strN_app, strN_app, strN_app]
  simp
set_option maxHeartbeats 1000000 in
set_option maxRecDepth 100000 in
theorem p_sign (m n : Int) (w : World) (ht : Tb w) (hm : 0 ≤ m) (hm2 : m ≤ 255) (hn : n = -1 ∨ (m ≤ n ∧ n ≤ 255)) : Calls Tryd.prog 22 #[.int .i64 m, .int .i64 n] w fun e w' => e = .returned (.string (strN (signT m n))) ∧ Below w.heap.size w w' := by
  have HT := Lib.hid ht
  obtain ⟨M, rfl⟩ : ∃ M : Nat, m = (M : Int) := ⟨m.toNat, by omega⟩
  have hM : M < 256 := by omega
  clear ht
  by_cases h1 : (M : Int) = 0 ∧ n = -1
  · obtain ⟨h1, rfl⟩ := h1
    obtain rfl : M = 0 := by omega
    go_enter Tryd.func22, Tryd.ntmps22
    go_wp2
    go_ret
    exact ⟨rfl, Below.refl _ _⟩
  by_cases h2 : (M : Int) = 1 ∧ n = -1
  · obtain ⟨h2, rfl⟩ := h2
    obtain rfl : M = 1 := by omega
    go_enter Tryd.func22, Tryd.ntmps22
    go_wp2
    go_ret
    exact ⟨rfl, Below.refl _ _⟩
  by_cases h3 : (M : Int) = 0 ∧ n = 1
  · obtain ⟨h3, rfl⟩ := h3
    obtain rfl : M = 0 := by omega
    go_enter Tryd.func22, Tryd.ntmps22
    go_wp2
    go_ret
    exact ⟨rfl, Below.refl _ _⟩
  have hs : signT (M : Int) n = 123 :: (dec3 M ++ ((if n ≠ M then [44] else []) ++ ((if n ≠ M ∧ n ≠ -1 then dec3 n.toNat else []) ++ [125]))) := by
    unfold signT
    rw [if_neg h1, if_neg h2, if_neg h3, Int.toNat_natCast]
  rw [hs]
  clear hs
  have h1' : (M : Int) = 0 → n ≠ -1 := fun a b => h1 ⟨a, b⟩
  have h2' : (M : Int) = 1 → n ≠ -1 := fun a b => h2 ⟨a, b⟩
  have h3' : (M : Int) = 0 → n ≠ 1 := fun a b => h3 ⟨a, b⟩
  clear h1 h2 h3
  by_cases hM0 : M = 0
  · subst hM0
    have h1'' := h1' rfl
    have h3'' := h3' rfl
    clear h1' h2' h3'
    by_cases h4 : n = ((0 : Nat) : Int)
    · subst h4
      rw [if_neg (by simp), if_neg (by simp)]
      go_enter Tryd.func22, Tryd.ntmps22
      go_wp2_with (go_at_call 31; refine (p_itoa 0 (by decide) _ HT.out).mono ?_; rintro e w2 ⟨rfl, hb2⟩; have hz2 := sz3 (0))
      go_ret
      exact ⟨ret_str (app_sign1 _), hb2⟩
    have h5 : n ≠ -1 := by omega
    obtain ⟨N, rfl⟩ : ∃ N : Nat, n = (N : Int) := ⟨n.toNat, by omega⟩
    have hN : N < 256 := by omega
    rw [if_pos h4, if_pos ⟨h4, h5⟩, Int.toNat_natCast]
    have e4 : ((N : Int) == 0) = false := by first | (simp; done) | (simp; omega)
    have e5 : ((N : Int) == -1) = false := by first | (simp; done) | (simp; omega)
    have e4' : ((N : Int) != 0) = true := by rw [bne, e4]; rfl
    have e5' : ((N : Int) != -1) = true := by rw [bne, e5]; rfl
    have e6 : ((N : Int) == 1) = false := by first | (simp; done) | (simp; omega)
    go_enter Tryd.func22, Tryd.ntmps22
    go_wp2_with (first | (go_at_call 31; refine (p_itoa N hN _ HT2.out).mono ?_; rintro e w3 ⟨rfl, hb3⟩; have hz3 := sz3 (N)) | (go_at_call 31; refine (p_itoa 0 (by decide) _ HT.out).mono ?_; rintro e w2 ⟨rfl, hb2⟩; have hz2 := sz3 (0); have HT2 := Lib.hid (HT.out.below hb2)))
    go_ret
    exact ⟨ret_str (app_sign3 _ _), hb2.trans (hb3.mono hb2.size)⟩
  by_cases hM1 : M = 1
  · subst hM1
    have h2'' := h2' rfl
    clear h1' h2' h3'
    by_cases h4 : n = ((1 : Nat) : Int)
    · subst h4
      rw [if_neg (by simp), if_neg (by simp)]
      go_enter Tryd.func22, Tryd.ntmps22
      go_wp2_with (go_at_call 31; refine (p_itoa 1 (by decide) _ HT.out).mono ?_; rintro e w2 ⟨rfl, hb2⟩; have hz2 := sz3 (1))
      go_ret
      exact ⟨ret_str (app_sign1 _), hb2⟩
    have h5 : n ≠ -1 := by omega
    obtain ⟨N, rfl⟩ : ∃ N : Nat, n = (N : Int) := ⟨n.toNat, by omega⟩
    have hN : N < 256 := by omega
    rw [if_pos h4, if_pos ⟨h4, h5⟩, Int.toNat_natCast]
    have e4 : ((N : Int) == 1) = false := by first | (simp; done) | (simp; omega)
    have e5 : ((N : Int) == -1) = false := by first | (simp; done) | (simp; omega)
    have e4' : ((N : Int) != 1) = true := by rw [bne, e4]; rfl
    have e5' : ((N : Int) != -1) = true := by rw [bne, e5]; rfl
    go_enter Tryd.func22, Tryd.ntmps22
    go_wp2_with (first | (go_at_call 31; refine (p_itoa N hN _ HT2.out).mono ?_; rintro e w3 ⟨rfl, hb3⟩; have hz3 := sz3 (N)) | (go_at_call 31; refine (p_itoa 1 (by decide) _ HT.out).mono ?_; rintro e w2 ⟨rfl, hb2⟩; have hz2 := sz3 (1); have HT2 := Lib.hid (HT.out.below hb2)))
    go_ret
    exact ⟨ret_str (app_sign3 _ _), hb2.trans (hb3.mono hb2.size)⟩
  have d0 : ((M : Int) == 0) = false := by first | (simp; done) | (simp; omega)
  have d1 : ((M : Int) == 1) = false := by first | (simp; done) | (simp; omega)
  clear h1' h2' h3'
  by_cases h4 : n = M
  · subst h4
    rw [if_neg (by simp), if_neg (by simp)]
    go_enter Tryd.func22, Tryd.ntmps22
    go_wp2_with (go_at_call 31; refine (p_itoa M hM _ HT.out).mono ?_; rintro e w2 ⟨rfl, hb2⟩; have hz2 := sz3 (M))
    go_ret
    exact ⟨ret_str (app_sign1 _), hb2⟩
  by_cases h5 : n = -1
  · subst h5
    rw [if_pos h4, if_neg (by simp)]
    have e5 : ((-1 : Int) == (M : Int)) = false := by first | (simp; done) | (simp; omega)
    have e5' : ((-1 : Int) != (M : Int)) = true := by rw [bne, e5]; rfl
    go_enter Tryd.func22, Tryd.ntmps22
    go_wp2_with (go_at_call 31; refine (p_itoa M hM _ HT.out).mono ?_; rintro e w2 ⟨rfl, hb2⟩; have hz2 := sz3 (M))
    go_ret
    exact ⟨ret_str (app_sign2 _), hb2⟩
  obtain ⟨N, rfl⟩ : ∃ N : Nat, n = (N : Int) := ⟨n.toNat, by omega⟩
  have hN : N < 256 := by omega
  rw [if_pos h4, if_pos ⟨h4, h5⟩, Int.toNat_natCast]
  have e4 : ((N : Int) == (M : Int)) = false := by first | (simp; done) | (simp; omega)
  have e5 : ((N : Int) == -1) = false := by first | (simp; done) | (simp; omega)
  have e4' : ((N : Int) != (M : Int)) = true := by rw [bne, e4]; rfl
  have e5' : ((N : Int) != -1) = true := by rw [bne, e5]; rfl
  go_enter Tryd.func22, Tryd.ntmps22
  go_wp2_with (first | (go_at_call 31; refine (p_itoa N hN _ HT2.out).mono ?_; rintro e w3 ⟨rfl, hb3⟩; have hz3 := sz3 (N)) | (go_at_call 31; refine (p_itoa M hM _ HT.out).mono ?_; rintro e w2 ⟨rfl, hb2⟩; have hz2 := sz3 (M); have HT2 := Lib.hid (HT.out.below hb2)))
  go_ret
  exact ⟨ret_str (app_sign3 _ _), hb2.trans (hb3.mono hb2.size)⟩
end Go.Proofs.YtckgbcgmladcfaaDoor
