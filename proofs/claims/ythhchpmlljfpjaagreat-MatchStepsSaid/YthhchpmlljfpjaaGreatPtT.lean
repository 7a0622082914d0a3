import Derived.Test.YthhchpmlljfpjaaGreatPtS
namespace Go.Proofs.YthhchpmlljfpjaaGreat
open Go.RowKit

theorem num3_lt {l : List Nat} (h : Num3 l) : decv l < 1000 := by
  have := decv_lt (l := l) l.length (Nat.le_refl _) (by rw [List.take_length]; exact h.2.2)
  rw [List.take_length] at this
  exact Nat.lt_of_lt_of_le this (Nat.le_trans (Nat.pow_le_pow_right (by decide) h.2.1) (by decide))
theorem num3_no {l : List Nat} (h : ¬ Num3 l) : num3B l = false := by
  rw [Bool.eq_false_iff]
  exact fun e => h ((num3B_iff l).1 e)
theorem cut_size {S p A R : ByteArray} {E : Bool} (hp : p.data.toList ≠ []) (h : cutVal S p = .tuple #[.string A, .string R, .bool E]) : A.size ≤ S.size ∧ R.size ≤ S.size := by
  have k1 := cutVal_ret (S := S) hp
  rw [h] at k1
  cases c1 : cutP (bsN p) (bsN S) with
  | none =>
    rw [c1] at k1
    have k1 : Value.tuple #[.string A, .string R, .bool E] = .tuple #[.string S, .string ⟨#[]⟩, .bool false] := k1
    obtain ⟨rfl, rfl, _⟩ : A = S ∧ R = ⟨#[]⟩ ∧ E = false := by simpa using k1
    exact ⟨Nat.le_refl _, Nat.zero_le _⟩
  | some q =>
    obtain ⟨a, r⟩ := q
    rw [c1] at k1
    have k1 : Value.tuple #[.string A, .string R, .bool E] = .tuple #[.string (strN a), .string (strN r), .bool true] := k1
    obtain ⟨rfl, rfl, _⟩ : A = strN a ∧ R = strN r ∧ E = true := by simpa using k1
    have hl := cutP_len c1
    rw [bsN_len S] at hl
    rw [strN_size, strN_size]
    omega
theorem cut_sizes {s : ByteArray} {i n : Nat} (hn : s.size = n) {In R F G : ByteArray} {E P : Bool} (h1 : cutVal (s.extract i n) ⟨#[125]⟩ = .tuple #[.string In, .string R, .bool E]) (h2 : cutVal In ⟨#[44]⟩ = .tuple #[.string F, .string G, .bool P]) : In.size ≤ n ∧ F.size ≤ n ∧ G.size ≤ n := by
  have k1 := cut_size (by decide) h1
  have k2 := cut_size (by decide) h2
  rw [ByteArray.size_extract] at k1
  omega
theorem int_yes {rb : Nat} {s : ByteArray} {i o n : Nat} {w w' : World} {In F G : ByteArray} {E P : Bool} {a b : Int} (hn : s.size = n) (hC : Cuts ((bsN s).drop i) In F G E P) (hE : E = true) (hr : resF E P (bsN F) (bsN G) = some (a, b)) (hs : RS w w' rb s (i + (In.size + 1)) o) :
    IntRet rb s i o n w (.returned (.tuple #[.int .i64 a, .int .i64 b, .int .i64 0])) w' := by
  have h1 := hC.size hE
  rw [List.length_drop, bsN_len, hn] at h1
  refine ⟨_, a, b, 0, hs, by omega, by omega, rfl, .inl ⟨rfl, by omega, ?_⟩⟩
  rw [hC.res, hr, List.drop_drop]
  rfl
theorem int_no {rb : Nat} {s : ByteArray} {i o n : Nat} {w w' : World} {In F G : ByteArray} {E P : Bool} (hi : i ≤ n) (hC : Cuts ((bsN s).drop i) In F G E P) (hr : resF E P (bsN F) (bsN G) = none) (hs : RS w w' rb s i o) :
    IntRet rb s i o n w (.returned (.tuple #[.int .i64 0, .int .i64 0, .int .i64 105])) w' :=
  ⟨_, 0, 0, 105, hs, Nat.le_refl _, hi, rfl, .inr ⟨rfl, by rw [hC.res, hr]; rfl⟩⟩
set_option maxHeartbeats 2000000 in
set_option maxRecDepth 100000 in
theorem p_interval (rb : Nat) (s : ByteArray) (i o : Nat) (w : World) (n : Nat) (hn : s.size = n) (hbig : n ≤ 1099511627776) (hn32 : n < 4294967281) (hi : i ≤ n) (hg : Gl w) (hr : RB w rb s i o) :
    Calls Tryz.prog 110 #[.pointer (some ⟨rb, 0, none⟩)] w fun e w' => IntRet rb s i o n w e w' := by
  obtain ⟨h0, h1, h2, f1, f2⟩ := hr.cells
  have c1 : (0 : Int) ≤ (i : Int) := by omega
  have c2 : (i : Int) ≤ (s.size : Int) := by omega
  have c3 : i ≤ s.size := by omega
  have hS32 : (s.extract i n).size < 4294967281 := by rw [ByteArray.size_extract]; omega
  have hT : bsN (s.extract i n) = (bsN s).drop i := by rw [← hn]; exact bsN_from s i
  obtain ⟨In, R, E, hc1⟩ : ∃ In R E, cutVal (s.extract i n) ⟨#[125]⟩ = .tuple #[.string In, .string R, .bool E] := ⟨_, _, _, rfl⟩
  obtain ⟨F, G, P, hc2⟩ : ∃ F G P, cutVal In ⟨#[44]⟩ = .tuple #[.string F, .string G, .bool P] := ⟨_, _, _, rfl⟩
  have hC := cuts_of hc1 hc2
  rw [hT] at hC
  have hb1 : In.size ≤ n ∧ F.size ≤ n ∧ G.size ≤ n := cut_sizes hn hc1 hc2
  obtain ⟨b1, b2, b3⟩ := hb1
  have hIn32 : In.size < 4294967281 := by omega
  have HC := Lib.hid hC
  have HC1 := Lib.hid hc1
  have HC2 := Lib.hid hc2
  obtain ⟨g, hg0⟩ : ∃ g, (bsN G).isEmpty = g := ⟨_, rfl⟩
  have hgt : (G.toList == []) = g := by
    rw [beq_lit, ← hg0]
    cases bsN G with
    | nil => rfl
    | cons c t => simp
  have HG0 := Lib.hid hg0
  clear hC hc1 hc2 hg0
  have HS0 := Lib.hid (RS.refl hr)
  cases g <;> cases E <;> cases P
  all_goals
    go_enter Tryz.func110, Tryz.ntmps110
    go_wp2
    go_quiet ((go_at_call 121; exact q_cut hS32 hg HC1.out))
    have y0 : ∀ k, (w.drewN k).cell? ⟨rb, 0, none⟩ = some (.string s) := fun _ => h0
    have y1 : ∀ k, (w.drewN k).cell? ⟨rb, 1, none⟩ = some (.int .i64 (i : Nat)) := fun _ => h1
    go_wp2_with (first | (go_at_call 121; (refine (p_cut hIn32 (Gl.drewN hg _) HC2.out).mono ?_); rintro e w' ⟨rfl, m2, rfl⟩) | (go_at_call 122; (with_reducible refine (p_number F F.size _ rfl (by omega)).mono ?_); rintro e w' ⟨⟨hNF, rfl⟩ | ⟨hNF, rfl⟩, rfl⟩) | (go_at_call 122; (with_reducible refine (p_number G G.size _ rfl (by omega)).mono ?_); rintro e w' ⟨⟨hNG, rfl⟩ | ⟨hNG, rfl⟩, rfl⟩) | (go_at_call 99; (with_reducible refine (p_isInterval _ _ _ ?_ ?_ ?_ ?_).mono ?_); (have := num3_lt hNF; omega); (have := num3_lt hNF; omega); (first | omega | (have := num3_lt hNF; omega) | (have := num3_lt hNG; omega)); (first | omega | (have := num3_lt hNF; omega) | (have := num3_lt hNG; omega)); rintro e w' ⟨rfl, rfl⟩))
    all_goals
      first | have hBF := (num3B_iff _).2 hNF | have hBF := num3_no hNF
      try (first | have hBG := (num3B_iff _).2 hNG | have hBG := num3_no hNG)
      try simp only [Bool.not_eq_true', Bool.not_eq_false'] at *
      go_ret3
      first
        | exact int_no hi HC.out (by have := HG0.out; simp [resF, *]) ((HS0.out.drewN _).drewN _)
        | exact int_no hi HC.out (by have := HG0.out; simp [resF, *]) (HS0.out.drewN _)
        | exact int_yes hn HC.out rfl (by have := HG0.out; simp [resF, *]) ((HS0.out.drewN _).at (i + (In.size + 1)) (by go_num))
        | exact int_yes hn HC.out rfl (by have := HG0.out; simp [resF, *]) (((HS0.out.drewN _).drewN _).at (i + (In.size + 1)) (by go_num))
end Go.Proofs.YthhchpmlljfpjaaGreat
