import Derived.Test.YtdaaapingaebkaaFdP
namespace Go.Proofs.Ytdaaapingaebkaa
open Go.RowKit

/-! FieldsMore. -/
theorem ext_back (s t u : ByteArray) (a b : Nat) (ha : s.size + t.size = a) (hb : a + u.size = b) : (s ++ t ++ u).extract a b = u := by
  have h1 : (bsN s ++ bsN t).length = a := by rw [List.length_append, bsN_len, bsN_len]; exact ha
  rw [ext_str, bsN_app2, bsN_app2, List.drop_append_of_le_length (by omega), List.drop_of_length_le (by omega), List.nil_append, List.take_of_length_le (by rw [bsN_len]; omega), strN_bsN]
theorem own_cap {w : World} {B E S n cap : Nat} {a : Option Addr} {xs : List Value} (h : w.ownsRow B E S (.slice a n cap) n xs) : n ≤ cap := by
  rcases h.2 with ⟨h1, h2⟩ | ⟨g, c, cur, h1, _, _, h2, _⟩
  · omega
  · injection h1 with _ _ h3
    omega
theorem frow_front {w : World} {g len cap : Nat} {G : List Fd} {f : Fd} (hl : G.length = len) (h : ∀ i (hi : i < (G ++ [f]).length), w.rangeAt g (i * 4) ((G ++ [f])[i]).cells) : FRow w (.slice (some ⟨g, 0, none⟩) len cap) G := by
  refine ⟨_, cap, by rw [hl], fun _ => ⟨g, rfl, fun i hi => ?_⟩⟩
  have := h i (by rw [List.length_append]; omega)
  rwa [List.getElem_append_left hi] at this
set_option maxHeartbeats 8000000 in
set_option maxRecDepth 100000 in
theorem d_FieldsMore (s more : ByteArray) (w : World) (hmore : more.size ≤ 9223372036854775807) : Calls Try.prog 8 #[.string s, .string more] w fun e w' => e = .returned (.bool true) ∧ Below w.heap.size w w' := by
  obtain ⟨n, hn⟩ : ∃ n, s.size = n := ⟨_, rfl⟩
  obtain ⟨r, hr⟩ : ∃ r, (splitR (bsN s)).fin n = r := ⟨_, rfl⟩
  have hsl : (bsN s).length = n := by rw [bsN_len, hn]
  have HFS := Lib.hid (fun W => f_Split s n W hn r hr)
  have HR := Lib.hid hr
  have HSL := Lib.hid hsl
  have HBH := Lib.hid (fun W => l_behind more more.size W rfl hmore)
  clear hr hsl
  go_enter Try.func8, Try.ntmps8
  go_wp2_with fail
  refine (HFS.out _).mono ?_
  rintro e w1 ⟨⟨i1, c1, rfl, h2, rfl⟩ | ⟨G, a, cap, rfl, h2, h3, rfl, h5⟩, hb⟩
  · have hc0 : ((c1 : Int) == 0) = false := by simp; omega
    have HB1 := Lib.hid hb
    clear hb
    go_wp2_with (go_at_call 14; refine (f_works _).mono ?_; rintro e w2 ⟨rfl, hb2⟩; have HB2 := Lib.hid (bel_next HB1.out hb2); clear hb2)
    go_ret
    exact ⟨rfl, HB2.out⟩
  · have hr := HR.out
    rw [← HSL.out] at hr
    obtain ⟨ht, hbig, -⟩ := split_tile hr
    rw [HSL.out] at hbig
    have hnpos : 0 < n := by
      obtain ⟨u1, u2, u3, -⟩ := ht.at_ 0 ht.pos
      rw [HSL.out] at u3
      omega
    obtain ⟨g, rfl, hg, hrow⟩ := own_fd h5 rfl h2
    have HFR1 := Lib.hid (own_frow h5)
    obtain ⟨len, hl⟩ : ∃ len, G.length = len := ⟨_, rfl⟩
    have hlb : len ≤ 65536 := by omega
    have hlpos : 0 < len := by omega
    have HROW := Lib.hid hrow
    have HL := Lib.hid hl
    have HRS := Lib.hid hr
    have HB1 := Lib.hid hb
    have hse : (s.toList == []) = false := by
      rw [beq_lit]
      refine decide_eq_false fun e => ?_
      have := HSL.out
      rw [e] at this
      simp at this
      omega
    rw [hl] at HFR1 ⊢
    have HH3 := Lib.hid h3
    clear hr ht h2 h3 h5 hb hg hrow hl
    obtain ⟨d, hd⟩ : ∃ d, at0 (bsN s) (n - 1) = d := ⟨_, rfl⟩
    have e0 : ((n : Int) - 1) = ((n - 1 : Nat) : Int) := by omega
    have x2 : ∀ W, (Instr.index 9 (.string s) (.int .i64 ((n : Int) - 1))).run Try.prog W = .ok (.int .u8 (d : Nat)) W := by rw [e0]; exact idx_str 9 Try.underlying9 s (n - 1) d (by omega) hd
    have e1 : IntKind.i64.wrap ((n : Int) - 1) = (n : Int) - 1 := by rw [e0]; exact wrap_i64_nat _ (by omega)
    have c4 : (0 : Int) ≤ (n : Int) - 1 := by omega
    have c5 : (n : Int) - 1 < (s.size : Int) := by omega
    have HD := Lib.hid hd
    clear hd e0
    by_cases hd10 : d = 10
    · subst hd10
      by_cases hlim : 65136 < n
      · have hl1 : (65136 : Int) < (n : Int) := by omega
        go_wp2_with (go_at_call 14; refine (f_works _).mono ?_; rintro e w2 ⟨rfl, hb2⟩; have HB2 := Lib.hid (bel_next HB1.out hb2); clear hb2)
        go_ret
        exact ⟨rfl, HB2.out⟩
      have hl1 : decide ((65136 : Int) < (n : Int)) = false := decide_eq_false (by omega)
      have hl2 : (n : Int) ≤ 65136 := by omega
      have hl3 : n ≤ 65136 := by omega
      clear hlim
      go_wp2
      clear x2 e1 c4 c5 hl1
      go_loopw [8] (fun iv wr => ∃ i : Nat, i ≤ len ∧ iv = .int .i64 (i : Nat) ∧ Hid (∀ j (hj : j < G.length), j < i → (G[j]).k ≠ 6 ∧ (G[j]).k ≠ 7) ∧ wr = w1) (fun iv _ => len - (intOf iv).toNat)
      case atStart => exact ⟨0, Nat.zero_le _, rfl, fun j _ h => absurd h (Nat.not_lt_zero _), rfl⟩
      case round =>
        obtain ⟨i, hi, rfl, HN, rfl⟩ := hrel
        by_cases hin : i < len
        · have hif : i < G.length := by rw [HL.out]; exact hin
          obtain ⟨f, hf⟩ : ∃ f, f = G[i] := ⟨_, rfl⟩
          have hra := HROW.out i hif
          rw [← hf] at hra
          obtain ⟨fk, fa, fb, fe⟩ := f
          obtain ⟨z0, -, -, -⟩ := range4 (show wr.rangeAt g (i * 4) [.int .u8 (fk : Nat), .int .i64 (fa : Nat), .int .i64 (fb : Nat), .int .i64 (fe : Nat)] from hra)
          have HF := Lib.hid hf
          clear hra hf
          by_cases h6 : fk = 6
          · subst h6
            go_wp2_with (go_at_call 14; refine (f_works _).mono ?_; rintro e w2 ⟨rfl, hb2⟩; have HB2 := Lib.hid (bel_next HB1.out hb2); clear hb2)
            go_ret
            exact ⟨rfl, HB2.out⟩
          · have v6 : ((fk : Int) == 6) = false := by simp only [beq_eq_false_iff_ne]; omega
            by_cases h7 : fk = 7
            · subst h7
              clear h6
              go_wp2_with (go_at_call 14; refine (f_works _).mono ?_; rintro e w2 ⟨rfl, hb2⟩; have HB2 := Lib.hid (bel_next HB1.out hb2); clear hb2)
              go_ret
              exact ⟨rfl, HB2.out⟩
            · have v7 : ((fk : Int) == 7) = false := by simp only [beq_eq_false_iff_ne]; omega
              have HN2 : Hid (∀ j (hj : j < G.length), j < i + 1 → (G[j]).k ≠ 6 ∧ (G[j]).k ≠ 7) := fun j hj h => by
                by_cases he : j = i
                · subst he; rw [← HF.out]; exact ⟨h6, h7⟩
                · exact HN.out j hj (by omega)
              clear h6 h7
              go_wp2
              go_roundw
              case rel => exact ⟨i + 1, by omega, by go_num, HN2.out, trivial⟩
              case measure => simp [intOf]; omega
        · obtain rfl : i = len := by omega
          have h6 : hasK 6 G = false := hasK_none fun j hj _ => (HN.out j hj (by rw [← HL.out]; exact hj)).1
          have h7 : hasK 7 G = false := hasK_none fun j hj _ => (HN.out j hj (by rw [← HL.out]; exact hj)).2
          have hcom := com_more (b := bsN more) HRS.out (by rw [HSL.out]; exact HD.out) h6 h7 (by rw [HSL.out]; exact hl3)
          rw [HSL.out] at hcom
          obtain ⟨B, hB⟩ : ∃ B, strN (behT (bsN more)) = B := ⟨_, rfl⟩
          obtain ⟨q, hq⟩ : ∃ q, (behT (bsN more)).length = q := ⟨_, rfl⟩
          have hBs : B.size = q := by rw [← hB, strN_size, hq]
          have hq2 : q ≤ 302 := by rw [← hq]; exact behT_len _
          have hBN : bsN B = behT (bsN more) := by rw [← hB, bsN_strN (behT_8 (bsN_8 _))]
          rw [hB] at HBH
          rw [hq] at hcom
          obtain ⟨T, hT⟩ : ∃ T, s ++ ⟨#[67, 111, 109, 109, 101, 110, 116, 58]⟩ ++ B = T := ⟨_, rfl⟩
          have hTN : bsN T = bsN s ++ ([67, 111, 109, 109, 101, 110, 116] ++ 58 :: behT (bsN more)) := by
            rw [← hT, bsN_app2, bsN_app2, hBN]
            simp [bsN]
          obtain ⟨N, hN⟩ : ∃ N, N = n + 8 + q := ⟨_, rfl⟩
          rw [← hN] at hcom
          have hTs : T.size = N := by
            rw [← bsN_len, hTN, List.length_append, HSL.out, hN, ← hq]
            simp
            omega
          have hTx : T.extract (n + 8) N = B := by rw [← hT]; exact ext_back s _ B (n + 8) N (by rw [hn]; rfl) (by rw [hBs, hN])
          have HSP := Lib.hid (fun W => f_Split T N W hTs (.ok (G ++ [⟨6, n, n + 8, N⟩])) (by rw [hTN]; exact hcom))
          have HFD : Hid (∀ W, Calls Try.prog 16 #[.string T, .int .u8 6] W fun e w' => e = .returned (.tuple #[.string B, .bool true, .int .i64 0]) ∧ Below W.heap.size W w') := fun W => f_Find T N 6 W hTs (.ok (G ++ [⟨6, n, n + 8, N⟩])) (by rw [hTN]; exact hcom) B true 0 (by
            unfold findV
            rw [if_neg (by decide)]
            show (match (G ++ [Fd.mk 6 n (n + 8) N]).find? (fun f => decide (f.k = 6)) with | some f => (T.extract f.b f.e, true, 0) | none => (⟨#[]⟩, false, Res.code _)) = _
            rw [find_app h6 rfl]
            show (T.extract (n + 8) N, true, 0) = _
            rw [hTx])
          have HT := Lib.hid hT
          have HNN := Lib.hid hN
          clear hcom hB hBN hT hTN hTs hTx h6 h7 hq
          go_wp2_with (go_at_call 24; refine (HBH.out _).mono ?_; rintro e w2 ⟨rfl, hb2⟩; have HB2 := Lib.hid (bel_next HB1.out hb2); have HFR2 := Lib.hid (HFR1.out.below hb2); clear hb2)
          rw [HT.out]
          refine (HSP.out _).mono ?_
          rintro e w3 ⟨⟨i3, c3, h1, h2, rfl⟩ | ⟨G3, a3, cap3, h1, h2, h3, rfl, h5⟩, hb3⟩
          · cases h1
          · injection h1 with h1
            subst h1
            have hcap0 := own_cap h5
            obtain ⟨g3, rfl, hg3, hrow3⟩ := own_fd h5 rfl h2
            have hlen3 : (G ++ [Fd.mk 6 n (n + 8) N]).length = i + 1 := by rw [List.length_append, HL.out]; rfl
            have hx3 := hrow3 i (by rw [hlen3]; omega)
            rw [List.getElem_append_right (by rw [HL.out]; exact Nat.le_refl _)] at hx3
            simp only [HL.out, Nat.sub_self, List.getElem_cons_zero] at hx3
            obtain ⟨z0, z1, z2, z3⟩ := range4 (show w3.rangeAt g3 (i * 4) [.int .u8 6, .int .i64 (n : Nat), .int .i64 ((n + 8 : Nat)), .int .i64 (N : Nat)] from hx3)
            have HFR3 := Lib.hid (frow_front (cap := cap3) HL.out hrow3)
            have HFR4 := Lib.hid (HFR2.out.below hb3)
            have HB3 := Lib.hid (bel_next HB2.out hb3)
            have HSM := Lib.hid (fun W (h : FRow W (.slice (some ⟨g3, 0, none⟩) G.length cap3) G) (h' : FRow W (.slice (some ⟨g, 0, none⟩) G.length cap) G) => r_Same _ _ G W HH3.out h h')
            rw [HL.out] at HSM
            have hcap1 : i ≤ cap3 := by omega
            have hcap2 : (i : Int) ≤ (cap3 : Int) := by omega
            rw [hlen3]
            clear hcap0
            clear h2 h3 h5 hb3 hg3 hrow3 hlen3 hx3
            rw [HNN.out] at z3
            go_wp2_with fail
            rw [HT.out]
            refine (HFD.out _).mono ?_
            rintro e w4 ⟨rfl, hb4⟩
            have HFR5 := Lib.hid (HFR3.out.below hb4)
            have HFR6 := Lib.hid (HFR4.out.below hb4)
            have HB4 := Lib.hid (bel_next HB3.out hb4)
            clear hb4 z0 z1 z2 z3
            go_wp2_with (first | (go_at_call 13; refine (HSM.out _ HFR5.out HFR6.out).mono ?_; rintro e w5 ⟨rfl, hb5⟩; have HB5 := Lib.hid (bel_next HB4.out hb5); clear hb5) | (go_at_call 14; refine (f_works _).mono ?_; rintro e w6 ⟨rfl, hb6⟩; have HB6 := Lib.hid (bel_next HB5.out hb6); clear hb6))
            go_ret
            exact ⟨rfl, HB6.out⟩
    · have hd1 : ((d : Int) == 10) = false := by simp only [beq_eq_false_iff_ne]; omega
      go_wp2_with (go_at_call 14; refine (f_works _).mono ?_; rintro e w2 ⟨rfl, hb2⟩; have HB2 := Lib.hid (bel_next HB1.out hb2); clear hb2)
      go_ret
      exact ⟨rfl, HB2.out⟩
end Go.Proofs.Ytdaaapingaebkaa
