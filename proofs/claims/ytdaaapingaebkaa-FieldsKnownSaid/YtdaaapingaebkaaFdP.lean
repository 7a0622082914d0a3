import Derived.Test.YtdaaapingaebkaaFdO
import Derived.Test.YtdaaapingaebkaaFdM
namespace Go.Proofs.Ytdaaapingaebkaa
open Go.RowKit

/-! FieldsSigned. -/
theorem sig_more {l b : List Nat} {G : List Fd} (h : (splitR l).fin l.length = .ok G) (hlast : at0 l (l.length - 1) = 10) (h7 : hasK 7 G = false) (hlen : l.length ≤ 65136) :
    (splitR (l ++ ([83, 73, 71, 78, 65, 84, 85, 82, 69] ++ 58 :: behT b))).fin (l.length + 10 + (behT b).length) = .ok (G ++ [⟨7, l.length, l.length + 10, l.length + 10 + (behT b).length⟩]) := by
  have hbl := behT_len b
  have e : (l ++ ([83, 73, 71, 78, 65, 84, 85, 82, 69] ++ 58 :: behT b)).length = l.length + 10 + (behT b).length := by simp; omega
  have := split_more (nm := [83, 73, 71, 78, 65, 84, 85, 82, 69]) (b := behT b) (K := 7) h hlast (by decide) (by decide) (by decide) (by decide) (by decide) (by decide) (by decide) (by decide) h7 h7 (behT_beh b) (by rw [e]; omega)
  rw [e] at this
  exact this
theorem com_more {l b : List Nat} {G : List Fd} (h : (splitR l).fin l.length = .ok G) (hlast : at0 l (l.length - 1) = 10) (h6 : hasK 6 G = false) (h7 : hasK 7 G = false) (hlen : l.length ≤ 65136) :
    (splitR (l ++ ([67, 111, 109, 109, 101, 110, 116] ++ 58 :: behT b))).fin (l.length + 8 + (behT b).length) = .ok (G ++ [⟨6, l.length, l.length + 8, l.length + 8 + (behT b).length⟩]) := by
  have hbl := behT_len b
  have e : (l ++ ([67, 111, 109, 109, 101, 110, 116] ++ 58 :: behT b)).length = l.length + 8 + (behT b).length := by simp; omega
  have := split_more (nm := [67, 111, 109, 109, 101, 110, 116]) (b := behT b) (K := 6) h hlast (by decide) (by decide) (by decide) (by decide) (by decide) (by decide) (by decide) (by decide) h6 h7 (behT_beh b) (by rw [e]; omega)
  rw [e] at this
  exact this
theorem find_app {G : List Fd} {f : Fd} {k : Nat} (h : hasK k G = false) (hf : f.k = k) : (G ++ [f]).find? (fun f => decide (f.k = k)) = some f := by
  rw [List.find?_append]
  have : G.find? (fun f => decide (f.k = k)) = none := by
    rw [List.find?_eq_none]
    intro x hx
    have := hasK_no h x hx
    simpa using this
  rw [this]
  simp [hf]
theorem find_none {G : List Fd} {k : Nat} (h : hasK k G = false) : G.find? (fun f => decide (f.k = k)) = none := by
  rw [List.find?_eq_none]
  intro x hx
  have := hasK_no h x hx
  simpa using this
theorem no7 {l : List Nat} {G : List Fd} (ht : Tile l G) (h : ∀ h : G.length - 1 < G.length, (G[G.length - 1]).k ≠ 7) : hasK 7 G = false := by
  refine hasK_none fun j hj _ => ?_
  have hp := ht.pos
  by_cases he : j = G.length - 1
  · subst he; exact h hj
  · exact (ht.apart (G.length - 1) j (by omega) (by omega)).2
theorem ext_front (s : ByteArray) (n : Nat) (t u : ByteArray) (hn : s.size = n) : (s ++ t ++ u).extract 0 n = s := by
  rw [ext_str, List.drop_zero, Nat.sub_zero, bsN_app2, bsN_app2, List.append_assoc, List.take_left' (by rw [bsN_len, hn]), strN_bsN]
set_option maxHeartbeats 4000000 in
set_option maxRecDepth 100000 in
theorem d_FieldsSigned (s body : ByteArray) (w : World) (hbody : body.size ≤ 9223372036854775807) : Calls Try.prog 9 #[.string s, .string body] w fun e w' => e = .returned (.bool true) ∧ Below w.heap.size w w' := by
  obtain ⟨n, hn⟩ : ∃ n, s.size = n := ⟨_, rfl⟩
  obtain ⟨r, hr⟩ : ∃ r, (splitR (bsN s)).fin n = r := ⟨_, rfl⟩
  have hsl : (bsN s).length = n := by rw [bsN_len, hn]
  have HFS := Lib.hid (fun W => f_Split s n W hn r hr)
  have HR := Lib.hid hr
  have HSL := Lib.hid hsl
  have HBH := Lib.hid (fun W => l_behind body body.size W rfl hbody)
  clear hr hsl
  go_enter Try.func9, Try.ntmps9
  go_wp2_with fail
  refine (HFS.out _).mono ?_
  rintro e w1 ⟨⟨i1, c1, rfl, h2, rfl⟩ | ⟨G, a, cap, rfl, h2, h3, rfl, h5⟩, hb⟩
  · have hc0 : ((c1 : Int) == 0) = false := by simp; omega
    have HB1 := Lib.hid hb
    clear hb
    go_wp2_with (go_at_call 14; refine (f_works _).mono ?_; rintro e w2 ⟨rfl, hb2⟩; have HB2 := Lib.hid (bel_next HB1.out hb2); clear hb2)
    go_ret
    exact ⟨rfl, HB2.out⟩
  · have hr := HR.out
    rw [← HSL.out] at hr
    obtain ⟨ht, hbig, -⟩ := split_tile hr
    rw [HSL.out] at hbig
    have hnpos : 0 < n := by
      obtain ⟨u1, u2, u3, -⟩ := ht.at_ 0 ht.pos
      rw [HSL.out] at u3
      omega
    obtain ⟨g, rfl, hg, hrow⟩ := own_fd h5 rfl h2
    obtain ⟨m, hm⟩ : ∃ m, G.length = m + 1 := ⟨G.length - 1, by omega⟩
    have hml : m < G.length := by omega
    obtain ⟨f, hf⟩ : ∃ f, f = G[m] := ⟨_, rfl⟩
    have hra := hrow m hml
    rw [← hf] at hra
    obtain ⟨fk, fa, fb, fe⟩ := f
    obtain ⟨z0, -, -, -⟩ := range4 (show w1.rangeAt g (m * 4) [.int .u8 (fk : Nat), .int .i64 (fa : Nat), .int .i64 (fb : Nat), .int .i64 (fe : Nat)] from hra)
    have h7 : fk ≠ 7 → hasK 7 G = false := fun h => no7 ht fun hx => by
      have e : G[G.length - 1] = G[m] := by congr 1; omega
      rw [e, ← hf]
      exact h
    have HRS := Lib.hid hr
    have H7 := Lib.hid h7
    have HB1 := Lib.hid hb
    have hse : (s.toList == []) = false := by
      rw [beq_lit]
      refine decide_eq_false fun e => ?_
      have := HSL.out
      rw [e] at this
      simp at this
      omega
    have hmb : m + 1 ≤ 65536 := by omega
    rw [hm]
    clear hr ht h2 h3 h5 hb hg hrow hra hf hml hm h7
    by_cases hlim : 65136 < n
    · have hl1 : (65136 : Int) < (n : Int) := by omega
      go_wp2_with (go_at_call 14; refine (f_works _).mono ?_; rintro e w2 ⟨rfl, hb2⟩; have HB2 := Lib.hid (bel_next HB1.out hb2); clear hb2)
      go_ret
      exact ⟨rfl, HB2.out⟩
    have hl1 : decide ((65136 : Int) < (n : Int)) = false := decide_eq_false (by omega)
    have hl2 : (n : Int) ≤ 65136 := by omega
    have hl3 : n ≤ 65136 := by omega
    clear hlim
    obtain ⟨d, hd⟩ : ∃ d, at0 (bsN s) (n - 1) = d := ⟨_, rfl⟩
    have e0 : ((n : Int) - 1) = ((n - 1 : Nat) : Int) := by omega
    have x2 : ∀ W, (Instr.index 9 (.string s) (.int .i64 ((n : Int) - 1))).run Try.prog W = .ok (.int .u8 (d : Nat)) W := by rw [e0]; exact idx_str 9 Try.underlying9 s (n - 1) d (by omega) hd
    have e1 : IntKind.i64.wrap ((n : Int) - 1) = (n : Int) - 1 := by rw [e0]; exact wrap_i64_nat _ (by omega)
    have c4 : (0 : Int) ≤ (n : Int) - 1 := by omega
    have c5 : (n : Int) - 1 < (s.size : Int) := by omega
    have HD := Lib.hid hd
    clear hd e0
    by_cases hd10 : d = 10
    · subst hd10
      by_cases hk : fk = 7
      · subst hk
        go_wp2_with (go_at_call 14; refine (f_works _).mono ?_; rintro e w2 ⟨rfl, hb2⟩; have HB2 := Lib.hid (bel_next HB1.out hb2); clear hb2)
        go_ret
        exact ⟨rfl, HB2.out⟩
      · have hk7 : ((fk : Int) == 7) = false := by simp only [beq_eq_false_iff_ne]; omega
        have hno := H7.out hk
        have hsig := sig_more (b := bsN body) HRS.out (by rw [HSL.out]; exact HD.out) hno (by rw [HSL.out]; exact hl3)
        rw [HSL.out] at hsig
        obtain ⟨B, hB⟩ : ∃ B, strN (behT (bsN body)) = B := ⟨_, rfl⟩
        have hBs : B.size = (behT (bsN body)).length := by rw [← hB, strN_size]
        have hBs2 : B.size ≤ 302 := by rw [hBs]; exact behT_len _
        have hBN : bsN B = behT (bsN body) := by rw [← hB, bsN_strN (behT_8 (bsN_8 _))]
        rw [hB] at HBH
        obtain ⟨T, hT⟩ : ∃ T, s ++ ⟨#[83, 73, 71, 78, 65, 84, 85, 82, 69, 58]⟩ ++ B = T := ⟨_, rfl⟩
        have hTN : bsN T = bsN s ++ ([83, 73, 71, 78, 65, 84, 85, 82, 69] ++ 58 :: behT (bsN body)) := by
          rw [← hT, bsN_app2, bsN_app2, hBN]
          simp [bsN]
        have hTs : T.size = n + 10 + (behT (bsN body)).length := by
          rw [← bsN_len, hTN, List.length_append, HSL.out]
          simp
          omega
        have hTx : T.extract 0 n = s := by rw [← hT]; exact ext_front s n _ _ hn
        have HSG := Lib.hid (fun W => f_Signed T _ W hTs (.ok (G ++ [⟨7, n, n + 10, n + 10 + (behT (bsN body)).length⟩])) (by rw [hTN]; exact hsig) s 0 (by
          show signL T _ = _
          rw [find_app hno rfl]
          show (T.extract 0 n, 0) = _
          rw [hTx]))
        have HSG2 := Lib.hid (fun W => f_Signed s n W hn _ HR.out ⟨#[]⟩ 134 (by
          show signL s _ = _
          rw [find_none hno]
          rfl))
        have HT := Lib.hid hT
        have HMARK : Hid True := trivial
        clear hno hsig hB hBs hBN hT hTN hTs hTx hk
        go_wp2_with (go_at_call 24; refine (HBH.out _).mono ?_; rintro e w2 ⟨rfl, hb2⟩; have HB2 := Lib.hid (bel_next HB1.out hb2); clear hb2)
        rw [HT.out]
        refine (HSG.out _).mono ?_
        rintro e w3 ⟨rfl, hb3⟩
        have HB3 := Lib.hid (bel_next HB2.out hb3)
        clear hb3
        go_wp2_with (first | (go_at_call 18; refine (HSG2.out _).mono ?_; rintro e w4 ⟨rfl, hb4⟩; have HB4 := Lib.hid (bel_next HB3.out hb4); clear hb4) | (go_at_call 14; refine (f_works _).mono ?_; rintro e w5 ⟨rfl, hb5⟩; have HB5 := Lib.hid (bel_next HB4.out hb5); clear hb5))
        go_ret
        exact ⟨rfl, HB5.out⟩
    · have hd1 : ((d : Int) == 10) = false := by simp only [beq_eq_false_iff_ne]; omega
      clear hd10
      go_wp2_with (go_at_call 14; refine (f_works _).mono ?_; rintro e w2 ⟨rfl, hb2⟩; have HB2 := Lib.hid (bel_next HB1.out hb2); clear hb2)
      go_ret
      exact ⟨rfl, HB2.out⟩
end Go.Proofs.Ytdaaapingaebkaa
