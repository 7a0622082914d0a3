import Derived.Test.YtdaaapingaebkaaFdTu
namespace Go.Proofs.Ytdaaapingaebkaa
open Go.RowKit

theorem has_find {G : List Fd} {k : Nat} (h : hasK k G = true) : ∃ i, ∃ hi : i < G.length, G.find? (fun f => decide (f.k = k)) = some G[i] := by
  unfold hasK at h
  have h2 : (G.find? fun f => decide (f.k = k)).isSome = true := by rw [List.find?_isSome]; rw [List.any_eq_true] at h; exact h
  obtain ⟨f, hf⟩ := Option.isSome_iff_exists.1 h2
  obtain ⟨i, hi, e⟩ := List.getElem_of_mem (List.mem_of_find?_eq_some hf)
  exact ⟨i, hi, by rw [hf, e]⟩
theorem turn_body {l : List Nat} {G : List Fd} (ht : Tile l G) {i : Nat} (hi : i < G.length) (K : Nat) : ((turnK l G K).drop (G[i]).b).take ((G[i]).e - (G[i]).b) = (l.drop (G[i]).b).take ((G[i]).e - (G[i]).b) := by
  obtain ⟨u1, u2, u3, -⟩ := ht.at_ i hi
  refine at0_ext (by simp [turnK_len]) fun p hp => ?_
  have hp2 : p < (G[i]).e - (G[i]).b := by
    rw [List.length_take] at hp
    omega
  rw [at0_take hp2, at0_take hp2, at0_drop, at0_drop, turnK_at (by omega), ht.body hi (by omega) (by omega)]
  rfl
set_option maxHeartbeats 4000000 in
set_option maxRecDepth 100000 in
theorem d_FieldsCase (s : ByteArray) (w : World) : Calls Try.prog 7 #[.string s] w fun e w' => e = .returned (.bool true) ∧ Below w.heap.size w w' := by
  obtain ⟨n, hn⟩ : ∃ n, s.size = n := ⟨_, rfl⟩
  obtain ⟨r, hr⟩ : ∃ r, (splitR (bsN s)).fin n = r := ⟨_, rfl⟩
  have hsl : (bsN s).length = n := by rw [bsN_len, hn]
  have HRS := Lib.hid (fun W => r_Split s n W hn r hr)
  have HR := Lib.hid hr
  have HSL := Lib.hid hsl
  clear hr hsl
  go_enter Try.func7, Try.ntmps7
  go_wp2_with fail
  refine (HRS.out _).mono ?_
  rintro e w1 ⟨⟨i1, c1, rfl, h2, rfl⟩ | ⟨G, a, cap, rfl, h2, h3, rfl, h5⟩, hb⟩
  · have hc0 : ((c1 : Int) == 0) = false := by simp; omega
    have HB1 := Lib.hid hb
    clear hb
    go_wp2_with (go_at_call 14; refine (f_works _).mono ?_; rintro e w2 ⟨rfl, hb2⟩; have HB2 := Lib.hid (bel_next HB1.out hb2); clear hb2)
    go_ret
    exact ⟨rfl, HB2.out⟩
  · have hr := HR.out
    rw [← HSL.out] at hr
    obtain ⟨ht, hbig, -⟩ := split_tile hr
    rw [HSL.out] at hbig
    have HFR1 := Lib.hid (own_frow h5)
    have HTU := Lib.hid (fun W (h : FRow W (.slice a G.length cap) G) => l_turned s n _ G W hn hbig ht h h3)
    obtain ⟨T, hT⟩ : ∃ T, strN (turnK (bsN s) G n) = T := ⟨_, rfl⟩
    have hTN : bsN T = turnK (bsN s) G n := by rw [← hT, bsN_strN (turnK_8 (bsN_8 s) _ _)]
    have hTs : T.size = n := by rw [← bsN_len, hTN, turnK_len, HSL.out]
    have hTR : (splitR (bsN T)).fin n = .ok G := by
      rw [hTN, sm_split (turnK_sm (bsN s) G n)]
      exact HR.out
    rw [hT] at HTU
    obtain ⟨i, hi, hfind⟩ := has_find ht.has
    have hbody := turn_body ht hi n
    obtain ⟨A, hA⟩ : ∃ A, s.extract (G[i]).b (G[i]).e = A := ⟨_, rfl⟩
    have hTA : T.extract (G[i]).b (G[i]).e = A := by rw [← hA, ext_str, ext_str, hTN, hbody]
    have HSP := Lib.hid (fun W => f_Split T n W hTs _ hTR)
    have HF1 : Hid (∀ W, Calls Try.prog 16 #[.string T, .int .u8 2] W fun e w' => e = .returned (.tuple #[.string A, .bool true, .int .i64 0]) ∧ Below W.heap.size W w') := fun W => f_Find T n 2 W hTs (.ok G) hTR A true 0 (by
      unfold findV
      rw [if_neg (by decide)]
      show (match G.find? (fun f => decide (f.k = 2)) with | some f => (T.extract f.b f.e, true, 0) | none => (⟨#[]⟩, false, Res.code _)) = _
      rw [hfind]
      show (T.extract (G[i]).b (G[i]).e, true, 0) = _
      rw [hTA])
    have HF2 : Hid (∀ W, Calls Try.prog 16 #[.string s, .int .u8 2] W fun e w' => e = .returned (.tuple #[.string A, .bool true, .int .i64 0]) ∧ Below W.heap.size W w') := fun W => f_Find s n 2 W hn (.ok G) HR.out A true 0 (by
      unfold findV
      rw [if_neg (by decide)]
      show (match G.find? (fun f => decide (f.k = 2)) with | some f => (s.extract f.b f.e, true, 0) | none => (⟨#[]⟩, false, Res.code _)) = _
      rw [hfind]
      show (s.extract (G[i]).b (G[i]).e, true, 0) = _
      rw [hA])
    obtain ⟨len, hl⟩ : ∃ len, G.length = len := ⟨_, rfl⟩
    have HSM := Lib.hid (fun W (cap2 : Nat) (a2 : Option Addr) (h : FRow W (.slice a2 G.length cap2) G) (h' : FRow W (.slice a G.length cap) G) => r_Same _ _ G W h3 h h')
    have HB1 := Lib.hid hb
    have HL := Lib.hid hl
    rw [hl] at HTU HFR1 HSM ⊢
    have HMARK : Hid True := trivial
    clear hr ht h2 h3 h5 hb hT hTN hTs hTR hfind hbody hA hTA hl
    go_wp2_with (go_at_call 23; refine (HTU.out _ HFR1.out).mono ?_; rintro e w2 ⟨rfl, hb2⟩; have HB2 := Lib.hid (bel_next HB1.out hb2); have HFR2 := Lib.hid (HFR1.out.below hb2); clear hb2)
    refine (HSP.out _).mono ?_
    rintro e w3 ⟨⟨i3, c3, h1, h2, rfl⟩ | ⟨G3, a3, cap3, h1, h2, h3, rfl, h5⟩, hb3⟩
    · cases h1
    · injection h1 with h1
      subst h1
      have HFR3 := Lib.hid (HFR2.out.below hb3)
      have HFR4 := Lib.hid (own_frow h5)
      have HB3 := Lib.hid (bel_next HB2.out hb3)
      rw [HL.out] at HFR4 ⊢
      clear h2 h3 h5 hb3
      go_wp2_with (first | (go_at_call 16; clear HMARK; refine (HF1.out _).mono ?_; rintro e w4 ⟨rfl, hb4⟩; have HB4 := Lib.hid (bel_next HB3.out hb4); have HFR5 := Lib.hid (HFR3.out.below hb4); have HFR6 := Lib.hid (HFR4.out.below hb4); clear hb4) | (go_at_call 16; refine (HF2.out _).mono ?_; rintro e w5 ⟨rfl, hb5⟩; have HB5 := Lib.hid (bel_next HB4.out hb5); have HFR7 := Lib.hid (HFR5.out.below hb5); have HFR8 := Lib.hid (HFR6.out.below hb5); clear hb5) | (go_at_call 13; refine (HSM.out _ _ _ HFR8.out HFR7.out).mono ?_; rintro e w6 ⟨rfl, hb6⟩; have HB6 := Lib.hid (bel_next HB5.out hb6); clear hb6) | (go_at_call 14; refine (f_works _).mono ?_; rintro e w7 ⟨rfl, hb7⟩; have HB7 := Lib.hid (bel_next HB6.out hb7); clear hb7))
      go_ret
      exact ⟨rfl, HB7.out⟩
end Go.Proofs.Ytdaaapingaebkaa
