import Derived.Test.YtpipjkpjpkgmpaaDoorCoD
namespace Go.Proofs.YtpipjkpjpkgmpaaDoor
open Go.RowKit

theorem idx_str {P : Program} (T : TypeId) (hT : P.underlying T = some .string) (s : ByteArray) (k c : Nat) (h : k < s.size) (hc : at0 (bsN s) k = c) (W : World) : (Instr.index T (.string s) (.int .i64 (k : Int))).run P W = .ok (.int .u8 (c : Nat)) W := by
  rw [run_index_string _ _ _ _ _ hT, dif_pos ⟨by omega, by omega⟩, ← hc, bsN_at s k h]
  rfl

set_option maxHeartbeats 800000 in
theorem find_no (s : ByteArray) (c : Nat) (w : World) (hs : s.size ≤ 1099511627776) (hn : ∀ i, i < s.size → at0 (bsN s) i ≠ c) :
    Calls Tryd.prog 47 #[.string s, .int .u8 (c : Nat)] w fun e w' => e = .returned (.int .i64 (-1)) ∧ w = w' := by
  have HN := Lib.hid hn
  clear hn
  go_enter Tryd.func47, Tryd.ntmps47
  go_wp2
  go_loop [5] (fun i => ∃ k : Nat, k ≤ s.size ∧ i = .int .i64 (k : Nat)) (fun i => s.size - (intOf i).toNat)
  case atStart => exact ⟨0, Nat.zero_le _, rfl⟩
  case round =>
    obtain ⟨k, hk, rfl⟩ := hrel
    by_cases hlt : k < s.size
    · obtain ⟨x, hx⟩ : ∃ x, x = at0 (bsN s) k := ⟨_, rfl⟩
      have hi : ∀ W, (Instr.index 9 (.string s) (.int .i64 (k : Int))).run Tryd.prog W = .ok (.int .u8 (x : Nat)) W := idx_str 9 Tryd.underlying9 s k x hlt hx.symm
      have hne : ((x : Int) == (c : Int)) = false := by have := HN.out k hlt; simp; omega
      clear hx
      go_wp2
      go_round
      case rel => exact ⟨k + 1, by omega, by go_num⟩
      case measure => simp [intOf]; omega
    · go_wp2
      go_ret
      exact ⟨rfl, rfl⟩
set_option maxHeartbeats 800000 in
theorem find_yes (s : ByteArray) (c d : Nat) (w : World) (hs : s.size ≤ 1099511627776) (hd : d < s.size) (hy : at0 (bsN s) d = c) (hn : ∀ i, i < d → at0 (bsN s) i ≠ c) :
    Calls Tryd.prog 47 #[.string s, .int .u8 (c : Nat)] w fun e w' => e = .returned (.int .i64 (d : Nat)) ∧ w = w' := by
  have HN := Lib.hid hn
  have HY := Lib.hid hy
  clear hn hy
  go_enter Tryd.func47, Tryd.ntmps47
  go_wp2
  go_loop [5] (fun i => ∃ k : Nat, k ≤ d ∧ i = .int .i64 (k : Nat)) (fun i => s.size - (intOf i).toNat)
  case atStart => exact ⟨0, Nat.zero_le _, rfl⟩
  case round =>
    obtain ⟨k, hk, rfl⟩ := hrel
    by_cases hlt : k < d
    · obtain ⟨x, hx⟩ : ∃ x, x = at0 (bsN s) k := ⟨_, rfl⟩
      have hi : ∀ W, (Instr.index 9 (.string s) (.int .i64 (k : Int))).run Tryd.prog W = .ok (.int .u8 (x : Nat)) W := idx_str 9 Tryd.underlying9 s k x (by omega) hx.symm
      have hne : ((x : Int) == (c : Int)) = false := by have := HN.out k hlt; simp; omega
      clear hx
      go_wp2
      go_round
      case rel => exact ⟨k + 1, by omega, by go_num⟩
      case measure => simp [intOf]; omega
    · obtain rfl : k = d := by omega
      have hi : ∀ W, (Instr.index 9 (.string s) (.int .i64 (k : Int))).run Tryd.prog W = .ok (.int .u8 (c : Nat)) W := idx_str 9 Tryd.underlying9 s k c hd HY.out
      have hne : ((c : Int) == (c : Int)) = true := by simp
      go_wp2
      go_ret
      exact ⟨rfl, rfl⟩
theorem hexLit_bs (d : Nat) (h : d < 16) : at0 (bsN hexLit) d = hexD d := by
  rw [bsN_at hexLit d h]
  exact hexLit_at d h
theorem hexLit_size : hexLit.size = 16 := rfl
/-- The place of a letter among hex's. -/
theorem fhex_no (c : Nat) (w : World) (hn : ∀ d, d < 16 → hexD d ≠ c) :
    Calls Tryd.prog 47 #[.string ⟨#[48, 49, 50, 51, 52, 53, 54, 55, 56, 57, 97, 98, 99, 100, 101, 102]⟩, .int .u8 (c : Nat)] w fun e w' => e = .returned (.int .i64 (-1)) ∧ w = w' :=
  find_no hexLit c w (by rw [hexLit_size]; decide) (fun i hi => by rw [hexLit_size] at hi; rw [hexLit_bs i hi]; exact hn i hi)
theorem fhex_yes (c d : Nat) (w : World) (hd : d < 16) (hy : hexD d = c) :
    Calls Tryd.prog 47 #[.string ⟨#[48, 49, 50, 51, 52, 53, 54, 55, 56, 57, 97, 98, 99, 100, 101, 102]⟩, .int .u8 (c : Nat)] w fun e w' => e = .returned (.int .i64 (d : Nat)) ∧ w = w' :=
  find_yes hexLit c d w (by rw [hexLit_size]; decide) (by rw [hexLit_size]; exact hd) (by rw [hexLit_bs d hd]; exact hy) (fun i hi e => by
    rw [hexLit_bs i (by omega), ← hy] at e
    have := hexD_inj (by omega) hd e
    omega)

def v16 (ds : List Nat) : Nat := ds.foldl (fun a d => 16 * a + d) 0
theorem v16_snoc (ds : List Nat) (d : Nat) : v16 (ds ++ [d]) = 16 * v16 ds + d := by simp [v16]
theorem v16_two {ds : List Nat} (hl : ds.length = 2) (hd : D16 ds) : v16 ds < 256 ∧ hexL [v16 ds] = ds.map hexD := by
  match ds, hl with
  | [a, b], _ =>
    have ha := hd a (by simp)
    have hb := hd b (by simp)
    have e : v16 [a, b] = 16 * a + b := by simp [v16]
    rw [e]
    refine ⟨by omega, ?_⟩
    simp only [hexL, List.map_cons, List.map_nil]
    rw [show (16 * a + b) / 16 = a by omega, show (16 * a + b) % 16 = b by omega]
theorem v16_lt : ∀ {ds : List Nat}, D16 ds → ds.length ≤ 2 → v16 ds < 256
  | [], _, _ => by simp [v16]
  | [a], h, _ => by have := h a (by simp); simp [v16]; omega
  | [a, b], h, _ => (v16_two rfl h).1
theorem D16.snoc {ds : List Nat} {d : Nat} (h : D16 ds) (hd : d < 16) : D16 (ds ++ [d]) := fun x hx => by
  rcases List.mem_append.1 hx with h1 | h1
  · exact h x h1
  · simp at h1; omega

set_option maxHeartbeats 4000000 in
set_option maxRecDepth 100000 in
theorem runhex_any (s : ByteArray) (n : Nat) (w : World) (hn : s.size = n) (hbig : n ≤ 1099511627776) :
    Calls Tryd.prog 31 #[.string s] w (UnhexPost (bsN s) w) := by
  have hbl := bsN_len s
  obtain ⟨l, hl⟩ : ∃ l, l = bsN s := ⟨_, rfl⟩
  rw [← hl] at hbl ⊢
  rw [hn] at hbl
  have HSZ := Lib.hid hn
  have HLS := Lib.hid hl
  have HLN := Lib.hid hbl
  by_cases hodd : n % 2 = 1
  · have hq : ((n : Int) % 2 == 1) = true := by simp; omega
    have hp : UnhexTells l 60 [] := unhex_odd (by rw [hbl]; exact hodd)
    have HP := Lib.hid hp
    clear hp hl hbl
    go_enter Tryd.func31, Tryd.ntmps31
    go_wp2
    go_ret2
    exact UnhexPost.no (Below.refl _ _) HP.out
  · have hq : ((n : Int) % 2 == 1) = false := by simp; omega
    have HOD := Lib.hid hodd
    clear hl hbl hodd
    go_enter Tryd.func31, Tryd.ntmps31
    go_wp2
    go_loopw [4, 5] (fun o i wr => ∃ (k : Nat) (b : List Nat), 2 * k ≤ n ∧ i = .int .i64 (2 * k : Nat) ∧ Hid (b.length = k) ∧ Hid (B8 b) ∧ Hid (hexL b = (l.take (2 * k)).map low) ∧
      Hid (wr.ownsRow w.heap.size 5 1 o k (u8s b)) ∧ Hid (Below w.heap.size w wr)) (fun _ i _ => n - (intOf i).toNat)
    case atStart => exact ⟨0, [], Nat.zero_le _, rfl, rfl, (fun x hx => by cases hx), rfl, World.ownsRow_nil _ _ _ _, Below.refl _ _⟩
    case round =>
      obtain ⟨k, b, hk, rfl, HL, H8, HH, HO, HB⟩ := hrel
      obtain ⟨i, hi⟩ : ∃ i, i = 2 * k := ⟨_, rfl⟩
      rw [← hi] at hk HH ⊢
      have HI := Lib.hid hi
      have hod := HOD.out
      by_cases hin : i < n
      · have hin2 : i + 2 ≤ n := by omega
        clear hod hi
        go_wp2
        go_loop [6, 7] (fun x p => ∃ (j : Nat) (ds : List Nat), j ≤ 2 ∧ p = .int .i64 (i + j : Nat) ∧ x = .int .i64 (v16 ds : Nat) ∧ Hid (ds.length = j) ∧ Hid (D16 ds) ∧ Hid (ds.map hexD = ((l.drop i).take j).map low)) (fun _ p => i + 2 - (intOf p).toNat)
        case atStart => exact ⟨0, [], by omega, rfl, rfl, rfl, (fun x hx => by cases hx), rfl⟩
        case round =>
          obtain ⟨j, ds, hj, rfl, rfl, HDL, HD, HDM⟩ := hrel
          have hvl := v16_lt HD.out (by rw [HDL.out]; exact hj)
          obtain ⟨x, hx⟩ : ∃ x, x = v16 ds := ⟨_, rfl⟩
          rw [← hx] at hvl ⊢
          have HX := Lib.hid hx
          clear hx
          obtain ⟨p, hp⟩ : ∃ p, p = i + j := ⟨_, rfl⟩
          rw [← hp] at ⊢
          have HP := Lib.hid hp
          by_cases hj2 : j < 2
          · have hps : p < n := by omega
            have hp2 : p < i + 2 := by omega
            clear hp
            obtain ⟨c, hc⟩ : ∃ c, c = at0 l p := ⟨_, rfl⟩
            have hc8 : c < 256 := by rw [hc, HLS.out]; exact (bsN_8 s).at0 p
            have hidx : ∀ W, (Instr.index 9 (.string s) (.int .i64 (p : Int))).run Tryd.prog W = .ok (.int .u8 (c : Nat)) W := idx_str 9 Tryd.underlying9 s p c (by omega) (by rw [hc, HLS.out])
            have HC := Lib.hid hc
            clear hc
            obtain ⟨lc, hlc⟩ : ∃ lc, lc = low c := ⟨_, rfl⟩
            have HLC := Lib.hid hlc
            have hlc0 : lc = low c := hlc
            clear hlc
            have hpl : p < l.length := by rw [HLN.out]; exact hps
            rcases Classical.em (∃ d, d < 16 ∧ hexD d = lc) with ⟨d, hd, hdl⟩ | hno
            · have HDL2 := Lib.hid hdl
              have HR : Hid ((ds ++ [d]).map hexD = ((l.drop i).take (j + 1)).map low) := by
                show _ = _
                have e : at0 (l.drop i) j = c := by rw [at0_drop, ← HP.out, HC.out]
                rw [List.map_append, HDM.out, take_succ_at0 (by rw [List.length_drop]; have := HP.out; omega), e]
                simp [hdl, hlc0]
              by_cases hup : 65 ≤ c ∧ c ≤ 70
              · have h1 := hup.1
                have h2 := hup.2
                have hcc : (c : Int) + 97 - 65 = (lc : Int) := by rw [hlc0, low, if_pos hup]; omega
                clear hup hlc0 hdl
                go_wp2_with (go_at_call 47; refine (fhex_yes lc d _ hd HDL2.out).mono ?_; rintro e w3 ⟨rfl, rfl⟩)
                go_round
                case rel => exact ⟨j + 1, ds ++ [d], by omega, by rw [HP.out]; go_num, by rw [v16_snoc, ← HX.out]; go_num, by show _ = _; rw [List.length_append, HDL.out]; rfl, HD.out.snoc hd, HR.out⟩
                case measure => simp [intOf]; omega
              · have hcc : lc = c := by rw [hlc0, low, if_neg hup]
                subst hcc
                clear hlc0 hdl
                have hdc : decide ((65 : Int) ≤ (lc : Int)) = true ∧ decide ((lc : Int) ≤ 70) = false ∨ decide ((65 : Int) ≤ (lc : Int)) = false := by
                  by_cases h : 65 ≤ lc
                  · exact .inl ⟨decide_eq_true (by omega), decide_eq_false (by omega)⟩
                  · exact .inr (decide_eq_false (by omega))
                clear hup
                rcases hdc with ⟨q1, q2⟩ | q1
                all_goals
                  go_wp2_with (go_at_call 47; refine (fhex_yes lc d _ hd HDL2.out).mono ?_; rintro e w3 ⟨rfl, rfl⟩)
                  go_round
                  case rel => exact ⟨j + 1, ds ++ [d], by omega, by rw [HP.out]; go_num, by rw [v16_snoc, ← HX.out]; go_num, by show _ = _; rw [List.length_append, HDL.out]; rfl, HD.out.snoc hd, HR.out⟩
                  case measure => simp [intOf]; omega
            · have hno2 : ∀ d, d < 16 → hexD d ≠ lc := fun d hd he => hno ⟨d, hd, he⟩
              have HN := Lib.hid (unhex_no (l := l) (i := p) hpl (by rw [← HC.out, ← hlc0]; exact hno2))
              have HNO := Lib.hid hno2
              clear hno hno2
              by_cases hup : 65 ≤ c ∧ c ≤ 70
              · have h1 := hup.1
                have h2 := hup.2
                have hcc : (c : Int) + 97 - 65 = (lc : Int) := by rw [hlc0, low, if_pos hup]; omega
                clear hup hlc0
                go_wp2_with (go_at_call 47; refine (fhex_no lc _ HNO.out).mono ?_; rintro e w3 ⟨rfl, rfl⟩)
                go_ret2
                exact UnhexPost.no HB.out HN.out
              · have hcc : lc = c := by rw [hlc0, low, if_neg hup]
                subst hcc
                clear hlc0
                have hdc : decide ((65 : Int) ≤ (lc : Int)) = true ∧ decide ((lc : Int) ≤ 70) = false ∨ decide ((65 : Int) ≤ (lc : Int)) = false := by
                  by_cases h : 65 ≤ lc
                  · exact .inl ⟨decide_eq_true (by omega), decide_eq_false (by omega)⟩
                  · exact .inr (decide_eq_false (by omega))
                clear hup
                rcases hdc with ⟨q1, q2⟩ | q1
                all_goals
                  go_wp2_with (go_at_call 47; refine (fhex_no lc _ HNO.out).mono ?_; rintro e w3 ⟨rfl, rfl⟩)
                  go_ret2
                  exact UnhexPost.no HB.out HN.out
          · obtain rfl : j = 2 := by omega
            have h2 := v16_two HDL.out HD.out
            rw [← HX.out] at h2
            have HM : Hid (hexL (b ++ [x]) = (l.take (i + 2)).map low) := by
              show _ = _
              rw [hexL_app, h2.2, HH.out, HDM.out, List.take_add, List.map_append]
            have H8x : Hid (B8 (b ++ [x])) := H8.out.append (fun y hy => by simp at hy; omega)
            have hk40 : k ≤ 1099511627776 := by have := HI.out; omega
            have hBs := HB.out.size
            have hwx : IntKind.u8.wrap (x : Int) = (x : Int) := wrap_u8_in x hvl
            have hp3 : i + 2 ≤ p := by omega
            clear h2 hp
            go_wp2_with (at_builtin; refine wpl_app 25 5 Tryd.underlying25 info8 rfl (by decide) rfl _ _ rfl w.heap.size _ k (u8s b) rfl (HO.out.alloc _) wr.heap.size _ rfl (World.cell?_alloc_at _ _ _ _ rfl) rfl (by omega) (by simp; omega) ?_; intro g cap' w1 hown1 hg1 hBg _ _)
            have hown2 : w1.ownsRow w.heap.size 5 1 (.slice (some ⟨g, 0, none⟩) (k + 1) cap') (k + 1) (u8s (b ++ [x])) := by rw [show u8s (b ++ [x]) = u8s b ++ [.int .u8 (x : Nat)] by simp [u8s]]; exact hown1
            have hb2 : Below w.heap.size w w1 := (HB.out.alloc (by omega) _).grown hg1 (by simp; omega) (fun j hj => (World.ownsRow.lt HO.out j hj).1)
            have HO2 := Lib.hid hown2
            have HB2 := Lib.hid hb2
            clear hown1 hown2 hb2 hg1
            go_roundw
            case rel => exact ⟨k + 1, b ++ [x], by have := HI.out; omega, by have := HI.out; go_num, by show _ = _; rw [List.length_append, HL.out]; rfl, H8x.out, by have := HI.out; rw [show 2 * (k + 1) = i + 2 by omega]; exact HM.out, HO2.out, HB2.out⟩
            case measure => simp [intOf]; omega
      · have hin2 : i = n := by omega
        have HY : Hid (UnhexTells l 0 b) := .inl ⟨rfl, H8.out, by rw [HH.out, List.take_of_length_le (by rw [HLN.out]; omega)]⟩
        have HO2 : Hid (own8 wr w.heap.size u4 b) := by show wr.ownsRow _ _ _ _ _ _; rw [HL.out]; exact HO.out
        subst hin2
        clear hi
        go_wp2
        go_ret2
        exact ⟨HB.out, _, _, _, rfl, HO2.out, HY.out, by rw [HL.out, HLN.out]; have := HI.out; omega⟩
end Go.Proofs.YtpipjkpjpkgmpaaDoor
