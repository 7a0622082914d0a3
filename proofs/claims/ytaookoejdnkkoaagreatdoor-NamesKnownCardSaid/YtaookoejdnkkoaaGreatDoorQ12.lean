import Derived.Test.YtaookoejdnkkoaaGreatDoorQ11
namespace Go.Proofs.YtaookoejdnkkoaaGreatDoor
open Go.RowKit

theorem idx_str {P : Program} (T : TypeId) (hT : P.underlying T = some .string) (s : ByteArray) (k c : Nat) (h : k < s.size) (hc : at0 (bsN s) k = c) (W : World) : (Instr.index T (.string s) (.int .i64 (k : Int))).run P W = .ok (.int .u8 (c : Nat)) W := by
  rw [run_index_string _ _ _ _ _ hT, dif_pos ⟨by omega, by omega⟩, ← hc, bsN_at s k h]
  rfl

set_option maxHeartbeats 800000 in
theorem find_no (s : ByteArray) (c : Nat) (w : World) (hs : s.size ≤ 1099511627776) (hn : ∀ i, i < s.size → at0 (bsN s) i ≠ c) :
    Calls Tryz.prog 147 #[.string s, .int .u8 (c : Nat)] w fun e w' => e = .returned (.int .i64 (-1)) ∧ w = w' := by
  have HN := Lib.hid hn
  clear hn
  go_enter Tryz.func147, Tryz.ntmps147
  go_wp2
  go_loop [5] (fun i => ∃ k : Nat, k ≤ s.size ∧ i = .int .i64 (k : Nat)) (fun i => s.size - (intOf i).toNat)
  case atStart => exact ⟨0, Nat.zero_le _, rfl⟩
  case round =>
    obtain ⟨k, hk, rfl⟩ := hrel
    by_cases hlt : k < s.size
    · obtain ⟨x, hx⟩ : ∃ x, x = at0 (bsN s) k := ⟨_, rfl⟩
      have hi : ∀ W, (Instr.index 9 (.string s) (.int .i64 (k : Int))).run Tryz.prog W = .ok (.int .u8 (x : Nat)) W := idx_str 9 Tryz.underlying9 s k x hlt hx.symm
      have hne : ((x : Int) == (c : Int)) = false := by have := HN.out k hlt; simp; omega
      clear hx
      go_wp2
      go_round
      case rel => exact ⟨k + 1, by omega, by go_num⟩
      case measure => simp [intOf]; omega
    · go_wp2
      go_ret
      exact ⟨rfl, rfl⟩
set_option maxHeartbeats 800000 in
theorem find_yes (s : ByteArray) (c d : Nat) (w : World) (hs : s.size ≤ 1099511627776) (hd : d < s.size) (hy : at0 (bsN s) d = c) (hn : ∀ i, i < d → at0 (bsN s) i ≠ c) :
    Calls Tryz.prog 147 #[.string s, .int .u8 (c : Nat)] w fun e w' => e = .returned (.int .i64 (d : Nat)) ∧ w = w' := by
  have HN := Lib.hid hn
  have HY := Lib.hid hy
  clear hn hy
  go_enter Tryz.func147, Tryz.ntmps147
  go_wp2
  go_loop [5] (fun i => ∃ k : Nat, k ≤ d ∧ i = .int .i64 (k : Nat)) (fun i => s.size - (intOf i).toNat)
  case atStart => exact ⟨0, Nat.zero_le _, rfl⟩
  case round =>
    obtain ⟨k, hk, rfl⟩ := hrel
    by_cases hlt : k < d
    · obtain ⟨x, hx⟩ : ∃ x, x = at0 (bsN s) k := ⟨_, rfl⟩
      have hi : ∀ W, (Instr.index 9 (.string s) (.int .i64 (k : Int))).run Tryz.prog W = .ok (.int .u8 (x : Nat)) W := idx_str 9 Tryz.underlying9 s k x (by omega) hx.symm
      have hne : ((x : Int) == (c : Int)) = false := by have := HN.out k hlt; simp; omega
      clear hx
      go_wp2
      go_round
      case rel => exact ⟨k + 1, by omega, by go_num⟩
      case measure => simp [intOf]; omega
    · obtain rfl : k = d := by omega
      have hi : ∀ W, (Instr.index 9 (.string s) (.int .i64 (k : Int))).run Tryz.prog W = .ok (.int .u8 (c : Nat)) W := idx_str 9 Tryz.underlying9 s k c hd HY.out
      have hne : ((c : Int) == (c : Int)) = true := by simp
      go_wp2
      go_ret
      exact ⟨rfl, rfl⟩
theorem hexLit_bs (d : Nat) (h : d < 16) : at0 (bsN hexLit) d = hexD d := by
  rw [bsN_at hexLit d h]
  exact hexLit_at d h
theorem hexLit_size : hexLit.size = 16 := rfl
/-- The place of a letter among hex's. -/
theorem fhex_no (c : Nat) (w : World) (hn : ∀ d, d < 16 → hexD d ≠ c) :
    Calls Tryz.prog 147 #[.string ⟨#[48, 49, 50, 51, 52, 53, 54, 55, 56, 57, 97, 98, 99, 100, 101, 102]⟩, .int .u8 (c : Nat)] w fun e w' => e = .returned (.int .i64 (-1)) ∧ w = w' :=
  find_no hexLit c w (by rw [hexLit_size]; decide) (fun i hi => by rw [hexLit_size] at hi; rw [hexLit_bs i hi]; exact hn i hi)
theorem fhex_yes (c d : Nat) (w : World) (hd : d < 16) (hy : hexD d = c) :
    Calls Tryz.prog 147 #[.string ⟨#[48, 49, 50, 51, 52, 53, 54, 55, 56, 57, 97, 98, 99, 100, 101, 102]⟩, .int .u8 (c : Nat)] w fun e w' => e = .returned (.int .i64 (d : Nat)) ∧ w = w' :=
  find_yes hexLit c d w (by rw [hexLit_size]; decide) (by rw [hexLit_size]; exact hd) (by rw [hexLit_bs d hd]; exact hy) (fun i hi e => by
    rw [hexLit_bs i (by omega), ← hy] at e
    have := hexD_inj (by omega) hd e
    omega)

def v16 (ds : List Nat) : Nat := ds.foldl (fun a d => 16 * a + d) 0
theorem v16_snoc (ds : List Nat) (d : Nat) : v16 (ds ++ [d]) = 16 * v16 ds + d := by simp [v16]
theorem v16_two {ds : List Nat} (hl : ds.length = 2) (hd : D16 ds) : v16 ds < 256 ∧ hexL [v16 ds] = ds.map hexD := by
  match ds, hl with
  | [a, b], _ =>
    have ha := hd a (by simp)
    have hb := hd b (by simp)
    have e : v16 [a, b] = 16 * a + b := by simp [v16]
    rw [e]
    refine ⟨by omega, ?_⟩
    simp only [hexL, List.map_cons, List.map_nil]
    rw [show (16 * a + b) / 16 = a by omega, show (16 * a + b) % 16 = b by omega]
theorem v16_lt : ∀ {ds : List Nat}, D16 ds → ds.length ≤ 2 → v16 ds < 256
  | [], _, _ => by simp [v16]
  | [a], h, _ => by have := h a (by simp); simp [v16]; omega
  | [a, b], h, _ => (v16_two rfl h).1
theorem D16.snoc {ds : List Nat} {d : Nat} (h : D16 ds) (hd : d < 16) : D16 (ds ++ [d]) := fun x hx => by
  rcases List.mem_append.1 hx with h1 | h1
  · exact h x h1
  · simp at h1; omega

set_option maxHeartbeats 4000000 in
set_option maxRecDepth 100000 in
theorem runhex_any (s : ByteArray) (n : Nat) (w : World) (hn : s.size = n) (hbig : n ≤ 1099511627776) :
    Calls Tryz.prog 91 #[.string s] w (UnhexPost (bsN s) w) := by
  have hbl := bsN_len s
  obtain ⟨l, hl⟩ : ∃ l, l = bsN s := ⟨_, rfl⟩
  rw [← hl] at hbl ⊢
  rw [hn] at hbl
  have HSZ := Lib.hid hn
  have HLS := Lib.hid hl
  have HLN := Lib.hid hbl
  by_cases hodd : n % 2 = 1
  · have hq : ((n : Int) % 2 == 1) = true := by simp; omega
    have hp : UnhexTells l 60 [] := unhex_odd (by rw [hbl]; exact hodd)
    have HP := Lib.hid hp
    clear hp hl hbl
    go_enter Tryz.func91, Tryz.ntmps91
    go_wp2
    go_ret2
    exact UnhexPost.no (Below.refl _ _) HP.out
  · have hq : ((n : Int) % 2 == 1) = false := by simp; omega
    have HOD := Lib.hid hodd
    clear hl hbl hodd
    go_enter Tryz.func91, Tryz.ntmps91
    go_wp2
    go_loopw [4, 5] (fun o i wr => ∃ (k : Nat) (b : List Nat), 2 * k ≤ n ∧ i = .int .i64 (2 * k : Nat) ∧ Hid (b.length = k) ∧ Hid (B8 b) ∧ Hid (hexL b = (l.take (2 * k)).map low) ∧
      Hid (wr.ownsRow w.heap.size 5 1 o k (u8s b)) ∧ Hid (Below w.heap.size w wr)) (fun _ i _ => n - (intOf i).toNat)
    case atStart => exact ⟨0, [], Nat.zero_le _, rfl, rfl, (fun x hx => by cases hx), rfl, World.ownsRow_nil _ _ _ _, Below.refl _ _⟩
    case round =>
      obtain ⟨k, b, hk, rfl, HL, H8, HH, HO, HB⟩ := hrel
      obtain ⟨i, hi⟩ : ∃ i, i = 2 * k := ⟨_, rfl⟩
      rw [← hi] at hk HH ⊢
      have HI := Lib.hid hi
      have hod := HOD.out
      by_cases hin : i < n
      · have hin2 : i + 2 ≤ n := by omega
        clear hod hi
        go_wp2
        go_loop [6, 7] (fun x p => ∃ (j : Nat) (ds : List Nat), j ≤ 2 ∧ p = .int .i64 (i + j : Nat) ∧ x = .int .i64 (v16 ds : Nat) ∧ Hid (ds.length = j) ∧ Hid (D16 ds) ∧ Hid (ds.map hexD = ((l.drop i).take j).map low)) (fun _ p => i + 2 - (intOf p).toNat)
        case atStart => exact ⟨0, [], by omega, rfl, rfl, rfl, (fun x hx => by cases hx), rfl⟩
        case round =>
          obtain ⟨j, ds, hj, rfl, rfl, HDL, HD, HDM⟩ := hrel
          have hvl := v16_lt HD.out (by rw [HDL.out]; exact hj)
          obtain ⟨x, hx⟩ : ∃ x, x = v16 ds := ⟨_, rfl⟩
          rw [← hx] at hvl ⊢
          have HX := Lib.hid hx
          clear hx
          obtain ⟨p, hp⟩ : ∃ p, p = i + j := ⟨_, rfl⟩
          rw [← hp] at ⊢
          have HP := Lib.hid hp
          by_cases hj2 : j < 2
          · have hps : p < n := by omega
            have hp2 : p < i + 2 := by omega
            clear hp
            obtain ⟨c, hc⟩ : ∃ c, c = at0 l p := ⟨_, rfl⟩
            have hc8 : c < 256 := by rw [hc, HLS.out]; exact (bsN_8 s).at0 p
            have hidx : ∀ W, (Instr.index 9 (.string s) (.int .i64 (p : Int))).run Tryz.prog W = .ok (.int .u8 (c : Nat)) W := idx_str 9 Tryz.underlying9 s p c (by omega) (by rw [hc, HLS.out])
            have HC := Lib.hid hc
            clear hc
            obtain ⟨lc, hlc⟩ : ∃ lc, lc = low c := ⟨_, rfl⟩
            have HLC := Lib.hid hlc
            have hlc0 : lc = low c := hlc
            clear hlc
            have hpl : p < l.length := by rw [HLN.out]; exact hps
            rcases Classical.em (∃ d, d < 16 ∧ hexD d = lc) with ⟨d, hd, hdl⟩ | hno
            · have HDL2 := Lib.hid hdl
              have HR : Hid ((ds ++ [d]).map hexD = ((l.drop i).take (j + 1)).map low) := by
                show _ = _
                have e : at0 (l.drop i) j = c := by rw [at0_drop, ← HP.out, HC.out]
                rw [List.map_append, HDM.out, take_succ_at0 (by rw [List.length_drop]; have := HP.out; omega), e]
                simp [hdl, hlc0]
              by_cases hup : 65 ≤ c ∧ c ≤ 70
              · have h1 := hup.1
                have h2 := hup.2
                have hcc : (c : Int) + 97 - 65 = (lc : Int) := by rw [hlc0, low, if_pos hup]; omega
                clear hup hlc0 hdl
                go_wp2_with (go_at_call 147; refine (fhex_yes lc d _ hd HDL2.out).mono ?_; rintro e w3 ⟨rfl, rfl⟩)
                go_round
                case rel => exact ⟨j + 1, ds ++ [d], by omega, by rw [HP.out]; go_num, by rw [v16_snoc, ← HX.out]; go_num, by show _ = _; rw [List.length_append, HDL.out]; rfl, HD.out.snoc hd, HR.out⟩
                case measure => simp [intOf]; omega
              · have hcc : lc = c := by rw [hlc0, low, if_neg hup]
                subst hcc
                clear hlc0 hdl
                have hdc : decide ((65 : Int) ≤ (lc : Int)) = true ∧ decide ((lc : Int) ≤ 70) = false ∨ decide ((65 : Int) ≤ (lc : Int)) = false := by
                  by_cases h : 65 ≤ lc
                  · exact .inl ⟨decide_eq_true (by omega), decide_eq_false (by omega)⟩
                  · exact .inr (decide_eq_false (by omega))
                clear hup
                rcases hdc with ⟨q1, q2⟩ | q1
                all_goals
                  go_wp2_with (go_at_call 147; refine (fhex_yes lc d _ hd HDL2.out).mono ?_; rintro e w3 ⟨rfl, rfl⟩)
                  go_round
                  case rel => exact ⟨j + 1, ds ++ [d], by omega, by rw [HP.out]; go_num, by rw [v16_snoc, ← HX.out]; go_num, by show _ = _; rw [List.length_append, HDL.out]; rfl, HD.out.snoc hd, HR.out⟩
                  case measure => simp [intOf]; omega
            · have hno2 : ∀ d, d < 16 → hexD d ≠ lc := fun d hd he => hno ⟨d, hd, he⟩
              have HN := Lib.hid (unhex_no (l := l) (i := p) hpl (by rw [← HC.out, ← hlc0]; exact hno2))
              have HNO := Lib.hid hno2
              clear hno hno2
              by_cases hup : 65 ≤ c ∧ c ≤ 70
              · have h1 := hup.1
                have h2 := hup.2
                have hcc : (c : Int) + 97 - 65 = (lc : Int) := by rw [hlc0, low, if_pos hup]; omega
                clear hup hlc0
                go_wp2_with (go_at_call 147; refine (fhex_no lc _ HNO.out).mono ?_; rintro e w3 ⟨rfl, rfl⟩)
                go_ret2
                exact UnhexPost.no HB.out HN.out
              · have hcc : lc = c := by rw [hlc0, low, if_neg hup]
                subst hcc
                clear hlc0
                have hdc : decide ((65 : Int) ≤ (lc : Int)) = true ∧ decide ((lc : Int) ≤ 70) = false ∨ decide ((65 : Int) ≤ (lc : Int)) = false := by
                  by_cases h : 65 ≤ lc
                  · exact .inl ⟨decide_eq_true (by omega), decide_eq_false (by omega)⟩
                  · exact .inr (decide_eq_false (by omega))
                clear hup
                rcases hdc with ⟨q1, q2⟩ | q1
                all_goals
                  go_wp2_with (go_at_call 147; refine (fhex_no lc _ HNO.out).mono ?_; rintro e w3 ⟨rfl, rfl⟩)
                  go_ret2
                  exact UnhexPost.no HB.out HN.out
          · obtain rfl : j = 2 := by omega
            have h2 := v16_two HDL.out HD.out
            rw [← HX.out] at h2
            have HM : Hid (hexL (b ++ [x]) = (l.take (i + 2)).map low) := by
              show _ = _
              rw [hexL_app, h2.2, HH.out, HDM.out, List.take_add, List.map_append]
            have H8x : Hid (B8 (b ++ [x])) := H8.out.append (fun y hy => by simp at hy; omega)
            have hk40 : k ≤ 1099511627776 := by have := HI.out; omega
            have hBs := HB.out.size
            have hwx : IntKind.u8.wrap (x : Int) = (x : Int) := wrap_u8_in x hvl
            have hp3 : i + 2 ≤ p := by omega
            clear h2 hp
            go_wp2_with (at_builtin; refine wpl_app 40 5 Tryz.underlying40 info8 rfl (by decide) rfl _ _ rfl w.heap.size _ k (u8s b) rfl (HO.out.alloc _) wr.heap.size _ rfl (World.cell?_alloc_at _ _ _ _ rfl) rfl (by omega) (by simp; omega) ?_; intro g cap' w1 hown1 hg1 hBg _ _)
            have hown2 : w1.ownsRow w.heap.size 5 1 (.slice (some ⟨g, 0, none⟩) (k + 1) cap') (k + 1) (u8s (b ++ [x])) := by rw [show u8s (b ++ [x]) = u8s b ++ [.int .u8 (x : Nat)] by simp [u8s]]; exact hown1
            have hb2 : Below w.heap.size w w1 := (HB.out.alloc (by omega) _).grown hg1 (by simp; omega) (fun j hj => (World.ownsRow.lt HO.out j hj).1)
            have HO2 := Lib.hid hown2
            have HB2 := Lib.hid hb2
            clear hown1 hown2 hb2 hg1
            go_roundw
            case rel => exact ⟨k + 1, b ++ [x], by have := HI.out; omega, by have := HI.out; go_num, by show _ = _; rw [List.length_append, HL.out]; rfl, H8x.out, by have := HI.out; rw [show 2 * (k + 1) = i + 2 by omega]; exact HM.out, HO2.out, HB2.out⟩
            case measure => simp [intOf]; omega
      · have hin2 : i = n := by omega
        have HY : Hid (UnhexTells l 0 b) := .inl ⟨rfl, H8.out, by rw [HH.out, List.take_of_length_le (by rw [HLN.out]; omega)]⟩
        have HO2 : Hid (own8 wr w.heap.size u4 b) := by show wr.ownsRow _ _ _ _ _ _; rw [HL.out]; exact HO.out
        subst hin2
        clear hi
        go_wp2
        go_ret2
        exact ⟨HB.out, _, _, _, rfl, HO2.out, HY.out, by rw [HL.out, HLN.out]; have := HI.out; omega⟩

theorem infoA3 : (Tryz.prog.info? 196).map (fun i => (i.zero, i.size)) = some (some (.agg (u8s (z8 3)).toArray), 3) := by kernel_rfl
theorem infoA4 : (Tryz.prog.info? 156).map (fun i => (i.zero, i.size)) = some (some (.agg (u8s (z8 4)).toArray), 4) := by kernel_rfl
theorem sizeU8 : (Tryz.prog.info? 5).map (·.size) = some 1 := by kernel_rfl
def b64Lit : ByteArray := ⟨#[65, 66, 67, 68, 69, 70, 71, 72, 73, 74, 75, 76, 77, 78, 79, 80, 81, 82, 83, 84, 85, 86, 87, 88, 89, 90, 97, 98, 99, 100, 101, 102, 103, 104, 105, 106, 107, 108, 109, 110, 111, 112, 113, 114, 115, 116, 117, 118, 119, 120, 121, 122, 48, 49, 50, 51, 52, 53, 54, 55, 56, 57, 43, 47]⟩
theorem b64Lit_size : b64Lit.size = 64 := rfl
set_option maxRecDepth 10000 in
theorem b64Lit_at (d : Nat) (h : d < 64) : (b64Lit[d]'h).toNat = b64D d := by
  have : ∀ d : Fin 64, (b64Lit[d.val]'d.isLt).toNat = b64D d.val := by decide +kernel
  exact this ⟨d, h⟩
theorem idx_b64 {P : Program} (T : TypeId) (hT : P.underlying T = some .string) (k : IntKind) (d : Nat) (h : d < 64) (W : World) : (Instr.index T (.string ⟨#[65, 66, 67, 68, 69, 70, 71, 72, 73, 74, 75, 76, 77, 78, 79, 80, 81, 82, 83, 84, 85, 86, 87, 88, 89, 90, 97, 98, 99, 100, 101, 102, 103, 104, 105, 106, 107, 108, 109, 110, 111, 112, 113, 114, 115, 116, 117, 118, 119, 120, 121, 122, 48, 49, 50, 51, 52, 53, 54, 55, 56, 57, 43, 47]⟩) (.int k (d : Int))).run P W = .ok (.int .u8 (b64D d : Nat)) W := by
  show (Instr.index T (.string b64Lit) (.int k (d : Int))).run P W = _
  rw [run_index_string _ _ _ _ _ hT, dif_pos ⟨by omega, by show (d : Int) < 64; omega⟩]
  rw [← b64Lit_at d h]
  rfl
/-- The letters of three bytes, as far as they are laid. -/
def dig4 (N j : Nat) : Nat := N / 2 ^ (18 - 6 * j) % 64
def laid4 (N k : Nat) : List Nat := (List.range 4).map fun j => if j < k then b64D (dig4 N j) else 61
theorem laid4_len (N k : Nat) : (laid4 N k).length = 4 := by simp [laid4]
theorem laid4_next (N k : Nat) (h : k < 4) : (laid4 N k).set k (b64D (dig4 N k)) = laid4 N (k + 1) := by
  apply List.ext_getElem (by simp [laid4])
  intro i h1 h2
  simp only [laid4, List.length_map, List.length_range] at h2
  rw [List.getElem_set]
  simp only [laid4, List.getElem_map, List.getElem_range]
  by_cases e : k = i
  · subst e; rw [if_pos rfl, if_pos (by omega)]
  · rw [if_neg e]
    by_cases h3 : i < k
    · rw [if_pos h3, if_pos (by omega)]
    · rw [if_neg h3, if_neg (by omega)]
theorem laid4_at (N k i : Nat) (h : i < 4) : ∃ old, (u8s (laid4 N k))[i]? = some (.int .u8 old) := by
  rw [u8s_ats _ _ (by rw [laid4_len]; exact h)]
  exact ⟨_, rfl⟩
theorem laid4_all {b : List Nat} (h8 : B8 b) (h1 : 1 ≤ b.length) (h3 : b.length ≤ 3) : laid4 (at0 b 0 * 65536 + at0 b 1 * 256 + at0 b 2) (b.length + 1) = b64L b := by
  have d0 : ∀ x y z : Nat, y < 256 → z < 256 → x < 256 → dig4 (x * 65536 + y * 256 + z) 0 = x / 4 := fun x y z hy hz hx => by show _ / 262144 % 64 = _; omega
  have d1 : ∀ x y z : Nat, y < 256 → z < 256 → dig4 (x * 65536 + y * 256 + z) 1 = x % 4 * 16 + y / 16 := fun x y z hy hz => by show _ / 4096 % 64 = _; omega
  have d2 : ∀ x y z : Nat, y < 256 → z < 256 → dig4 (x * 65536 + y * 256 + z) 2 = y % 16 * 4 + z / 64 := fun x y z hy hz => by show _ / 64 % 64 = _; omega
  have d3 : ∀ x y z : Nat, y < 256 → z < 256 → dig4 (x * 65536 + y * 256 + z) 3 = z % 64 := fun x y z hy hz => by show _ / 1 % 64 = _; omega
  have hr : List.range 4 = [0, 1, 2, 3] := rfl
  match b, h8, h1, h3 with
  | [x], h8, _, _ =>
    have g0 := h8.head
    have e0 : at0 [x] 0 = x := rfl
    have e1 : at0 [x] 1 = 0 := rfl
    have e2 : at0 [x] 2 = 0 := rfl
    rw [e0, e1, e2]
    simp only [laid4, hr, List.map_cons, List.map_nil, List.length_cons, List.length_nil, b64L]
    rw [d0 x 0 0 (by omega) (by omega) (by omega), d1 x 0 0 (by omega) (by omega)]
    rfl
  | [x, y], h8, _, _ =>
    have g0 := h8.head
    have g1 := h8.tail.head
    have e0 : at0 [x, y] 0 = x := rfl
    have e1 : at0 [x, y] 1 = y := rfl
    have e2 : at0 [x, y] 2 = 0 := rfl
    rw [e0, e1, e2]
    simp only [laid4, hr, List.map_cons, List.map_nil, List.length_cons, List.length_nil, b64L]
    rw [d0 x y 0 (by omega) (by omega) (by omega), d1 x y 0 (by omega) (by omega), d2 x y 0 (by omega) (by omega)]
    rfl
  | [x, y, z], h8, _, _ =>
    have g0 := h8.head
    have g1 := h8.tail.head
    have g2 := h8.tail.tail.head
    have e0 : at0 [x, y, z] 0 = x := rfl
    have e1 : at0 [x, y, z] 1 = y := rfl
    have e2 : at0 [x, y, z] 2 = z := rfl
    rw [e0, e1, e2]
    simp only [laid4, hr, List.map_cons, List.map_nil, List.length_cons, List.length_nil, b64L]
    rw [d0 x y z (by omega) (by omega) (by omega), d1 x y z (by omega) (by omega), d2 x y z (by omega) (by omega), d3 x y z (by omega) (by omega)]
    rfl

theorem and63 (a : Nat) (h : a < 18446744073709551616) : bits BinOp.and IntKind.u64 (a : Int) 63 = ((a % 64 : Nat) : Int) := by
  have h1 : (BitVec.ofInt 64 (a : Int)).toNat = a := by
    rw [BitVec.ofInt_natCast, BitVec.toNat_ofNat]; exact Nat.mod_eq_of_lt (by omega)
  show IntKind.u64.wrap ((BitVec.ofInt 64 (a : Int) &&& BitVec.ofInt 64 63).toNat : Int) = _
  rw [BitVec.toNat_and, h1, show (BitVec.ofInt 64 63).toNat = 2 ^ 6 - 1 by decide, Nat.and_two_pow_sub_one_eq_mod, IntKind.wrap_u64]
  omega

theorem cut_blockN {w : World} {bb off : Nat} {l : List Nat} (h : Rd .u8 w (some ⟨bb, off, none⟩) l) (h0 : 0 < l.length) : bb < w.heap.size := by
  obtain ⟨b2, o2, e, hc⟩ := h.get h0
  cases e
  exact World.block_lt_of_cell? w _ (hc 0 h0)
theorem three_cells (b : List Nat) (h3 : b.length ≤ 3) : splice (u8s (z8 3)) 0 (u8s b) = u8s [at0 b 0, at0 b 1, at0 b 2] := by
  match b, h3 with
  | [], _ => rfl
  | [_], _ => rfl
  | [_, _], _ => rfl
  | [_, _, _], _ => rfl
set_option maxHeartbeats 2000000 in
set_option maxRecDepth 100000 in
theorem four_any (a : Option Addr) (m cap : Nat) (b : List Nat) (w : World) (hl : b.length = m) (h1 : 1 ≤ m) (h3 : m ≤ 3) (hcap : m ≤ cap) (hr : Rd .u8 w a b) (h8 : B8 b) :
    Calls Tryz.prog 153 #[.slice a m cap] w fun e w' => e = .returned (.agg (u8s (b64L b)).toArray) ∧ Below w.heap.size w w' := by
  obtain ⟨bb, off, rfl, hc⟩ := hr.get (by omega)
  have hz3 := (zero_of_info infoA3).1
  have hz4 := (zero_of_info infoA4).1
  have HR := Lib.hid hr
  have HL := Lib.hid hl
  have HC := Lib.hid hc
  clear hr hc hl
  go_enter Tryz.func153, Tryz.ntmps153
  go_upto_region 2 with fail
  have C3 := Lib.hid (cb2 w (.cells (u8s (z8 4)).toArray 156) 196 (u8s (z8 3)))
  have C2 := Lib.hid ((CB.new w 156 (u8s (z8 4))).alloc (.cells (u8s (z8 3)).toArray 196))
  have HB := Lib.hid (bl2 w (.cells (u8s (z8 4)).toArray 156) (.cells (u8s (z8 3)).toArray 196))
  generalize (w.alloc (.cells (u8s (z8 4)).toArray 156)).alloc (.cells (u8s (z8 3)).toArray 196) = W0 at *
  have hbs := cut_blockN (HR.out) (by rw [HL.out]; omega)
  have HRW := Lib.hid (HR.out.below HB.out)
  have hlt3 := C3.out.lt
  refine wp_region_lit ?_
  refine wpList_plain rfl fun K1 hK1 => ?_
  go_simp
  refine hK1 _ _ ?_
  clear hK1 K1
  refine wpList_plain rfl fun K1 hK1 => ?_
  go_simp
  refine hK1 _ _ ?_
  clear hK1 K1
  refine wpList_plain rfl fun K1 hK1 => wp_copy (.tmp 7) (.tmp 8) 40 40 rfl 5 Tryz.underlying40 sizeU8 (w.heap.size + 1) 0 3 3 ⟨bb, off, none⟩ m cap rfl rfl C3.out (u8s b) (by rw [u8s_len, HL.out]; exact (Nat.min_eq_left h3).symm) ?_ (by rw [u8s_len, HL.out]; simp [u8s, z8]; omega) (u8s_one8 _) fun w4 C4 hch hsz => hK1 _ _ ?_
  · intro j v hv
    have hjl : j < b.length := by have := (List.getElem?_eq_some_iff.1 hv).1; rwa [u8s_len] at this
    have e2 : (⟨bb, off, none⟩ : Addr).add j = ⟨bb, off + j, none⟩ := by unfold Addr.add; split <;> simp_all
    rw [e2]
    rw [u8s_ats b j hjl] at hv
    obtain rfl := Option.some.inj hv
    exact below_cell HB.out _ _ (HC.out j hjl)
  clear hK1 K1
  rw [three_cells b (by rw [HL.out]; exact h3)] at C4
  have C24 := Lib.hid (C2.out.chg hch (fun e => by omega))
  have HB4 := Lib.hid (HB.out.trans (hch.below HB.out.size (fun k hk => by omega)))
  have hsz4 : w.heap.size + 1 < w4.heap.size := by omega
  have HALL := laid4_all h8 (by rw [HL.out]; exact h1) (by rw [HL.out]; exact h3)
  have g0 := h8.at0 0
  have g1 := h8.at0 1
  have g2 := h8.at0 2
  rw [HL.out] at HALL
  generalize at0 b 0 = x at *
  generalize at0 b 1 = y at *
  generalize at0 b 2 = z at *
  have k0 : w4.cell? ⟨w.heap.size + 1, 0, none⟩ = some (.int .u8 (x : Nat)) := C4.cell 0
  have k1 : w4.cell? ⟨w.heap.size + 1, 1, none⟩ = some (.int .u8 (y : Nat)) := C4.cell 1
  have k2 : w4.cell? ⟨w.heap.size + 1, 2, none⟩ = some (.int .u8 (z : Nat)) := C4.cell 2
  obtain ⟨M, hM⟩ : ∃ M, M = x * 65536 + y * 256 := ⟨_, rfl⟩
  obtain ⟨N, hN⟩ : ∃ N, N = x * 65536 + y * 256 + z := ⟨_, rfl⟩
  have o1 : bits BinOp.or IntKind.u64 ((x : Int) * 65536) ((y : Int) * 256) = (M : Int) := by
    have := or_low8 x (y * 256) 16 (by decide) (by omega) (by omega)
    rw [hM, show (2 : Nat) ^ 16 = 65536 by decide] at *
    rw [← this]; congr 1 <;> omega
  have o2 : bits BinOp.or IntKind.u64 (M : Int) (z : Int) = (N : Int) := by
    have := or_low8 (x * 256 + y) z 8 (by decide) (by omega) (by omega)
    rw [show (x * 256 + y) * 2 ^ 8 = M by omega, show M + z = N by omega] at this
    exact this
  rw [← hN] at HALL
  have HAL2 := Lib.hid HALL
  clear HALL
  have hNb : N < 16777216 := by omega
  clear hch HRW HR HC hbs hsz C3 C2 HB hlt3 C4 hM hN
  have hz4' : ∀ w, (zeroValue 156).run Tryz.prog w = .ok (.agg #[.int .u8 0, .int .u8 0, .int .u8 0, .int .u8 0]) w := hz4
  clear hz4 hz3
  go_wp2
  have i0 : ∀ W, (Instr.index 9 (.string ⟨#[61]⟩) (.int .i64 0)).run Tryz.prog W = .ok (.int .u8 61) W := fun W => idx_str 9 Tryz.underlying9 ⟨#[61]⟩ 0 61 (by decide) rfl W
  go_region
  have C5 : Hid (CB (w4.alloc (.cells #[.int .u8 61, .int .u8 61, .int .u8 61, .int .u8 61] 156)).drew 156 w4.heap.size (u8s (laid4 N 0))) := CB.new w4 156 (u8s (laid4 N 0))
  have C25 : Hid (CB (w4.alloc (.cells #[.int .u8 61, .int .u8 61, .int .u8 61, .int .u8 61] 156)).drew 156 w.heap.size (u8s (z8 4))) := C24.out.alloc _
  have HB5 : Hid (Below w.heap.size w (w4.alloc (.cells #[.int .u8 61, .int .u8 61, .int .u8 61, .int .u8 61] 156)).drew) := (HB4.out.alloc (by omega) _).drew
  obtain ⟨G, hG⟩ : ∃ G, G = w4.heap.size := ⟨_, rfl⟩
  rw [← hG] at C5 hsz4 ⊢
  clear hG i0 hz4' k0 k1 k2 o1 o2 g0 g1 g2 C24 HB4
  go_wp2
  go_loopw [31] (fun iv wr => ∃ k : Nat, k ≤ m + 1 ∧ iv = .int .i64 (k : Nat) ∧ Hid (CB wr 156 G (u8s (laid4 N k))) ∧ Hid (CB wr 156 w.heap.size (u8s (z8 4))) ∧ Hid (Below w.heap.size w wr)) (fun iv _ => m + 1 - (intOf iv).toNat)
  case atStart => exact ⟨0, Nat.zero_le _, rfl, C5.out, C25.out, HB5.out⟩
  case round =>
    clear C5 C25 HB5
    obtain ⟨k, hk, rfl, HC, HC2, HB⟩ := hrel
    by_cases hlt : k < m + 1
    · obtain ⟨q, hq⟩ : ∃ q, q = 18 - 6 * k := ⟨_, rfl⟩
      have e1 : (18 : Int) - 6 * (k : Int) = (q : Int) := by omega
      obtain ⟨d, hd⟩ : ∃ d, d = dig4 N k := ⟨_, rfl⟩
      obtain ⟨F, hF⟩ : ∃ F, F = N / 2 ^ q := ⟨_, rfl⟩
      have hF2 : F < 18446744073709551616 := by rw [hF]; exact Nat.lt_of_le_of_lt (Nat.div_le_self _ _) (by omega)
      have e2 : (N : Int) / 2 ^ q = (F : Int) := by rw [hF]; simp
      have e3 : bits BinOp.and IntKind.u64 (F : Int) 63 = (d : Int) := by rw [hd, dig4, ← hq, ← hF]; exact and63 F hF2
      have hd64 : d < 64 := by rw [hd, dig4]; exact Nat.mod_lt _ (by decide)
      have i1 : ∀ W, (Instr.index 9 (.string ⟨#[65, 66, 67, 68, 69, 70, 71, 72, 73, 74, 75, 76, 77, 78, 79, 80, 81, 82, 83, 84, 85, 86, 87, 88, 89, 90, 97, 98, 99, 100, 101, 102, 103, 104, 105, 106, 107, 108, 109, 110, 111, 112, 113, 114, 115, 116, 117, 118, 119, 120, 121, 122, 48, 49, 50, 51, 52, 53, 54, 55, 56, 57, 43, 47]⟩) (.int .u64 (d : Int))).run Tryz.prog W = .ok (.int .u8 (b64D d : Nat)) W := idx_b64 9 Tryz.underlying9 .u64 d hd64
      obtain ⟨y, hy⟩ : ∃ y, y = b64D d := ⟨_, rfl⟩
      rw [← hy] at i1
      have HN : Hid ((laid4 N k).set k y = laid4 N (k + 1)) := by show _ = _; rw [hy, hd]; exact laid4_next N k (by omega)
      have hq64 : q ≤ 18 := by omega
      have hm : min q 64 = q := by omega
      have hk4 : k < 4 := by omega
      obtain ⟨old, c0⟩ : ∃ old, wr.cell? ⟨G, k, none⟩ = some (.int .u8 old) := by rw [HC.out.cell]; exact laid4_at _ _ _ hk4
      have f0 := HC.out.free k
      clear hq hd hF hy hd64
      have hgw : w.heap.size ≠ G := by omega
      have hgB : w.heap.size ≤ G := by omega
      go_wp2
      go_roundw
      case rel => exact ⟨k + 1, by omega, by go_num, by rw [← HN.out, ← u8s_sets]; exact HC.out.set k _, HC2.out.other ⟨G, k, none⟩ (fun e => hgw e.symm) _, HB.out.setCell (p := ⟨G, k, none⟩) hgB _⟩
      case measure => simp [intOf]; omega
    · obtain rfl : k = m + 1 := by omega
      have hq : decide (((m + 1 : Nat) : Int) < (m : Int) + 1) = false := decide_eq_false (by omega)
      rw [HAL2.out] at HC
      have hL : (u8s (b64L b)).length = 4 := by rw [u8s_len, b64L_len, HL.out]; omega
      have h1c := u8s_one8 (b64L b)
      obtain ⟨X, hX⟩ : ∃ X, X = u8s (b64L b) := ⟨_, rfl⟩
      rw [← hX] at HC hL h1c
      have HXX := Lib.hid hX
      clear hX
      go_upto_region 10 with fail
      refine wp_region_lit ?_
      refine wpList_plain rfl fun K1 hK1 => wp_loadc 156 (.tmp 5) rfl G 0 4 rfl HC.out _ Tryz.underlying156 rfl (zero_of_info infoA4).2 (by omega) X (by rw [List.drop_zero]; exact List.take_of_length_le (by omega)) (hK1 _ _ ?_)
      clear hK1 K1
      refine wpList_plain rfl fun K1 hK1 => wp_storec 156 (.tmp 2) (.tmp 44) rfl w.heap.size 0 4 rfl X rfl hL HC2.out (zero_of_info infoA4).2 (by simp [u8s, z8]) h1c fun w' hc hch hsz => hK1 _ _ ?_
      clear hK1 K1
      rw [splice_all (by rw [hL]; simp [u8s, z8])] at hc
      go_wp2
      refine bodyPost_ret (ret_row rfl rfl hc _ Tryz.underlying156 rfl (by rw [(zero_of_info infoA4).2, hL])) rfl ⟨by rw [HXX.out], ?_⟩
      exact HB.out.trans (hch.below HB.out.size (fun k hk => by omega))
end Go.Proofs.YtaookoejdnkkoaaGreatDoor
