import Derived.Test.YtkghgfiindpcjaaDeKnO
namespace Go.Proofs.Ytkghgfiindpcjaa
open Go.RowKit
/-! DerKnown: keys. -/
def ns27 : List Int := [0, 1, 7, 8, 63, 64, 960, 968, 976, 984, 992, 1000, 1008, 1016, 1024, 1984, 2000, 2016, 2024, 2032, 2040, 2048, 4088, 4095, 4096, 8192, 9000]
def es4 : List Nat := [0, 3, 128, 65537]
theorem u64s_at2 (l : List Nat) (i : Nat) (h : i < l.length) : (u64s l)[i]? = some (.int .u64 (l[i] : Nat)) := by simp [u64s, h]
theorem es4_b (i : Nat) (h : i < es4.length) : es4[i] < 18446744073709551616 := by
  have : es4.all (fun x => decide (x < 18446744073709551616)) = true := by decide
  simpa using List.all_eq_true.1 this es4[i] (List.getElem_mem h)
def ns5 : List Int := [511, 512, 513, 514, 600]
set_option maxHeartbeats 8000000 in
set_option maxRecDepth 100000 in
theorem keys7_any (w : World) : Calls Try.prog 34 #[] w fun e w' => e = .returned (.bool true) ∧ Below w.heap.size w w' := by
  go_enter Try.func34, Try.ntmps34
  go_wp2
  have HC : Hid (CL (w.alloc (.cells (i64s ns27).toArray 3)) 3 w.heap.size (i64s ns27)) := CL.new w _ _
  have HB1 : Hid (Below w.heap.size w (w.alloc (.cells (i64s ns27).toArray 3))) := (Below.refl _ _).alloc (Nat.le_refl _) _
  go_loopw [12] (fun iv wr => ∃ i : Nat, i ≤ 27 ∧ iv = .int .i64 (i : Nat) ∧ Hid (CL wr 3 w.heap.size (i64s ns27)) ∧ Hid (Below w.heap.size w wr)) (fun iv _ => 27 - (intOf iv).toNat)
  case atStart => exact ⟨0, Nat.zero_le _, rfl, HC.out, HB1.out⟩
  case round =>
    clear HC HB1
    obtain ⟨i, hi, rfl, HC, HB⟩ := hrel
    by_cases hin : i < 27
    · have hq1 : decide ((i : Int) < 27) = true := decide_eq_true (by omega)
      have hcl : wr.cell? ⟨w.heap.size, i, none⟩ = some (.int .i64 ns27[i]) := by rw [HC.out.cell]; exact i64s_at _ _ hin
      have hnr := all_in (l := ns27) (a := 0) (b := 9000) (by decide) i hin
      obtain ⟨n, hn⟩ : ∃ n : Nat, ns27[i] = (n : Int) := ⟨ns27[i].toNat, by omega⟩
      rw [hn] at hcl hnr
      have hnb : n ≤ 9000 := by omega
      have HNB := Lib.hid hnb
      clear hn hnr
      have HC2 : Hid (CL (wr.alloc (.cells (u64s es4).toArray 56)) 56 wr.heap.size (u64s es4)) := CL.new wr _ _
      have hal : Below wr.heap.size wr (wr.alloc (.cells (u64s es4).toArray 56)) := (Below.refl _ _).alloc (Nat.le_refl _) _
      have HC := Lib.hid (HC.out.below hal)
      have HB := Lib.hid (HB.out.trans (hal.mono HB.out.size))
      clear hal hnb
      go_wp2
      generalize hg2 : wr.heap.size = g2 at *
      clear hg2
      go_loopw [18] (fun jv wr2 => ∃ j : Nat, j ≤ 4 ∧ jv = .int .i64 (j : Nat) ∧ Hid (CL wr2 56 g2 (u64s es4)) ∧ Hid (CL wr2 3 w.heap.size (i64s ns27)) ∧ Hid (Below w.heap.size w wr2)) (fun jv _ => 4 - (intOf jv).toNat)
      case atStart => exact ⟨0, Nat.zero_le _, rfl, HC2.out, HC.out, HB.out⟩
      case round =>
        clear HC HB HC2
        obtain ⟨j, hj, rfl, HC2, HC, HB⟩ := hrel
        obtain ⟨wr2, hwr2⟩ : ∃ W, W = wr := ⟨_, rfl⟩
        rw [← hwr2] at HC2 HC HB ⊢
        clear hwr2
        by_cases hjn : j < 4
        · have hcl2 : wr2.cell? ⟨g2, j, none⟩ = some (.int .u64 (es4[j] : Nat)) := by rw [HC2.out.cell]; exact u64s_at2 _ _ hjn
          have hxb := es4_b j hjn
          generalize es4[j] = x at hcl2 hxb
          have HX := Lib.hid hxb
          clear hxb
          go_wp2_with fail
          refine (one7_any _ n false _ rfl (by have := HNB.out; omega)).mono ?_
          rintro e w3 ⟨a3, l3, c3, rfl, -, hL, hb⟩
          have HL3 := Lib.hid hL
          have HC2 := Lib.hid (HC2.out.below hb)
          have HC := Lib.hid (HC.out.below hb)
          have HB := Lib.hid (HB.out.trans (hb.mono HB.out.size))
          clear hb
          clear hL hcl2
          have hal : Below w3.heap.size w3 (w3.alloc (.cells #[.int .u64 (x : Nat)] 56)) := (Below.refl _ _).alloc (Nat.le_refl _) _
          have HE3 := Lib.hid (lst_1 w3 x x _ rfl HX.out rfl)
          have HL3 := Lib.hid (HL3.out.below hal)
          have HC2 := Lib.hid (HC2.out.below hal)
          have HC := Lib.hid (HC.out.below hal)
          have HB := Lib.hid (HB.out.trans (hal.mono HB.out.size))
          clear hal
          go_wp2_with fail
          refine (k_tells HL3.out HE3.out).mono ?_
          rintro e w4 ⟨rfl, hb⟩
          have HC2 := Lib.hid (HC2.out.below hb)
          have HC := Lib.hid (HC.out.below hb)
          have HB := Lib.hid (HB.out.trans (hb.mono HB.out.size))
          clear hb
          clear HL3 HE3
          have hal : Below w4.heap.size w4 (w4.alloc (.cells #[.int .u64 (x : Nat)] 56)) := (Below.refl _ _).alloc (Nat.le_refl _) _
          have HE4 := Lib.hid (lst_1 w4 x x _ rfl HX.out rfl)
          have HC2 := Lib.hid (HC2.out.below hal)
          have HC := Lib.hid (HC.out.below hal)
          have HB := Lib.hid (HB.out.trans (hal.mono HB.out.size))
          clear hal
          go_wp2_with fail
          refine (one7_any _ n true _ rfl (by have := HNB.out; omega)).mono ?_
          rintro e w5 ⟨a5, l5, c5, rfl, -, hL, hb⟩
          have HL5 := Lib.hid hL
          have HC2 := Lib.hid (HC2.out.below hb)
          have HC := Lib.hid (HC.out.below hb)
          have HE4 := Lib.hid (HE4.out.below hb)
          have HB := Lib.hid (HB.out.trans (hb.mono HB.out.size))
          clear hb
          clear hL
          go_wp2_with fail
          refine (k_tells HE4.out HL5.out).mono ?_
          rintro e w6 ⟨rfl, hb⟩
          have HC2 := Lib.hid (HC2.out.below hb)
          have HC := Lib.hid (HC.out.below hb)
          have HB := Lib.hid (HB.out.trans (hb.mono HB.out.size))
          clear hb
          clear HL5 HE4
          go_wp2_with fail
          refine (one7_any _ n true _ rfl (by have := HNB.out; omega)).mono ?_
          rintro e w7 ⟨a7, l7, c7, rfl, -, hL, hb⟩
          have HL7 := Lib.hid hL
          have HC2 := Lib.hid (HC2.out.below hb)
          have HC := Lib.hid (HC.out.below hb)
          have HB := Lib.hid (HB.out.trans (hb.mono HB.out.size))
          clear hb
          clear hL
          have hal : Below w7.heap.size w7 (w7.alloc (.cells #[.int .u64 (x : Nat), .int .u64 0] 56)) := (Below.refl _ _).alloc (Nat.le_refl _) _
          have HE7 := Lib.hid (lst_2 w7 x 0 x 0 _ rfl rfl HX.out (by decide) rfl)
          have HL7 := Lib.hid (HL7.out.below hal)
          have HC2 := Lib.hid (HC2.out.below hal)
          have HC := Lib.hid (HC.out.below hal)
          have HB := Lib.hid (HB.out.trans (hal.mono HB.out.size))
          clear hal
          go_wp2_with fail
          refine (k_back HL7.out HE7.out n 0 (by have := HNB.out; omega) (by have := HNB.out; omega) (by decide)).mono ?_
          rintro e w8 ⟨rfl, hb⟩
          have HC2 := Lib.hid (HC2.out.below hb)
          have HC := Lib.hid (HC.out.below hb)
          have HB := Lib.hid (HB.out.trans (hb.mono HB.out.size))
          clear hb
          clear HL7 HE7
          go_wp2
          go_roundw
          case rel => exact ⟨j + 1, by omega, by go_num, HC2.out, HC.out, HB.out⟩
          case measure => simp [intOf]; omega
        · clear HC2
          go_wp2
          go_roundw
          case rel => exact ⟨i + 1, by omega, by go_num, HC.out, HB.out⟩
          case measure => simp [intOf]; omega
    · have hq1 : decide ((i : Int) < 27) = false := decide_eq_false (by omega)
      clear HC
      have HC : Hid (CL (wr.alloc (.cells (i64s ns5).toArray 3)) 3 wr.heap.size (i64s ns5)) := CL.new wr _ _
      have hal : Below wr.heap.size wr (wr.alloc (.cells (i64s ns5).toArray 3)) := (Below.refl _ _).alloc (Nat.le_refl _) _
      have HB := Lib.hid (HB.out.trans (hal.mono HB.out.size))
      clear hal
      go_wp2
      generalize hg2 : wr.heap.size = g2 at *
      clear hg2
      go_loopw [52] (fun jv wr2 => ∃ j : Nat, j ≤ 5 ∧ jv = .int .i64 (j : Nat) ∧ Hid (CL wr2 3 g2 (i64s ns5)) ∧ Hid (Below w.heap.size w wr2)) (fun jv _ => 5 - (intOf jv).toNat)
      case atStart => exact ⟨0, Nat.zero_le _, rfl, HC.out, HB.out⟩
      case round =>
        clear HC HB
        obtain ⟨j, hj, rfl, HC, HB⟩ := hrel
        obtain ⟨wr2, hwr2⟩ : ∃ W, W = wr := ⟨_, rfl⟩
        rw [← hwr2] at HC HB ⊢
        clear hwr2
        by_cases hjn : j < 5
        · have hq2 : decide ((j : Int) < 5) = true := decide_eq_true (by omega)
          have hcl : wr2.cell? ⟨g2, j, none⟩ = some (.int .i64 ns5[j]) := by rw [HC.out.cell]; exact i64s_at _ _ hjn
          have hnr := all_in (l := ns5) (a := 511) (b := 600) (by decide) j hjn
          obtain ⟨n, hn⟩ : ∃ n : Nat, ns5[j] = (n : Int) := ⟨ns5[j].toNat, by omega⟩
          rw [hn] at hcl hnr
          have hn1 : 511 ≤ n := by omega
          have hn2 : n ≤ 600 := by omega
          clear hn hnr
          go_wp2_with (at_make; refine wpl_make8 rfl _ _ rfl wr2.heap.size _ _ _ _ n rfl rfl rfl rfl (by omega) (Nat.le_refl _) ?_)
          intro w3 hown hbl hsz
          obtain ⟨g, hg⟩ : ∃ g, g = wr2.heap.size := ⟨_, rfl⟩
          have HG2 : Hid (g2 < g) := by show _ < _; rw [hg]; exact HC.out.lt
          have HGB : Hid (w.heap.size ≤ g) := by show _ ≤ _; rw [hg]; exact HB.out.size
          rw [← hg] at hown ⊢
          have hc0 := World.ownsRow.cellAt hown 0 (by omega)
          rw [u8s_at _ 0 (by rw [List.length_replicate]; omega)] at hc0
          have hf0 := World.ownsRow.frozenAt hown 0
          have HBG : Hid (own8 (w3.setCell ⟨g, 0, none⟩ (.int .u8 (127 : Nat))) g (.slice (some ⟨g, 0, none⟩) n n) ((List.replicate n 0).set 0 127)) := own8_of (own8.set hown 0 127) (by rw [List.length_set, List.length_replicate]) rfl
          have hb3 : Below wr2.heap.size wr2 (w3.setCell ⟨g, 0, none⟩ (.int .u8 (127 : Nat))) := hbl.setCell (by show _ ≤ g; omega) _
          have HC := Lib.hid (HC.out.below hb3)
          have HB := Lib.hid (HB.out.trans (hb3.mono HB.out.size))
          clear hown hbl hsz hb3 hg
          go_upto_region 16 with fail
          have e127 : (Value.int .u8 127) = .int .u8 ((127 : Nat) : Int) := rfl
          rw [e127]
          generalize w3.setCell ⟨g, 0, none⟩ (.int .u8 (127 : Nat)) = W4 at *
          clear hc0 hf0 e127
          have HBL : Hid (((List.replicate n 0).set 0 127).length = n ∧ B8 ((List.replicate n 0).set 0 127)) := ⟨by rw [List.length_set, List.length_replicate], fun x hx => by
            rcases List.mem_or_eq_of_mem_set hx with h | h
            · rw [List.eq_of_mem_replicate h]; decide
            · omega⟩
          generalize (List.replicate n 0).set 0 127 = bl at *
          obtain ⟨x, hx⟩ : ∃ x, x = n / 256 := ⟨_, rfl⟩
          obtain ⟨y, hy⟩ : ∃ y, y = n % 256 := ⟨_, rfl⟩
          have hx1 : x < 256 := by omega
          have hy1 : y < 256 := by omega
          have e1 : ((n : Int) / 256) % 256 = (x : Int) := by omega
          have e2 : (n : Int) % 256 = (y : Int) := by omega
          have e3 : IntKind.u8.wrap ((n : Int) / 256) = (x : Int) := by rw [IntKind.wrap_u8']; exact e1
          have e4 : IntKind.u8.wrap (n : Int) = (y : Int) := by rw [IntKind.wrap_u8']; exact e2
          have e5 : IntKind.u8.wrap ((n : Int) / 2 ^ 8) = (x : Int) := e3
          clear hx hy
          obtain ⟨m, hm⟩ : ∃ m, m = 0 + 4 + n + 3 := ⟨_, rfl⟩
          obtain ⟨x2, hx⟩ : ∃ x, x = m / 256 := ⟨_, rfl⟩
          obtain ⟨y2, hy⟩ : ∃ y, y = m % 256 := ⟨_, rfl⟩
          have hx2 : x2 < 256 := by omega
          have hy2 : y2 < 256 := by omega
          have k1 : ((m : Int) / 256) % 256 = (x2 : Int) := by omega
          have k2 : (m : Int) % 256 = (y2 : Int) := by omega
          have k3 : IntKind.u8.wrap ((m : Int) / 256) = (x2 : Int) := by rw [IntKind.wrap_u8']; exact k1
          have k4 : IntKind.u8.wrap (m : Int) = (y2 : Int) := by rw [IntKind.wrap_u8']; exact k2
          have k5 : IntKind.u8.wrap ((m : Int) / 2 ^ 8) = (x2 : Int) := k3
          clear hx hy
          obtain ⟨bb, hbb⟩ : ∃ bb, bb = [2, 130, x, y] ++ bl ++ [2, 1, 3] := ⟨_, rfl⟩
          have HBB : Hid (bb.length = m ∧ B8 bb ∧ u8s bb = [] ++ u8s [2, 130, x, y] ++ u8s bl ++ u8s [2, 1, 3]) := by
            have h1 := HBL.out.1
            refine ⟨by rw [hbb, List.length_append, List.length_append, h1]; simp; omega, ?_, by rw [hbb]; simp [u8s]⟩
            rw [hbb]
            intro z hz
            rcases List.mem_append.1 hz with hz | hz
            · rcases List.mem_append.1 hz with hz | hz
              · simp at hz; omega
              · exact HBL.out.2 z hz
            · simp at hz; omega
          have HM := Lib.hid hm
          have h82 : B8 ([48, 130, x2, y2] ++ bb) := by
            intro z hz
            rcases List.mem_append.1 hz with hz | hz
            · simp at hz; omega
            · exact HBB.out.2.1 z hz
          have H82 := Lib.hid h82
          have hal : Below W4.heap.size W4 (W4.alloc (.cells #[.int .u8 2, .int .u8 130, .int .u8 (x : Nat), .int .u8 (y : Nat)] 5)) := (Below.refl _ _).alloc (Nat.le_refl _) _
          have HAL := Lib.hid hal
          have hn10 : 0 + 4 + n ≤ 4096 := by omega
          have hm10 : 0 + 4 + m ≤ 4096 := by omega
          clear hbb h82 hal hm hx1 hy1 hx2 hy2
          go_wp2_with (first
            | (at_builtin; refine wpl_appN 22 5 Try.underlying22 info8 rfl (by decide) rfl _ _ rfl W4.heap.size (.slice none 0 0) 0 [] rfl (World.ownsRow_nil _ _ _ _) (some ⟨W4.heap.size, 0, none⟩) 4 4 rfl (u8s [2, 130, x, y]) rfl (fun _ => (rd_lit8 (w := W4) 5 [2, 130, x, y] #[.int .u8 2, .int .u8 130, .int .u8 (x : Nat), .int .u8 (y : Nat)] rfl).news (by simp)) (fun h => by cases h) (u8s_one8 _) (by decide) (by simp) ?_; intro v5 w5 hown5 hg5 _ _; have HG5 := Lib.hid (HAL.out.grown hg5 (by simp) (fun q hq => by cases hq)); have HO5 := Lib.hid hown5; clear hown5 hg5)
            | (at_builtin; refine wpl_appN 22 5 Try.underlying22 info8 rfl (by decide) rfl _ _ rfl W4.heap.size v5 (0 + 4) ([] ++ u8s [2, 130, x, y]) rfl HO5.out (some ⟨g, 0, none⟩) n n rfl (u8s bl) (by rw [u8s_len, HBL.out.1]) (fun h => (own8_rd2 ((HBG.out.under HG5.out))).news (by rw [HBL.out.1]; exact h)) (fun _ h => by cases h) (u8s_one8 _) (by omega) HG5.out.size ?_; intro v6 w6 hown6 hg6 _ _; have HG6 := Lib.hid (HG5.out.grown hg6 HG5.out.size (fun q hq => (World.ownsRow.lt HO5.out q hq).1)); have HO6 := Lib.hid hown6; clear hown6 hg6)
            | (at_builtin; refine wpl_appN 22 5 Try.underlying22 info8 rfl (by decide) rfl _ _ rfl W4.heap.size v6 (0 + 4 + n) ([] ++ u8s [2, 130, x, y] ++ u8s bl) rfl (HO6.out.alloc _) (some ⟨w6.heap.size, 0, none⟩) 3 3 rfl (u8s [2, 1, 3]) rfl (fun _ => (rd_lit8 (w := w6) 5 [2, 1, 3] #[.int .u8 2, .int .u8 1, .int .u8 3] rfl).news (by simp)) (fun h => by cases h) (u8s_one8 _) (by omega) (by have := HG6.out.size; simp; omega) ?_; intro v7 w7 hown7 hg7 _ _; have HG7 := Lib.hid ((HG6.out.alloc HG6.out.size _).grown hg7 (by have := HG6.out.size; simp; omega) (fun q hq => (World.ownsRow.lt HO6.out q hq).1)); obtain ⟨a7, c7, hv7, -, hr7, hn7, -⟩ := own8_open (own8_of hown7 (HM.out.symm.trans HBB.out.1.symm) HBB.out.2.2.symm); rw [HBB.out.1] at hv7; subst hv7; have HR7 := Lib.hid hr7; have HN7 := Lib.hid hn7; clear hr7 hn7 hown7 hg7)
            | (at_builtin; refine wpl_appN 22 5 Try.underlying22 info8 rfl (by decide) rfl _ _ rfl w7.heap.size (.slice none 0 0) 0 [] rfl (World.ownsRow_nil _ _ _ _) (some ⟨w7.heap.size, 0, none⟩) 4 4 rfl (u8s [48, 130, x2, y2]) rfl (fun _ => (rd_lit8 (w := w7) 5 [48, 130, x2, y2] #[.int .u8 48, .int .u8 130, .int .u8 (x2 : Nat), .int .u8 (y2 : Nat)] rfl).news (by simp)) (fun h => by cases h) (u8s_one8 _) (by decide) (by simp) ?_; intro v8 w8 hown8 hg8 _ _; have HG8 := Lib.hid (((Below.refl w7.heap.size w7).alloc (Nat.le_refl _) _).grown hg8 (by simp) (fun q hq => by cases hq)); have HO8 := Lib.hid hown8; clear hown8 hg8)
            | (at_builtin; refine wpl_appN 22 5 Try.underlying22 info8 rfl (by decide) rfl _ _ rfl w7.heap.size v8 (0 + 4) ([] ++ u8s [48, 130, x2, y2]) rfl HO8.out a7 m c7 rfl (u8s bb) (by rw [u8s_len, HBB.out.1]) (fun h => (HR7.out.below HG8.out).news (by rw [HBB.out.1]; exact h)) (fun _ h => HN7.out h) (u8s_one8 _) (by omega) HG8.out.size ?_; intro v9 w9 hown9 hg9 _ _; have HG9 := Lib.hid (HG8.out.grown hg9 HG8.out.size (fun q hq => (World.ownsRow.lt HO8.out q hq).1)); have HO9 := Lib.hid hown9; clear hown9 hg9))
          have hw9 : Below W4.heap.size W4 w9 := HG7.out.trans (HG9.out.mono HG7.out.size)
          have hl9 : ([48, 130, x2, y2] ++ bb).length = 0 + 4 + m := by rw [List.length_append, HBB.out.1]; rfl
          have hown : own8 w9 w7.heap.size v9 ([48, 130, x2, y2] ++ bb) := own8_of HO9.out hl9.symm (by simp [u8s])
          obtain ⟨a9, c9, hv9, -, -, -, -⟩ := own8_open hown
          rw [hl9] at hv9
          subst hv9
          have HBR := Lib.hid (br_own hown hl9 H82.out)
          have HBG := Lib.hid (HBG.out.under hw9)
          have HC := Lib.hid (HC.out.below hw9)
          have HB := Lib.hid (HB.out.trans (hw9.mono HB.out.size))
          clear hown hl9 hw9 HG5 HG6 HG7 HG8 HG9 HO5 HO6 HO8 HO9 HR7 HN7 HBB H82 HAL HM
          clear e1 e2 e3 e4 e5 k1 k2 k3 k4 k5
          generalize 0 + 4 + m = l9 at *
          refine (HBR.out.reads).mono ?_
          rintro e w10 ⟨rfl, hb⟩
          have HBG := Lib.hid (HBG.out.under hb)
          have HBR := Lib.hid (HBR.out.below hb)
          have HC := Lib.hid (HC.out.below hb)
          have HB := Lib.hid (HB.out.trans (hb.mono HB.out.size))
          clear hb
          go_wp2_with fail
          refine (HBR.out.once).mono ?_
          rintro e w11 ⟨rfl, hb⟩
          have HBG := Lib.hid (HBG.out.under hb)
          have HC := Lib.hid (HC.out.below hb)
          have HB := Lib.hid (HB.out.trans (hb.mono HB.out.size))
          clear hb
          clear HBR
          go_wp2_with fail
          refine ((br_own HBG.out HBL.out.1 HBL.out.2).items 0 (by decide) (by decide)).mono ?_
          rintro e w12 ⟨rfl, hb⟩
          have hbg := HBG.out.under hb
          have HC := Lib.hid (HC.out.below hb)
          have HB := Lib.hid (HB.out.trans (hb.mono HB.out.size))
          clear hb
          have hown : w12.ownsRow g 5 1 (.slice (some ⟨g, 0, none⟩) n n) n (u8s bl) := by
            have h := hbg
            rw [own8, HBL.out.1] at h
            exact h
          have hge : w.heap.size ≤ g := HGB.out
          have hc0 := World.ownsRow.cellAt hown 0 (by omega)
          rw [u8s_at _ 0 (by rw [HBL.out.1]; omega)] at hc0
          have hc1 := World.ownsRow.cellAt hown 1 (by omega)
          rw [u8s_at _ 1 (by rw [HBL.out.1]; omega)] at hc1
          have hf0 := World.ownsRow.frozenAt hown 0
          have hf1 := World.ownsRow.frozenAt hown 1
          have hset := own8.set (own8.set hown 0 0) 1 255
          have HBG2 : Hid (own8 ((w12.setCell ⟨g, 0, none⟩ (.int .u8 (0 : Nat))).setCell ⟨g, 1, none⟩ (.int .u8 (255 : Nat))) g (.slice (some ⟨g, 0, none⟩) n n) ((bl.set 0 0).set 1 255)) := own8_of hset (by rw [List.length_set, List.length_set, HBL.out.1]) rfl
          have HBL2 : Hid (((bl.set 0 0).set 1 255).length = n ∧ B8 ((bl.set 0 0).set 1 255)) := ⟨by rw [List.length_set, List.length_set, HBL.out.1], fun z hz => by
            rcases List.mem_or_eq_of_mem_set hz with h | h
            · rcases List.mem_or_eq_of_mem_set h with h | h
              · exact HBL.out.2 z h
              · omega
            · omega⟩
          have hch : Chg (fun k => k = g) w12 ((w12.setCell ⟨g, 0, none⟩ (.int .u8 (0 : Nat))).setCell ⟨g, 1, none⟩ (.int .u8 (255 : Nat))) := ((Chg.refl (fun k => k = g) w12).setCell (p := ⟨g, 0, none⟩) rfl _).setCell (p := ⟨g, 1, none⟩) rfl _
          have hC2 : CL ((w12.setCell ⟨g, 0, none⟩ (.int .u8 (0 : Nat))).setCell ⟨g, 1, none⟩ (.int .u8 (255 : Nat))) 3 g2 (i64s ns5) := by
            have h := hch.block g2 HC.out.lt (fun h => by have := HG2.out; omega)
            show _ = _
            rw [h]; exact HC.out
          have HC2 := Lib.hid hC2
          have HB2 := Lib.hid ((HB.out.setCell (p := ⟨g, 0, none⟩) (by show _ ≤ g; omega) (.int .u8 (0 : Nat))).setCell (p := ⟨g, 1, none⟩) (by show _ ≤ g; omega) (.int .u8 (255 : Nat)))
          clear hbg hown hset hch hC2 HBG HBL HC HB
          go_wp2_with fail
          refine ((br_own HBG2.out HBL2.out.1 HBL2.out.2).items 0 (by decide) (by decide)).mono ?_
          rintro e w13 ⟨rfl, hb⟩
          have HC := Lib.hid (HC2.out.below hb)
          have HB := Lib.hid (HB2.out.trans (hb.mono HB2.out.size))
          clear hb HC2 HB2 HBG2 HBL2 hc0 hc1 hf0 hf1
          go_wp2
          go_roundw
          case rel => exact ⟨j + 1, by omega, by go_num, HC.out, HB.out⟩
          case measure => simp [intOf]; omega
        · clear HC
          go_wp2
          go_ret
          exact ⟨rfl, HB.out⟩
end Go.Proofs.Ytkghgfiindpcjaa
