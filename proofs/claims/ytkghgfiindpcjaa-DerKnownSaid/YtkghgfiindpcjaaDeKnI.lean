import Derived.Test.YtkghgfiindpcjaaDeKn
namespace Go.Proofs.Ytkghgfiindpcjaa
open Go.RowKit
/-! DerKnown: items. -/
def lit23 : List (List Nat) := [[0], [1], [127], [128], [129], [129, 127], [129, 128], [129, 255], [130], [130, 1], [130, 0, 128], [130, 0, 255], [130, 1, 0], [130, 1, 255], [130, 2, 176], [131, 0, 1, 0], [131, 1, 0, 0], [132, 0, 0, 1, 0], [132, 127, 255, 255, 255], [132, 255, 255, 255, 255], [133, 1, 0, 0, 0, 0], [255], []]
def lit10 : List (List Nat) := [[], [0], [127], [128], [255], [0, 0], [0, 127], [0, 128], [1, 0], [0, 0, 128]]
def ns12 : List Int := [0, 1, 127, 128, 129, 255, 256, 257, 511, 688, 689, 700]
def zs10 : List Int := [-9223372036854775808, -1, 0, 1, 2, 3, 7, 8, 9, 9223372036854775807]
set_option maxHeartbeats 8000000 in
set_option maxRecDepth 100000 in
theorem items7_any (w : World) : Calls Try.prog 33 #[] w fun e w' => e = .returned (.bool true) ∧ Below w.heap.size w w' := by
  go_enter Try.func33, Try.ntmps33
  go_wp2_with (at_make; refine wpl_make8 rfl _ _ rfl w.heap.size _ _ _ _ 700 rfl rfl rfl rfl (by decide) (Nat.le_refl _) ?_)
  intro w1 hown hbl hsz
  have hrf : Rd .u8 w1 (some ⟨w.heap.size, 0, none⟩) (List.replicate 700 0) := by
    obtain ⟨a2, c2, e, _, h2, _, _⟩ := own8_open (own8_of hown (List.length_replicate ..).symm rfl)
    injection e with e1 e2 e3
    rw [e1]; exact h2
  have HB0 := Lib.hid hbl
  have hg0 := hsz
  have hl23 := lits_at lit23 w1 (by decide)
  have HF := Lib.hid (fun (W : World) (h : Below w1.heap.size w1 W) => hrf.below h)
  have HL0 := Lib.hid hl23.1
  have HB1 := Lib.hid hl23.2
  clear hown hbl hrf hl23 hsz
  go_wp2
  go_loopw [37] (fun iv wr => ∃ i : Nat, i ≤ 23 ∧ iv = .int .i64 (i : Nat) ∧ Hid (LitAt wr (w1.heap.size + 23) 23) ∧ Hid (Below w1.heap.size w1 wr)) (fun iv _ => 23 - (intOf iv).toNat)
  case atStart => exact ⟨0, Nat.zero_le _, rfl, HL0.out, HB1.out⟩
  case round =>
    clear HL0 HB1
    obtain ⟨i, hi, rfl, HL, HB⟩ := hrel
    by_cases hin : i < 23
    · have hq1 : decide ((i : Int) < 23) = true := decide_eq_true (by omega)
      obtain ⟨a, l, xs, hcell, hl16, hxl, hx8, hna, hrx⟩ := HL.out.2 i hin
      have HXL := Lib.hid hxl
      have HX8 := Lib.hid hx8
      have HNA := Lib.hid hna
      have HRX := Lib.hid hrx
      clear hxl hx8 hna hrx
      go_wp2
      have HC : Hid (CL (wr.alloc (.cells (i64s ns12).toArray 3)) 3 wr.heap.size (i64s ns12)) := CL.new wr _ _
      have hal : Below wr.heap.size wr (wr.alloc (.cells (i64s ns12).toArray 3)) := (Below.refl _ _).alloc (Nat.le_refl _) _
      have HL1 := Lib.hid (HL.out.below hal)
      have HRX1 := Lib.hid (HRX.out.below hal)
      have HB1 := Lib.hid (HB.out.trans (hal.mono HB.out.size))
      clear hal HL HRX
      generalize hg2 : wr.heap.size = g2 at *
      clear hg2
      go_loopw [43] (fun jv wr2 => ∃ j : Nat, j ≤ 12 ∧ jv = .int .i64 (j : Nat) ∧ Hid (CL wr2 3 g2 (i64s ns12)) ∧ Hid (LitAt wr2 (w1.heap.size + 23) 23) ∧ Hid (Rd .u8 wr2 a xs) ∧ Hid (Below w1.heap.size w1 wr2)) (fun jv _ => 12 - (intOf jv).toNat)
      case atStart => exact ⟨0, Nat.zero_le _, rfl, HC.out, HL1.out, HRX1.out, HB1.out⟩
      case round =>
        clear HC HL1 HRX1 HB1 HB
        obtain ⟨j, hj, rfl, HC, HL, HRX, HB⟩ := hrel
        obtain ⟨wr2, hwr2⟩ : ∃ W, W = wr := ⟨_, rfl⟩
        rw [← hwr2] at HC HL HRX HB ⊢
        clear hwr2
        by_cases hjn : j < 12
        · have hcl : wr2.cell? ⟨g2, j, none⟩ = some (.int .i64 ns12[j]) := by rw [HC.out.cell]; exact i64s_at _ _ hjn
          have hnr := all_in (l := ns12) (a := 0) (b := 700) (by decide) j hjn
          obtain ⟨n, hn⟩ : ∃ n : Nat, ns12[j] = (n : Int) := ⟨ns12[j].toNat, by omega⟩
          rw [hn] at hcl hnr
          have hn700 : n ≤ 700 := by omega
          have hB1 : w1.heap.size ≤ wr2.heap.size := HB.out.size
          have q1 : (0 : Int) ≤ (n : Int) := by omega
          have q2 : (n : Int) ≤ 700 := by omega
          have hW : Below wr2.heap.size wr2 (wr2.alloc (.cells #[.int .u8 48] 5)) := (Below.refl _ _).alloc (Nat.le_refl _) _
          clear hn hnr
          go_wp2_with (first
            | (at_builtin; refine wpl_appN 22 5 Try.underlying22 info8 rfl (by decide) rfl _ _ rfl wr2.heap.size (.slice none 0 0) 0 [] rfl (World.ownsRow_nil _ _ _ _) (some ⟨wr2.heap.size, 0, none⟩) 1 1 rfl (u8s [48]) rfl (fun _ => (rd_lit8 (w := wr2) 5 [48] #[.int .u8 48] rfl).news (by decide)) (fun h => by cases h) (u8s_one8 _) (by decide) (by simp) ?_; intro v3 w3 hown3 hg3 _ _; have HG3 := Lib.hid (hW.grown hg3 (by simp) (fun q hq => by cases hq)); have HO3 := Lib.hid hown3; have HRX3 := Lib.hid (HRX.out.below HG3.out); clear hown3 hg3)
            | (at_builtin; refine wpl_appN 22 5 Try.underlying22 info8 rfl (by decide) rfl _ _ rfl wr2.heap.size v3 (0 + 1) ([] ++ u8s [48]) rfl HO3.out a l l rfl (u8s xs) (by rw [u8s_len, HXL.out]) (fun h => (HRX3.out).news (by rw [HXL.out]; exact h)) (fun _ h => HNA.out h) (u8s_one8 _) (by omega) HG3.out.size ?_; intro v4 w4 hown4 hg4 _ _; have HO4 := Lib.hid hown4; have HG4 := Lib.hid (HG3.out.grown hg4 HG3.out.size (fun q hq => (World.ownsRow.lt HO3.out q hq).1)); clear hown4 hg4)
            | (at_builtin; refine wpl_appN 22 5 Try.underlying22 info8 rfl (by decide) rfl _ _ rfl wr2.heap.size v4 (0 + 1 + l) ([] ++ u8s [48] ++ u8s xs) rfl HO4.out (some ⟨w.heap.size, 0, none⟩) n 700 rfl (u8s ((List.replicate 700 0).take n)) (by rw [u8s_len, List.length_take, List.length_replicate]; omega) (fun h => ((HF.out _ (HB.out.trans (HG4.out.mono HB.out.size))).take n).news (by rw [List.length_take, List.length_replicate]; omega)) (fun _ h => by cases h) (u8s_one8 _) (by omega) HG4.out.size ?_; intro v5 w5 hown5 hg5 _ _; have HO5 := Lib.hid hown5; have HG5 := Lib.hid (HG4.out.grown hg5 HG4.out.size (fun q hq => (World.ownsRow.lt HO4.out q hq).1)); clear hown5 hg5))
          have hz8 : B8 ([48] ++ xs ++ (List.replicate 700 0).take n) := by
            intro x hx
            rcases List.mem_append.1 hx with hx | hx
            · rcases List.mem_append.1 hx with hx | hx
              · simp at hx; omega
              · exact HX8.out x hx
            · rw [List.eq_of_mem_replicate (List.mem_of_mem_take hx)]; decide
          have hzl : ([48] ++ xs ++ (List.replicate 700 0).take n).length = 0 + 1 + l + n := by
            rw [List.length_append, List.length_append, List.length_take, List.length_replicate, HXL.out, List.length_singleton]; omega
          have hown : own8 w5 wr2.heap.size v5 ([48] ++ xs ++ (List.replicate 700 0).take n) := own8_of HO5.out hzl.symm (by simp [u8s])
          obtain ⟨a5, c5, hv5, -, -, -, -⟩ := own8_open hown
          rw [hzl] at hv5
          subst hv5
          have HBR := Lib.hid (br_own hown hzl hz8)
          have HC := Lib.hid (HC.out.below HG5.out)
          have HL := Lib.hid (HL.out.below HG5.out)
          have HRX := Lib.hid (HRX.out.below HG5.out)
          have HB := Lib.hid (HB.out.trans (HG5.out.mono HB.out.size))
          clear hown hzl hz8 hW HG3 HG4 HG5 HO3 HO4 HO5 HRX3
          generalize 0 + 1 + l + n = l5 at *
          refine (HBR.out.items 0 (by decide) (by decide)).mono ?_
          rintro e w6 ⟨rfl, hb⟩
          have HBR := Lib.hid (HBR.out.below hb)
          have HC := Lib.hid (HC.out.below hb)
          have HL := Lib.hid (HL.out.below hb)
          have HRX := Lib.hid (HRX.out.below hb)
          have HB := Lib.hid (HB.out.trans (hb.mono HB.out.size))
          clear hb
          go_wp2_with fail
          refine (HBR.out.items 1 (by decide) (by decide)).mono ?_
          rintro e w7 ⟨rfl, hb⟩
          have HBR := Lib.hid (HBR.out.below hb)
          have HC := Lib.hid (HC.out.below hb)
          have HL := Lib.hid (HL.out.below hb)
          have HRX := Lib.hid (HRX.out.below hb)
          have HB := Lib.hid (HB.out.trans (hb.mono HB.out.size))
          clear hb
          go_wp2_with fail
          refine (HBR.out.reads).mono ?_
          rintro e w8 ⟨rfl, hb⟩
          have HBR := Lib.hid (HBR.out.below hb)
          have HC := Lib.hid (HC.out.below hb)
          have HL := Lib.hid (HL.out.below hb)
          have HRX := Lib.hid (HRX.out.below hb)
          have HB := Lib.hid (HB.out.trans (hb.mono HB.out.size))
          clear hb
          go_wp2_with fail
          refine (HBR.out.lies 0 1 (by decide) (by decide) (by decide)).mono ?_
          rintro e w9 ⟨rfl, hb⟩
          have HC := Lib.hid (HC.out.below hb)
          have HL := Lib.hid (HL.out.below hb)
          have HRX := Lib.hid (HRX.out.below hb)
          have HB := Lib.hid (HB.out.trans (hb.mono HB.out.size))
          clear hb
          clear HBR
          go_wp2
          go_roundw
          case rel => exact ⟨j + 1, by omega, by go_num, HC.out, HL.out, HRX.out, HB.out⟩
          case measure => simp [intOf]; omega
        · clear HC HRX
          go_wp2
          go_roundw
          case rel => exact ⟨i + 1, by omega, by go_num, HL.out, HB.out⟩
          case measure => simp [intOf]; omega
    · have hq1 : decide ((i : Int) < 23) = false := decide_eq_false (by omega)
      clear HL
      go_wp2
      have HC : Hid (CL (wr.alloc (.cells (i64s zs10).toArray 3)) 3 wr.heap.size (i64s zs10)) := CL.new wr _ _
      have hal : Below wr.heap.size wr (wr.alloc (.cells (i64s zs10).toArray 3)) := (Below.refl _ _).alloc (Nat.le_refl _) _
      have HB1 := Lib.hid (HB.out.trans (hal.mono HB.out.size))
      clear hal HB
      generalize hg2 : wr.heap.size = g2 at *
      clear hg2
      go_loopw [80] (fun jv wr2 => ∃ j : Nat, j ≤ 10 ∧ jv = .int .i64 (j : Nat) ∧ Hid (CL wr2 3 g2 (i64s zs10)) ∧ Hid (Below w1.heap.size w1 wr2)) (fun jv _ => 10 - (intOf jv).toNat)
      case atStart => exact ⟨0, Nat.zero_le _, rfl, HC.out, HB1.out⟩
      case round =>
        clear HC HB1
        obtain ⟨j, hj, rfl, HC, HB⟩ := hrel
        obtain ⟨wr2, hwr2⟩ : ∃ W, W = wr := ⟨_, rfl⟩
        rw [← hwr2] at HC HB ⊢
        clear hwr2
        by_cases hjn : j < 10
        · have hcl : wr2.cell? ⟨g2, j, none⟩ = some (.int .i64 zs10[j]) := by rw [HC.out.cell]; exact i64s_at _ _ hjn
          have hnr := all_in (l := zs10) (a := -9223372036854775808) (b := 9223372036854775807) (by decide) j hjn
          generalize zs10[j] = z at hcl hnr
          have HZ := Lib.hid hnr
          have hW : Below wr2.heap.size wr2 (wr2.alloc (.cells (u8s [48, 6, 2, 1, 5, 2, 1, 3]).toArray 5)) := (Below.refl _ _).alloc (Nat.le_refl _) _
          have HBR : Hid (BR (wr2.alloc (.cells (u8s [48, 6, 2, 1, 5, 2, 1, 3]).toArray 5)) (some ⟨wr2.heap.size, 0, none⟩) 8 8) := ⟨[48, 6, 2, 1, 5, 2, 1, 3], rfl, by decide, by decide, (fun h => by cases h), (fun x hx => by simp at hx; omega), rd_lit8 5 _ _ rfl⟩
          have HC := Lib.hid (HC.out.below hW)
          have HB := Lib.hid (HB.out.trans (hW.mono HB.out.size))
          clear hnr hW
          go_wp2_with fail
          refine (HBR.out.items z HZ.out.1 HZ.out.2).mono ?_
          rintro e w6 ⟨rfl, hb⟩
          have HC := Lib.hid (HC.out.below hb)
          have HB := Lib.hid (HB.out.trans (hb.mono HB.out.size))
          clear hb
          clear HBR
          go_wp2
          go_roundw
          case rel => exact ⟨j + 1, by omega, by go_num, HC.out, HB.out⟩
          case measure => simp [intOf]; omega
        · have hq2 : decide ((j : Int) < 10) = false := decide_eq_false (by omega)
          clear HC
          have hl10 := lits_at lit10 wr2 (by decide)
          have HL0 := Lib.hid hl10.1
          have HB1 := Lib.hid (HB.out.trans (hl10.2.mono HB.out.size))
          clear hl10
          go_wp2
          generalize hg3 : wr2.heap.size + 10 = g3 at *
          go_loopw [101] (fun kv wr3 => ∃ k : Nat, k ≤ 10 ∧ kv = .int .i64 (k : Nat) ∧ Hid (LitAt wr3 g3 10) ∧ Hid (Below w1.heap.size w1 wr3)) (fun kv _ => 10 - (intOf kv).toNat)
          case atStart =>
            subst hg3
            exact ⟨0, Nat.zero_le _, rfl, HL0.out, HB1.out⟩
          case round =>
            clear HL0 HB1 HB
            obtain ⟨k, hk, rfl, HL, HB⟩ := hrel
            by_cases hkn : k < 10
            · obtain ⟨a, l, xs, hcell, hl16, hxl, hx8, hna, hrx⟩ := HL.out.2 k hkn
              have HBR := Lib.hid (show BR _ a l l from ⟨xs, hxl, Nat.le_refl _, by omega, hna, hx8, hrx⟩)
              clear hxl hx8 hna hrx
              go_wp2_with fail
              refine (HBR.out.items 0 (by decide) (by decide)).mono ?_
              rintro e w6 ⟨rfl, hb⟩
              have HL := Lib.hid (HL.out.below hb)
              have HB := Lib.hid (HB.out.trans (hb.mono HB.out.size))
              clear hb
              clear HBR
              go_wp2
              go_roundw
              case rel => exact ⟨k + 1, by omega, by go_num, HL.out, HB.out⟩
              case measure => simp [intOf]; omega
            · clear HL
              go_wp2_with fail
              refine (works7_any _).mono ?_
              rintro e w6 ⟨rfl, hb⟩
              have HB := Lib.hid (HB.out.trans (hb.mono HB.out.size))
              clear hb
              go_wp2
              go_ret
              exact ⟨rfl, HB0.out.trans (HB.out.mono HB0.out.size)⟩
end Go.Proofs.Ytkghgfiindpcjaa
