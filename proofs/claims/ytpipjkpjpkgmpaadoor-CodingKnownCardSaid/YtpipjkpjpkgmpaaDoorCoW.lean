import Derived.Test.YtpipjkpjpkgmpaaDoorCoPR
import Derived.Test.YtpipjkpjpkgmpaaDoorCoQ
import Derived.Test.YtpipjkpjpkgmpaaDoorCoST
import Derived.OrdersHeld
import Derived.Lib.ConvBytes
import Derived.Deep.RegionHeld3
namespace Go.Proofs.YtpipjkpjpkgmpaaDoor
open Go.RowKit

def strs (L : List ByteArray) : List Value := L.map Value.string
theorem strs_at (L : List ByteArray) (i : Nat) (h : i < L.length) : (strs L)[i]? = some (.string L[i]) := by simp [strs, h]
/-- A text as bytes. -/
theorem conv_bytes (w : World) (s : ByteArray) : ∃ cap w', (∀ dst, Tryd.prog.underlying dst = some (.slice 5) → (convert 9 dst (.string s)).run Tryd.prog w = .ok (.slice (some ⟨w.heap.size, 0, none⟩) s.size cap) w') ∧ s.size ≤ cap ∧ (s.size ≤ maxLen → cap ≤ maxLen) ∧ Rd .u8 w' (some ⟨w.heap.size, 0, none⟩) (bsN s) ∧ Below w.heap.size w w' := by
  refine ⟨grownCap w s.size 0 5, Lib.bytesWorld w 5 s, fun dst hd => Lib.run_convert_string_bytes w 9 dst 5 s Tryd.underlying9 hd Tryd.underlying5, grownCap_ge _ _ _ _, fun h => grownCap_le_maxLen _ _ _ _ h, fun j hj => ⟨_, 0, rfl, fun i hi => ?_⟩, ⟨?_, ?_, ?_, ?_, fun i hi => Lib.bytesWorld_at_old w 5 s i hi⟩⟩
  · rw [bsN_len] at hi
    rw [Nat.zero_add, Lib.bytesWorld_cell w 5 s i hi]
    simp [bsN, List.getD, hi]
  · unfold Lib.bytesWorld World.freeze; split <;> rfl
  · unfold Lib.bytesWorld World.freeze; split <;> rfl
  · unfold Lib.bytesWorld World.freeze; split <;> rfl
  · rw [Lib.bytesWorld_size]; omega
def Tab2 (w : World) (W : World) : Prop := Below w.heap.size w W → HT W ∧ BT W
theorem k_reads (s : ByteArray) (W : World) (hs : s.size ≤ 4096) (h : HT W ∧ BT W) : Calls Tryd.prog 6 #[.string s] W fun e w' => e = .returned (.bool true) ∧ Below W.heap.size W w' := codingReads_any s W (Nat.le_trans hs (by decide)) h.1 h.2
theorem k_once (s : ByteArray) (W : World) (hs : s.size ≤ 4096) (h : HT W ∧ BT W) : Calls Tryd.prog 8 #[.string s] W fun e w' => e = .returned (.bool true) ∧ Below W.heap.size W w' := codingOnce_any s W (Nat.le_trans hs (by decide)) h.1 h.2

def knownL : List ByteArray := [⟨#[]⟩, ⟨#[48, 48, 102, 70, 49, 65]⟩, ⟨#[48]⟩, ⟨#[48, 103]⟩, ⟨#[48, 120]⟩, ⟨#[32, 48, 48]⟩, ⟨#[48, 48, 32]⟩, ⟨#[84, 81, 61, 61]⟩, ⟨#[84, 87, 69, 61]⟩, ⟨#[84, 87, 70, 117]⟩, ⟨#[84, 82, 61, 61]⟩, ⟨#[84, 81, 61]⟩, ⟨#[84, 81]⟩, ⟨#[84, 61, 61, 61]⟩, ⟨#[84, 81, 61, 61, 84, 81, 61, 61]⟩, ⟨#[84, 87, 45, 117]⟩, ⟨#[84, 87, 70, 117, 10]⟩, ⟨#[61, 61, 61, 61]⟩, ⟨#[61]⟩, ⟨#[61, 61]⟩, ⟨#[84, 61, 81, 61]⟩, ⟨#[84, 87, 70, 61, 117, 61, 61, 61]⟩, ⟨#[84, 81, 61, 61, 0, 0, 0, 0]⟩, ⟨#[84, 87, 70, 117, 84, 87, 70, 61]⟩, ⟨#[84, 87, 70, 117, 84, 87, 71, 61]⟩, ⟨#[65, 65, 65, 65]⟩, ⟨#[47, 47, 47, 47]⟩, ⟨#[195, 164, 97, 97]⟩, ⟨#[48, 217, 160]⟩]
theorem knownL_small : ∀ s ∈ knownL, s.size ≤ 4096 := by
  have : knownL.all (fun s => decide (s.size ≤ 4096)) = true := by rfl
  intro s hs
  simpa using List.all_eq_true.1 this s hs

def twoL : List ByteArray := [⟨#[84, 87, 70, 117, 84, 87, 69, 61]⟩, ⟨#[84, 87, 70, 117, 84, 81, 61, 61]⟩]
theorem twoL_8 : ∀ s ∈ twoL, s.size = 8 := by
  have : twoL.all (fun s => decide (s.size = 8)) = true := by rfl
  intro s hs
  simpa using List.all_eq_true.1 this s hs

set_option maxHeartbeats 2000000 in
set_option maxRecDepth 100000 in
theorem codingKnown_any (w : World) (hH : HT w) (hB : BT w) :
    Calls Tryd.prog 9 #[] w fun e w' => e = .returned (.bool true) ∧ Below w.heap.size w w' := by
  have HT0 : Hid (∀ W, Below w.heap.size w W → HT W ∧ BT W) := fun W h => ⟨hH.below h, hB.below h⟩
  clear hH hB
  go_enter Tryd.func9, Tryd.ntmps9
  go_wp2
  have C1 : Hid (CB (w.alloc (.cells (strs knownL).toArray 9)) 9 w.heap.size (strs knownL)) := CB.new w _ _
  have HB1 : Hid (Below w.heap.size w (w.alloc (.cells (strs knownL).toArray 9))) := (Below.refl _ _).alloc (Nat.le_refl _) _
  go_loopw [13] (fun iv wr => ∃ i : Nat, i ≤ 29 ∧ iv = .int .i64 (i : Nat) ∧ Hid (CB wr 9 w.heap.size (strs knownL)) ∧ Hid (Below w.heap.size w wr)) (fun iv _ => 29 - (intOf iv).toNat)
  case atStart => exact ⟨0, Nat.zero_le _, rfl, C1.out, HB1.out⟩
  case round =>
    clear C1 HB1
    obtain ⟨i, hi, rfl, HC, HB⟩ := hrel
    by_cases hin : i < 29
    · have hil : i < knownL.length := hin
      have hcell : wr.cell? ⟨w.heap.size, i, none⟩ = some (.string knownL[i]) := by rw [HC.out.cell]; exact strs_at _ _ hil
      have hsz : knownL[i].size ≤ 4096 := knownL_small _ (List.getElem_mem hil)
      have HSZ := Lib.hid hsz
      generalize knownL[i] = s at hcell HSZ
      clear hsz hil
      go_wp2_with fail
      refine (k_reads s _ HSZ.out (HT0.out _ HB.out)).mono ?_
      rintro e W9 ⟨rfl, hb⟩
      have HC := Lib.hid (HC.out.below hb)
      have HB := Lib.hid (HB.out.trans (hb.mono HB.out.size))
      clear hb
      go_wp2_with fail
      refine (k_once s _ HSZ.out (HT0.out _ HB.out)).mono ?_
      rintro e W10 ⟨rfl, hb⟩
      have HC := Lib.hid (HC.out.below hb)
      have HB := Lib.hid (HB.out.trans (hb.mono HB.out.size))
      clear hb
      go_wp2
      go_roundw
      case rel => exact ⟨i + 1, by omega, by go_num, HC.out, HB.out⟩
      case measure => simp [intOf]; omega
    · clear HC
      go_wp2
      go_loopw [3] (fun cv wr => ∃ c : Nat, c ≤ 256 ∧ cv = .int .i64 (c : Nat) ∧ Hid (Below w.heap.size w wr)) (fun cv _ => 256 - (intOf cv).toNat)
      case atStart => exact ⟨0, Nat.zero_le _, rfl, HB.out⟩
      case round =>
        clear HB hin hi
        obtain ⟨c, hc, rfl, HB⟩ := hrel
        by_cases hc6 : c < 256
        · obtain ⟨d1, hd1⟩ : ∃ d, d = 255 - c := ⟨_, rfl⟩
          obtain ⟨d2, hd2⟩ : ∃ d, d = c * 7 % 256 := ⟨_, rfl⟩
          have e1 : IntKind.u8.wrap (c : Int) = (c : Int) := wrap_u8_in c hc6
          have e2 : (255 : Int) - (c : Int) = (d1 : Int) := by omega
          have e3 : IntKind.u8.wrap (d1 : Int) = (d1 : Int) := wrap_u8_in d1 (by omega)
          have e4 : IntKind.u8.wrap ((c : Int) * 7) = (d2 : Int) := by
            rw [show IntKind.u8.wrap ((c : Int) * 7) = ((c : Int) * 7) % 256 from by simp [IntKind.wrap, IntKind.signed, IntKind.bits]]; omega
          have e5 : ((c : Int) * 7) % 256 = (d2 : Int) := by omega
          have hdd1 : d1 < 256 := by omega
          have hdd2 : d2 < 256 := by omega
          have hwr := HB.out.size
          have hv1 := conv_lit1 wr 5 c
          obtain ⟨S1, hS1⟩ : ∃ S, S = strN [c] := ⟨_, rfl⟩
          rw [← hS1] at hv1
          have hs1 : S1.size = 1 := by rw [hS1, strN_size]; rfl
          have HBS : Hid (bsN S1 = [c]) := by show _ = _; rw [hS1, bsN_strN (fun x hx => by simp at hx; omega)]
          have HS1 := Lib.hid hs1
          clear hS1 hd1 hd2
          go_upto_region 11 with fail
          clear hv1
          have HB := Lib.hid (HB.out.alloc hwr (.cells #[.int .u8 (c : Nat)] 5))
          generalize wr.alloc (.cells #[.int .u8 (c : Nat)] 5) = W1 at *
          obtain ⟨cp, W2, hcv, hcp, hcpm, hR2, hb2⟩ := conv_bytes W1 S1
          rw [HBS.out] at hR2
          have HR2 := Lib.hid hR2
          have HCV := Lib.hid hcpm
          have HB2 := Lib.hid (HB.out.trans (hb2.mono HB.out.size))
          have HCP := Lib.hid hcp
          clear hR2 hcpm hb2 hcp
          go_wp2_with fail
          refine (codingTells_any (some ⟨W1.heap.size, 0, none⟩) 1 cp [c] _ rfl (by have := HCP.out; omega) (HCV.out (by rw [HS1.out]; decide)) (fun h => by cases h) (fun x hx => by simp at hx; omega) HR2.out (HT0.out _ HB2.out).1 (HT0.out _ HB2.out).2).mono ?_
          rintro e W9 ⟨rfl, hb⟩
          have HB2 := Lib.hid (HB2.out.trans (hb.mono HB2.out.size))
          clear hb
          have HB3 : Hid (Below w.heap.size w (W9.alloc (.cells #[.int .u8 (c : Nat), .int .u8 (d1 : Nat), .int .u8 (d2 : Nat)] 5))) := HB2.out.alloc HB2.out.size _
          go_wp2_with fail
          refine (codingTells_any (some ⟨W9.heap.size, 0, none⟩) 3 3 [c, d1, d2] _ rfl (by decide) (by decide) (fun h => by cases h) (fun x hx => by simp at hx; omega) (Rd.lit8 _ _ _ rfl) (HT0.out _ HB3.out).1 (HT0.out _ HB3.out).2).mono ?_
          rintro e W10 ⟨rfl, hb⟩
          have HB2 := Lib.hid (HB3.out.trans (hb.mono HB3.out.size))
          clear hb HB3
          have HB3 : Hid (Below w.heap.size w (W10.alloc (.cells #[.int .u8 (c : Nat), .int .u8 (c : Nat)] 5))) := HB2.out.alloc HB2.out.size _
          go_wp2_with fail
          refine (codingBack_any (some ⟨W10.heap.size, 0, none⟩) 2 2 [c, c] (c : Int) _ rfl (by decide) (by decide) (fun h => by cases h) (fun x hx => by simp at hx; omega) (Rd.lit8 _ _ _ rfl) (by omega) (by omega) (HT0.out _ HB3.out).1 (HT0.out _ HB3.out).2).mono ?_
          rintro e W11 ⟨rfl, hb⟩
          have HB2 := Lib.hid (HB3.out.trans (hb.mono HB3.out.size))
          clear hb HB3
          have hs1 := HS1.out
          have hsa : (⟨#[97]⟩ ++ S1 : ByteArray).size ≤ 4096 := by rw [ByteArray.size_append, hs1]; decide
          have hsb : (S1 ++ ⟨#[48]⟩ : ByteArray).size ≤ 4096 := by rw [ByteArray.size_append, hs1]; decide
          have HSA := Lib.hid hsa
          have HSB := Lib.hid hsb
          clear hsa hsb
          go_wp2_with fail
          refine (k_reads _ _ HSA.out (HT0.out _ HB2.out)).mono ?_
          rintro e W9 ⟨rfl, hb⟩
          have HB2 := Lib.hid (HB2.out.trans (hb.mono HB2.out.size))
          clear hb
          go_wp2_with fail
          refine (k_reads _ _ HSB.out (HT0.out _ HB2.out)).mono ?_
          rintro e W9 ⟨rfl, hb⟩
          have HB2 := Lib.hid (HB2.out.trans (hb.mono HB2.out.size))
          clear hb
          clear HR2 HCV HCP HSA HSB hcv e1 e2 e3 e4 e5 hdd1 hdd2
          generalize W9 = W12 at *
          go_wp2
          have C1 : Hid (CB (W12.alloc (.cells (strs twoL).toArray 9)) 9 W12.heap.size (strs twoL)) := CB.new W12 _ _
          have HB3 : Hid (Below w.heap.size w (W12.alloc (.cells (strs twoL).toArray 9))) := HB2.out.alloc HB2.out.size _
          obtain ⟨G, hG⟩ : ∃ G, G = W12.heap.size := ⟨_, rfl⟩
          rw [← hG] at C1
          go_loopw [75] (fun iv wr => ∃ j : Nat, j ≤ 2 ∧ iv = .int .i64 (j : Nat) ∧ Hid (CB wr 9 G (strs twoL)) ∧ Hid (Below w.heap.size w wr)) (fun iv _ => 2 - (intOf iv).toNat)
          case atStart => exact ⟨0, Nat.zero_le _, rfl, C1.out, HB3.out⟩
          case round =>
            clear C1 HB3 HB2 HB
            rw [← hG]
            clear hG
            obtain ⟨j, hj, rfl, HC, HB⟩ := hrel
            by_cases hj2 : j < 2
            · have hil : j < twoL.length := hj2
              have hcell : wr.cell? ⟨G, j, none⟩ = some (.string twoL[j]) := by rw [HC.out.cell]; exact strs_at _ _ hil
              have hs8 : twoL[j].size = 8 := twoL_8 _ (List.getElem_mem hil)
              generalize twoL[j] = s8 at hcell hs8
              obtain ⟨r, hr⟩ : ∃ r, r = c % 8 := ⟨_, rfl⟩
              have f1 : (c : Int) % 8 = (r : Int) := by omega
              have hr8 : r < 8 := by omega
              obtain ⟨q, hqq⟩ : ∃ q, q = 7 - r := ⟨_, rfl⟩
              obtain ⟨q1, hqq1⟩ : ∃ q, q = 8 - r := ⟨_, rfl⟩
              have f3 : (7 : Int) - (r : Int) = (q : Int) := by omega
              have f4 : (8 : Int) - (r : Int) = (q1 : Int) := by omega
              have f5 : IntKind.i64.wrap ((7 : Int) - (r : Int)) = (q : Int) := by rw [f3]; exact wrap_i64_nat q (by omega)
              have f6 : IntKind.i64.wrap ((8 : Int) - (r : Int)) = (q1 : Int) := by rw [f4]; exact wrap_i64_nat q1 (by omega)
              have f9 : IntKind.i64.wrap (q : Int) = (q : Int) := wrap_i64_nat q (by omega)
              have f10 : IntKind.i64.wrap (q1 : Int) = (q1 : Int) := wrap_i64_nat q1 (by omega)
              have f7 : IntKind.i64.wrap ((r : Int) + 1) = (r : Int) + 1 := by
                have := wrap_i64_nat (r + 1) (by omega)
                rwa [show ((r + 1 : Nat) : Int) = (r : Int) + 1 by omega] at this
              have f8 : ((r : Int) + 1).toNat = r + 1 := by omega
              have g1 : (r : Int) ≤ 8 := by omega
              have g2 : (r : Int) + 1 ≤ 8 := by omega
              have g3 : (q : Int) ≤ 8 := by omega
              have g4 : (q1 : Int) ≤ 8 := by omega
              have g5 : (0 : Int) ≤ (r : Int) := by omega
              have g6 : (0 : Int) ≤ (q : Int) := by omega
              have g7 : (0 : Int) ≤ (q1 : Int) := by omega
              have g8 : (0 : Int) ≤ (r : Int) + 1 := by omega
              have hq8 : q < 8 := by omega
              have hs1 := HS1.out
              obtain ⟨A1, hA1⟩ : ∃ X : ByteArray, s8.extract 0 r = X := ⟨_, rfl⟩
              have zA1 : A1.size ≤ 8 := by rw [← hA1]; rw [ByteArray.size_extract]; omega
              obtain ⟨A2, hA2⟩ : ∃ X : ByteArray, A1 ++ S1 = X := ⟨_, rfl⟩
              have zA2 : A2.size ≤ 16 := by rw [← hA2]; rw [ByteArray.size_append]; omega
              obtain ⟨A3, hA3⟩ : ∃ X : ByteArray, s8.extract (r + 1) 8 = X := ⟨_, rfl⟩
              have zA3 : A3.size ≤ 8 := by rw [← hA3]; rw [ByteArray.size_extract]; omega
              obtain ⟨A4, hA4⟩ : ∃ X : ByteArray, A2 ++ A3 = X := ⟨_, rfl⟩
              have zA4 : A4.size ≤ 32 := by rw [← hA4]; rw [ByteArray.size_append]; omega
              obtain ⟨B1, hB1⟩ : ∃ X : ByteArray, s8.extract 0 q = X := ⟨_, rfl⟩
              have zB1 : B1.size ≤ 8 := by rw [← hB1]; rw [ByteArray.size_extract]; omega
              obtain ⟨B2, hB2⟩ : ∃ X : ByteArray, B1 ++ S1 = X := ⟨_, rfl⟩
              have zB2 : B2.size ≤ 16 := by rw [← hB2]; rw [ByteArray.size_append]; omega
              obtain ⟨B3, hB3⟩ : ∃ X : ByteArray, s8.extract q1 8 = X := ⟨_, rfl⟩
              have zB3 : B3.size ≤ 8 := by rw [← hB3]; rw [ByteArray.size_extract]; omega
              obtain ⟨B4, hB4⟩ : ∃ X : ByteArray, B2 ++ B3 = X := ⟨_, rfl⟩
              have zB4 : B4.size ≤ 32 := by rw [← hB4]; rw [ByteArray.size_append]; omega
              obtain ⟨C1, hC1⟩ : ∃ X : ByteArray, s8.extract 0 4 = X := ⟨_, rfl⟩
              have zC1 : C1.size ≤ 8 := by rw [← hC1]; rw [ByteArray.size_extract]; omega
              obtain ⟨C2, hC2⟩ : ∃ X : ByteArray, C1 ++ S1 = X := ⟨_, rfl⟩
              have zC2 : C2.size ≤ 16 := by rw [← hC2]; rw [ByteArray.size_append]; omega
              obtain ⟨C3, hC3⟩ : ∃ X : ByteArray, s8.extract 5 8 = X := ⟨_, rfl⟩
              have zC3 : C3.size ≤ 8 := by rw [← hC3]; rw [ByteArray.size_extract]; omega
              obtain ⟨C4, hC4⟩ : ∃ X : ByteArray, C2 ++ C3 = X := ⟨_, rfl⟩
              have zC4 : C4.size ≤ 32 := by rw [← hC4]; rw [ByteArray.size_append]; omega
              obtain ⟨D1, hD1⟩ : ∃ X : ByteArray, s8.extract 0 7 = X := ⟨_, rfl⟩
              have zD1 : D1.size ≤ 8 := by rw [← hD1]; rw [ByteArray.size_extract]; omega
              obtain ⟨D2, hD2⟩ : ∃ X : ByteArray, D1 ++ S1 = X := ⟨_, rfl⟩
              have zD2 : D2.size ≤ 16 := by rw [← hD2]; rw [ByteArray.size_append]; omega
              obtain ⟨E1, hE1⟩ : ∃ X : ByteArray, s8.extract 0 6 = X := ⟨_, rfl⟩
              have zE1 : E1.size ≤ 8 := by rw [← hE1]; rw [ByteArray.size_extract]; omega
              obtain ⟨E2, hE2⟩ : ∃ X : ByteArray, E1 ++ S1 = X := ⟨_, rfl⟩
              have zE2 : E2.size ≤ 16 := by rw [← hE2]; rw [ByteArray.size_append]; omega
              obtain ⟨E3, hE3⟩ : ∃ X : ByteArray, s8.extract 7 8 = X := ⟨_, rfl⟩
              have zE3 : E3.size ≤ 8 := by rw [← hE3]; rw [ByteArray.size_extract]; omega
              obtain ⟨E4, hE4⟩ : ∃ X : ByteArray, E2 ++ E3 = X := ⟨_, rfl⟩
              have zE4 : E4.size ≤ 32 := by rw [← hE4]; rw [ByteArray.size_append]; omega
              have nA1 : ¬ (9223372036854775807 < A1.size + 1) := by omega
              have nA2 : ¬ (9223372036854775807 < A2.size + A3.size) := by omega
              have nB1 : ¬ (9223372036854775807 < B1.size + 1) := by omega
              have nB2 : ¬ (9223372036854775807 < B2.size + B3.size) := by omega
              have nC1 : ¬ (9223372036854775807 < C1.size + 1) := by omega
              have nC2 : ¬ (9223372036854775807 < C2.size + C3.size) := by omega
              have nD1 : ¬ (9223372036854775807 < D1.size + 1) := by omega
              have nE1 : ¬ (9223372036854775807 < E1.size + 1) := by omega
              have nE2 : ¬ (9223372036854775807 < E2.size + E3.size) := by omega
              clear hr hqq hqq1 hil
              go_upto_region 17 with fail
              refine wp_region_held (S := fun _ => True) (by kernel_rfl) ?_
              change wpAnyH _ _ _ _ _ _ _ _ (World.drew _)
              have HB : Hid (Below w.heap.size w (World.drew wr)) := HB.out.drew
              have HC : Hid (CB (World.drew wr) 9 G (strs twoL)) := HC.out
              have HSS : Hid True := trivial
              refine wpAnyH_take (i := 0) (v := ?_) rfl (by kernel_rfl) (by kernel_rfl) (by kernel_rfl) (fun _ _ _ h => h) (Or.inl ⟨by rfl, ?_⟩) HSS.out ?_
              case refine_2 => (rintro W c0; go_simp; try (with_reducible rfl))
              refine wpAnyH_take (i := 1) (v := ?_) rfl (by kernel_rfl) (by kernel_rfl) (by kernel_rfl) (fun _ _ _ h => h) (Or.inl ⟨by rfl, ?_⟩) HSS.out ?_
              case refine_2 => (rintro W c0; go_simp; try (with_reducible rfl))
              refine wpAnyH_take (i := 2) (v := ?_) rfl (by kernel_rfl) (by kernel_rfl) (by kernel_rfl) (fun _ _ _ h => h) (Or.inl ⟨by rfl, ?_⟩) HSS.out ?_
              case refine_2 => (rintro W c0; go_simp; try (with_reducible rfl))
              go_simp
              refine wpAnyH_take (i := 3) (v := ?_) rfl (by kernel_rfl) (by kernel_rfl) (by kernel_rfl) (fun _ _ _ h => h) (Or.inl ⟨by rfl, ?_⟩) HSS.out ?_
              case refine_2 => (rintro W c0; go_simp; try (with_reducible rfl))
              refine wpAnyH_take (i := 4) (v := ?_) rfl (by kernel_rfl) (by kernel_rfl) (by kernel_rfl) (fun _ _ _ h => h) (Or.inl ⟨by rfl, ?_⟩) HSS.out ?_
              case refine_2 => (rintro W c0; go_simp; try (with_reducible rfl))
              refine wpAnyH_take (i := 5) (v := ?_) rfl (by kernel_rfl) (by kernel_rfl) (by kernel_rfl) (fun _ _ _ h => h) (Or.inl ⟨by rfl, ?_⟩) HSS.out ?_
              case refine_2 => (rintro W c0; go_simp; try (with_reducible rfl))
              go_simp
              refine wpAnyH_take (i := 6) (v := ?_) rfl (by kernel_rfl) (by kernel_rfl) (by kernel_rfl) (fun _ _ _ h => h) (Or.inl ⟨by rfl, ?_⟩) HSS.out ?_
              case refine_2 => (rintro W c0; go_simp; try (with_reducible rfl))
              refine wpAnyH_take (i := 7) (v := ?_) rfl (by kernel_rfl) (by kernel_rfl) (by kernel_rfl) (fun _ _ _ h => h) (Or.inl ⟨by rfl, ?_⟩) HSS.out ?_
              case refine_2 => (rintro W c0; go_simp; try (with_reducible rfl))
              refine wpAnyH_take (i := 8) (v := ?_) rfl (by kernel_rfl) (by kernel_rfl) (by kernel_rfl) (fun _ _ _ h => h) (Or.inl ⟨by rfl, ?_⟩) HSS.out ?_
              case refine_2 => (rintro W c0; go_simp; try (with_reducible rfl))
              go_simp
              refine wpAnyH_take (i := 9) (v := ?_) rfl (by kernel_rfl) (by kernel_rfl) (by kernel_rfl) (fun _ _ _ h => h) (Or.inl ⟨by rfl, ?_⟩) HSS.out ?_
              case refine_2 => (rintro W c0; go_simp; try (with_reducible rfl))
              refine wpAnyH_op (i := 10) (by kernel_rfl) rfl (by rfl) (fun K hK => ?_)
              go_simp
              go_at_call 6
              refine (k_reads A4 _ (by omega) (HT0.out _ HB.out)).mono ?_
              rintro e wq10 ⟨rfl, hb⟩
              go_simp
              have HC := Lib.hid (HC.out.below hb)
              have HB := Lib.hid (HB.out.trans (hb.mono HB.out.size))
              refine hK _ _ HSS.out ?_
              clear hK K hb
              refine wpAnyH_take (i := 11) (v := ?_) rfl (by kernel_rfl) (by kernel_rfl) (by kernel_rfl) (fun _ _ _ h => h) (Or.inl ⟨by rfl, ?_⟩) HSS.out ?_
              case refine_2 => (rintro W c0; go_simp; try (with_reducible rfl))
              go_simp
              refine wpAnyH_take (i := 12) (v := ?_) rfl (by kernel_rfl) (by kernel_rfl) (by kernel_rfl) (fun _ _ _ h => h) (Or.inl ⟨by rfl, ?_⟩) HSS.out ?_
              case refine_2 => (rintro W c0; go_simp; try (with_reducible rfl))
              refine wpAnyH_take (i := 13) (v := ?_) rfl (by kernel_rfl) (by kernel_rfl) (by kernel_rfl) (fun _ _ _ h => h) (Or.inl ⟨by rfl, ?_⟩) HSS.out ?_
              case refine_2 => (rintro W c0; go_simp; try (with_reducible rfl))
              refine wpAnyH_take (i := 14) (v := ?_) rfl (by kernel_rfl) (by kernel_rfl) (by kernel_rfl) (fun _ _ _ h => h) (Or.inl ⟨by rfl, ?_⟩) HSS.out ?_
              case refine_2 => (rintro W c0; go_simp; try (with_reducible rfl))
              go_simp
              refine wpAnyH_take (i := 15) (v := ?_) rfl (by kernel_rfl) (by kernel_rfl) (by kernel_rfl) (fun _ _ _ h => h) (Or.inl ⟨by rfl, ?_⟩) HSS.out ?_
              case refine_2 => (rintro W c0; go_simp; try (with_reducible rfl))
              refine wpAnyH_take (i := 16) (v := ?_) rfl (by kernel_rfl) (by kernel_rfl) (by kernel_rfl) (fun _ _ _ h => h) (Or.inl ⟨by rfl, ?_⟩) HSS.out ?_
              case refine_2 => (rintro W c0; go_simp; try (with_reducible rfl))
              refine wpAnyH_take (i := 17) (v := ?_) rfl (by kernel_rfl) (by kernel_rfl) (by kernel_rfl) (fun _ _ _ h => h) (Or.inl ⟨by rfl, ?_⟩) HSS.out ?_
              case refine_2 => (rintro W c0; go_simp; try (with_reducible rfl))
              go_simp
              refine wpAnyH_take (i := 18) (v := ?_) rfl (by kernel_rfl) (by kernel_rfl) (by kernel_rfl) (fun _ _ _ h => h) (Or.inl ⟨by rfl, ?_⟩) HSS.out ?_
              case refine_2 => (rintro W c0; go_simp; try (with_reducible rfl))
              refine wpAnyH_take (i := 19) (v := ?_) rfl (by kernel_rfl) (by kernel_rfl) (by kernel_rfl) (fun _ _ _ h => h) (Or.inl ⟨by rfl, ?_⟩) HSS.out ?_
              case refine_2 => (rintro W c0; go_simp; try (with_reducible rfl))
              refine wpAnyH_take (i := 20) (v := ?_) rfl (by kernel_rfl) (by kernel_rfl) (by kernel_rfl) (fun _ _ _ h => h) (Or.inl ⟨by rfl, ?_⟩) HSS.out ?_
              case refine_2 => (rintro W c0; go_simp; try (with_reducible rfl))
              go_simp
              refine wpAnyH_take (i := 21) (v := ?_) rfl (by kernel_rfl) (by kernel_rfl) (by kernel_rfl) (fun _ _ _ h => h) (Or.inl ⟨by rfl, ?_⟩) HSS.out ?_
              case refine_2 => (rintro W c0; go_simp; try (with_reducible rfl))
              refine wpAnyH_take (i := 22) (v := ?_) rfl (by kernel_rfl) (by kernel_rfl) (by kernel_rfl) (fun _ _ _ h => h) (Or.inl ⟨by rfl, ?_⟩) HSS.out ?_
              case refine_2 => (rintro W c0; go_simp; try (with_reducible rfl))
              refine wpAnyH_take (i := 23) (v := ?_) rfl (by kernel_rfl) (by kernel_rfl) (by kernel_rfl) (fun _ _ _ h => h) (Or.inl ⟨by rfl, ?_⟩) HSS.out ?_
              case refine_2 => (rintro W c0; go_simp; try (with_reducible rfl))
              refine wpAnyH_op (i := 24) (by kernel_rfl) rfl (by rfl) (fun K hK => ?_)
              go_simp
              go_at_call 6
              refine (k_reads B4 _ (by omega) (HT0.out _ HB.out)).mono ?_
              rintro e wq24 ⟨rfl, hb⟩
              go_simp
              have HC := Lib.hid (HC.out.below hb)
              have HB := Lib.hid (HB.out.trans (hb.mono HB.out.size))
              refine hK _ _ HSS.out ?_
              clear hK K hb
              refine wpAnyH_take (i := 25) (v := ?_) rfl (by kernel_rfl) (by kernel_rfl) (by kernel_rfl) (fun _ _ _ h => h) (Or.inl ⟨by rfl, ?_⟩) HSS.out ?_
              case refine_2 => (rintro W c0; go_simp; try (with_reducible rfl))
              refine wpAnyH_take (i := 26) (v := ?_) rfl (by kernel_rfl) (by kernel_rfl) (by kernel_rfl) (fun _ _ _ h => h) (Or.inl ⟨by rfl, ?_⟩) HSS.out ?_
              case refine_2 => (rintro W c0; go_simp; try (with_reducible rfl))
              go_simp
              refine wpAnyH_take (i := 27) (v := ?_) rfl (by kernel_rfl) (by kernel_rfl) (by kernel_rfl) (fun _ _ _ h => h) (Or.inl ⟨by rfl, ?_⟩) HSS.out ?_
              case refine_2 => (rintro W c0; go_simp; try (with_reducible rfl))
              refine wpAnyH_take (i := 28) (v := ?_) rfl (by kernel_rfl) (by kernel_rfl) (by kernel_rfl) (fun _ _ _ h => h) (Or.inl ⟨by rfl, ?_⟩) HSS.out ?_
              case refine_2 => (rintro W c0; go_simp; try (with_reducible rfl))
              refine wpAnyH_take (i := 29) (v := ?_) rfl (by kernel_rfl) (by kernel_rfl) (by kernel_rfl) (fun _ _ _ h => h) (Or.inl ⟨by rfl, ?_⟩) HSS.out ?_
              case refine_2 => (rintro W c0; go_simp; try (with_reducible rfl))
              go_simp
              refine wpAnyH_take (i := 30) (v := ?_) rfl (by kernel_rfl) (by kernel_rfl) (by kernel_rfl) (fun _ _ _ h => h) (Or.inl ⟨by rfl, ?_⟩) HSS.out ?_
              case refine_2 => (rintro W c0; go_simp; try (with_reducible rfl))
              refine wpAnyH_take (i := 31) (v := ?_) rfl (by kernel_rfl) (by kernel_rfl) (by kernel_rfl) (fun _ _ _ h => h) (Or.inl ⟨by rfl, ?_⟩) HSS.out ?_
              case refine_2 => (rintro W c0; go_simp; try (with_reducible rfl))
              refine wpAnyH_take (i := 32) (v := ?_) rfl (by kernel_rfl) (by kernel_rfl) (by kernel_rfl) (fun _ _ _ h => h) (Or.inl ⟨by rfl, ?_⟩) HSS.out ?_
              case refine_2 => (rintro W c0; go_simp; try (with_reducible rfl))
              go_simp
              refine wpAnyH_take (i := 33) (v := ?_) rfl (by kernel_rfl) (by kernel_rfl) (by kernel_rfl) (fun _ _ _ h => h) (Or.inl ⟨by rfl, ?_⟩) HSS.out ?_
              case refine_2 => (rintro W c0; go_simp; try (with_reducible rfl))
              refine wpAnyH_take (i := 34) (v := ?_) rfl (by kernel_rfl) (by kernel_rfl) (by kernel_rfl) (fun _ _ _ h => h) (Or.inl ⟨by rfl, ?_⟩) HSS.out ?_
              case refine_2 => (rintro W c0; go_simp; try (with_reducible rfl))
              refine wpAnyH_op (i := 35) (by kernel_rfl) rfl (by rfl) (fun K hK => ?_)
              go_simp
              go_at_call 8
              refine (k_once C4 _ (by omega) (HT0.out _ HB.out)).mono ?_
              rintro e wq35 ⟨rfl, hb⟩
              go_simp
              have HC := Lib.hid (HC.out.below hb)
              have HB := Lib.hid (HB.out.trans (hb.mono HB.out.size))
              refine hK _ _ HSS.out ?_
              clear hK K hb
              go_simp
              refine wpAnyH_take (i := 36) (v := ?_) rfl (by kernel_rfl) (by kernel_rfl) (by kernel_rfl) (fun _ _ _ h => h) (Or.inl ⟨by rfl, ?_⟩) HSS.out ?_
              case refine_2 => (rintro W c0; go_simp; try (with_reducible rfl))
              refine wpAnyH_take (i := 37) (v := ?_) rfl (by kernel_rfl) (by kernel_rfl) (by kernel_rfl) (fun _ _ _ h => h) (Or.inl ⟨by rfl, ?_⟩) HSS.out ?_
              case refine_2 => (rintro W c0; go_simp; try (with_reducible rfl))
              refine wpAnyH_take (i := 38) (v := ?_) rfl (by kernel_rfl) (by kernel_rfl) (by kernel_rfl) (fun _ _ _ h => h) (Or.inl ⟨by rfl, ?_⟩) HSS.out ?_
              case refine_2 => (rintro W c0; go_simp; try (with_reducible rfl))
              go_simp
              refine wpAnyH_take (i := 39) (v := ?_) rfl (by kernel_rfl) (by kernel_rfl) (by kernel_rfl) (fun _ _ _ h => h) (Or.inl ⟨by rfl, ?_⟩) HSS.out ?_
              case refine_2 => (rintro W c0; go_simp; try (with_reducible rfl))
              refine wpAnyH_take (i := 40) (v := ?_) rfl (by kernel_rfl) (by kernel_rfl) (by kernel_rfl) (fun _ _ _ h => h) (Or.inl ⟨by rfl, ?_⟩) HSS.out ?_
              case refine_2 => (rintro W c0; go_simp; try (with_reducible rfl))
              refine wpAnyH_take (i := 41) (v := ?_) rfl (by kernel_rfl) (by kernel_rfl) (by kernel_rfl) (fun _ _ _ h => h) (Or.inl ⟨by rfl, ?_⟩) HSS.out ?_
              case refine_2 => (rintro W c0; go_simp; try (with_reducible rfl))
              go_simp
              refine wpAnyH_take (i := 42) (v := ?_) rfl (by kernel_rfl) (by kernel_rfl) (by kernel_rfl) (fun _ _ _ h => h) (Or.inl ⟨by rfl, ?_⟩) HSS.out ?_
              case refine_2 => (rintro W c0; go_simp; try (with_reducible rfl))
              refine wpAnyH_op (i := 43) (by kernel_rfl) rfl (by rfl) (fun K hK => ?_)
              go_simp
              go_at_call 6
              refine (k_reads D2 _ (by omega) (HT0.out _ HB.out)).mono ?_
              rintro e wq43 ⟨rfl, hb⟩
              go_simp
              have HC := Lib.hid (HC.out.below hb)
              have HB := Lib.hid (HB.out.trans (hb.mono HB.out.size))
              refine hK _ _ HSS.out ?_
              clear hK K hb
              refine wpAnyH_take (i := 44) (v := ?_) rfl (by kernel_rfl) (by kernel_rfl) (by kernel_rfl) (fun _ _ _ h => h) (Or.inl ⟨by rfl, ?_⟩) HSS.out ?_
              case refine_2 => (rintro W c0; go_simp; try (with_reducible rfl))
              go_simp
              refine wpAnyH_take (i := 45) (v := ?_) rfl (by kernel_rfl) (by kernel_rfl) (by kernel_rfl) (fun _ _ _ h => h) (Or.inl ⟨by rfl, ?_⟩) HSS.out ?_
              case refine_2 => (rintro W c0; go_simp; try (with_reducible rfl))
              refine wpAnyH_take (i := 46) (v := ?_) rfl (by kernel_rfl) (by kernel_rfl) (by kernel_rfl) (fun _ _ _ h => h) (Or.inl ⟨by rfl, ?_⟩) HSS.out ?_
              case refine_2 => (rintro W c0; go_simp; try (with_reducible rfl))
              refine wpAnyH_take (i := 47) (v := ?_) rfl (by kernel_rfl) (by kernel_rfl) (by kernel_rfl) (fun _ _ _ h => h) (Or.inl ⟨by rfl, ?_⟩) HSS.out ?_
              case refine_2 => (rintro W c0; go_simp; try (with_reducible rfl))
              go_simp
              refine wpAnyH_take (i := 48) (v := ?_) rfl (by kernel_rfl) (by kernel_rfl) (by kernel_rfl) (fun _ _ _ h => h) (Or.inl ⟨by rfl, ?_⟩) HSS.out ?_
              case refine_2 => (rintro W c0; go_simp; try (with_reducible rfl))
              refine wpAnyH_take (i := 49) (v := ?_) rfl (by kernel_rfl) (by kernel_rfl) (by kernel_rfl) (fun _ _ _ h => h) (Or.inl ⟨by rfl, ?_⟩) HSS.out ?_
              case refine_2 => (rintro W c0; go_simp; try (with_reducible rfl))
              refine wpAnyH_take (i := 50) (v := ?_) rfl (by kernel_rfl) (by kernel_rfl) (by kernel_rfl) (fun _ _ _ h => h) (Or.inl ⟨by rfl, ?_⟩) HSS.out ?_
              case refine_2 => (rintro W c0; go_simp; try (with_reducible rfl))
              go_simp
              refine wpAnyH_take (i := 51) (v := ?_) rfl (by kernel_rfl) (by kernel_rfl) (by kernel_rfl) (fun _ _ _ h => h) (Or.inl ⟨by rfl, ?_⟩) HSS.out ?_
              case refine_2 => (rintro W c0; go_simp; try (with_reducible rfl))
              refine wpAnyH_take (i := 52) (v := ?_) rfl (by kernel_rfl) (by kernel_rfl) (by kernel_rfl) (fun _ _ _ h => h) (Or.inl ⟨by rfl, ?_⟩) HSS.out ?_
              case refine_2 => (rintro W c0; go_simp; try (with_reducible rfl))
              refine wpAnyH_take (i := 53) (v := ?_) rfl (by kernel_rfl) (by kernel_rfl) (by kernel_rfl) (fun _ _ _ h => h) (Or.inl ⟨by rfl, ?_⟩) HSS.out ?_
              case refine_2 => (rintro W c0; go_simp; try (with_reducible rfl))
              refine wpAnyH_op (i := 54) (by kernel_rfl) rfl (by rfl) (fun K hK => ?_)
              go_simp
              go_at_call 6
              refine (k_reads E4 _ (by omega) (HT0.out _ HB.out)).mono ?_
              rintro e wq54 ⟨rfl, hb⟩
              go_simp
              have HC := Lib.hid (HC.out.below hb)
              have HB := Lib.hid (HB.out.trans (hb.mono HB.out.size))
              refine hK _ _ HSS.out ?_
              clear hK K hb
              refine wpAnyH_take (i := 55) (v := ?_) rfl (by kernel_rfl) (by kernel_rfl) (by kernel_rfl) (fun _ _ _ h => h) (Or.inl ⟨by rfl, ?_⟩) HSS.out ?_
              case refine_2 => (rintro W c0; go_simp; try (with_reducible rfl))
              refine wpAnyH_take (i := 56) (v := ?_) rfl (by kernel_rfl) (by kernel_rfl) (by kernel_rfl) (fun _ _ _ h => h) (Or.inl ⟨by rfl, ?_⟩) HSS.out ?_
              case refine_2 => (rintro W c0; go_simp; try (with_reducible rfl))
              refine wpAnyH_done (by kernel_rfl) ?_ _
              go_wp2
              go_roundw
              case rel => exact ⟨j + 1, by omega, by go_num, HC.out, HB.out⟩
              case measure => simp [intOf]; omega
            · have hjj : 2 ≤ j := by omega
              go_wp2
              go_roundw
              case rel => exact ⟨c + 1, by omega, by go_num, HB.out⟩
              case measure => simp [intOf]; omega
        · have hc7 : 256 ≤ c := by omega
          have hwB := HB.out.size
          go_wp2_with (at_make; refine wpl_make8s rfl _ _ rfl w.heap.size _ _ _ _ 70 rfl rfl rfl rfl (by decide) hwB ?_; intro w3 hown3 hb3 hlt3)
          have HB3 := Lib.hid (HB.out.trans (hb3.mono (Nat.le_refl _)))
          have HO3 := Lib.hid hown3
          obtain ⟨G, hG⟩ : ∃ G, G = wr.heap.size := ⟨_, rfl⟩
          rw [← hG] at HO3 hwB ⊢
          clear hown3 hb3 hlt3 hG
          go_loopw [9] (fun iv wr => ∃ (n : Nat) (zs : List Nat), n ≤ 70 ∧ iv = .int .i64 (n : Nat) ∧ Hid (zs.length = 70) ∧ Hid (B8 zs) ∧ Hid (wr.ownsRow w.heap.size 5 1 (.slice (some ⟨G, 0, none⟩) 70 70) 70 (u8s zs)) ∧ Hid (Below w.heap.size w wr)) (fun iv _ => 70 - (intOf iv).toNat)
          case atStart => exact ⟨0, List.replicate 70 0, by decide, rfl, List.length_replicate .., (fun x hx => by have := List.eq_of_mem_replicate hx; omega), HO3.out, HB3.out⟩
          case round =>
            clear HO3 HB3 HB
            obtain ⟨n, zs, hn, rfl, HZ, H8, HO, HB⟩ := hrel
            by_cases hn7 : n < 70
            · obtain ⟨y, hy⟩ : ∃ y, y = (n * n + 3) % 256 := ⟨_, rfl⟩
              have hnn : n * n ≤ 4900 := Nat.mul_le_mul hn hn
              have hq7 : decide ((n : Int) < 70) = true := decide_eq_true (by omega)
              obtain ⟨sq, hsq⟩ : ∃ sq, sq = n * n := ⟨_, rfl⟩
              have hsq2 : (n : Int) * (n : Int) = (sq : Int) := by rw [hsq]; simp
              rw [← hsq] at hy hnn
              have e1 : IntKind.u8.wrap ((sq : Int) + 3) = (y : Int) := by
                rw [show IntKind.u8.wrap ((sq : Int) + 3) = ((sq : Int) + 3) % 256 from by simp [IntKind.wrap, IntKind.signed, IntKind.bits]]; omega
              have e2 : ((sq : Int) + 3) % 256 = (y : Int) := by omega
              have hy8 : y < 256 := by omega
              have hcell : wr.cell? ⟨G, n, none⟩ = some (.int .u8 (at0 zs n : Nat)) := by
                rw [World.ownsRow.cellAt HO.out n (by omega), u8s_ats _ n (by rw [HZ.out]; exact hn7)]
              have hfz : wr.frozen? ⟨G, n, none⟩ = false := World.ownsRow.frozenAt HO.out n
              have HO2 := Lib.hid (ow8.set HO.out n y)
              have HB2 : Hid (Below w.heap.size w (wr.setCell ⟨G, n, none⟩ (.int .u8 (y : Nat)))) := HB.out.setCell (p := ⟨G, n, none⟩) hwB _
              have HZ2 : Hid ((zs.set n y).length = 70) := by show _ = _; rw [List.length_set]; exact HZ.out
              have H82 : Hid (B8 (zs.set n y)) := fun x hx => by
                rcases List.mem_or_eq_of_mem_set hx with h | h
                · exact H8.out x h
                · omega
              generalize at0 zs n = old at hcell
              clear hy hsq HO HB
              go_wp2
              clear hcell hfz
              go_loopw [10] (fun kv wr => ∃ k : Nat, k ≤ 8 ∧ kv = .int .i64 (k : Nat) ∧ Hid (wr.ownsRow w.heap.size 5 1 (.slice (some ⟨G, 0, none⟩) 70 70) 70 (u8s (zs.set n y))) ∧ Hid (Below w.heap.size w wr)) (fun kv _ => 8 - (intOf kv).toNat)
              case atStart => exact ⟨0, by decide, rfl, HO2.out, HB2.out⟩
              case round =>
                clear HO2 HB2
                obtain ⟨k, hk, rfl, HO, HB⟩ := hrel
                by_cases hk8 : k < 8
                · have hln : ((zs.set n y).take n).length = n := by rw [List.length_take, HZ2.out]; omega
                  have HLN := Lib.hid hln
                  clear hln
                  go_wp2_with fail
                  refine (codingBack_any (some ⟨G, 0, none⟩) n 70 ((zs.set n y).take n) ((n : Int) + (k : Int)) _ HLN.out (by omega) (by decide) (fun h => by cases h) (H82.out.take n) (rd_pre (own_rdw HO.out) n) (by omega) (by omega) (HT0.out _ HB.out).1 (HT0.out _ HB.out).2).mono ?_
                  rintro e W9 ⟨rfl, hb⟩
                  have HO := Lib.hid ((Chg.of_below hb).owns HO.out (fun q hq => by have := (World.ownsRow.lt HO.out q hq).2; omega))
                  have HB := Lib.hid (HB.out.trans (hb.mono HB.out.size))
                  clear hb
                  go_wp2
                  go_roundw
                  case rel => exact ⟨k + 1, by omega, by go_num, HO.out, HB.out⟩
                  case measure => simp [intOf]; omega
                · have hk9 : 8 ≤ k := by omega
                  go_wp2
                  go_roundw
                  case rel => exact ⟨n + 1, _, by omega, by go_num, HZ2.out, H82.out, HO.out, HB.out⟩
                  case measure => simp [intOf]; omega
            · have hn8 : 70 ≤ n := by omega
              go_wp2_with fail
              refine (works6_any _ (HT0.out _ HB.out).1 (HT0.out _ HB.out).2).mono ?_
              rintro e W9 ⟨rfl, hb⟩
              have HB := Lib.hid (HB.out.trans (hb.mono HB.out.size))
              clear hb
              go_wp2
              go_ret
              exact ⟨rfl, HB.out⟩
end Go.Proofs.YtpipjkpjpkgmpaaDoor
