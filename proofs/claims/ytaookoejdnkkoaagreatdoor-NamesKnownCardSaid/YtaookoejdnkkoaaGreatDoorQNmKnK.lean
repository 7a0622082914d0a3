import Derived.Test.YtaookoejdnkkoaaGreatDoorQNmKnS
namespace Go.Proofs.YtaookoejdnkkoaaGreatDoor
open Go.RowKit

/-! NamesKnown: keys. -/
theorem keys_laid {W : World} {a : Option Addr} {n c : Nat} (h : Lst W (.slice a n c)) (hn : n ≤ 64) :
    KeysAt ((((((W.alloc (.cells #[.int .u64 4] 47)).alloc (.cells #[.int .u64 1] 47)).alloc (.cells #[.int .u64 15] 47)).alloc (.cells #[.int .u64 3] 47)).alloc (.cells #[.int .u64 5] 47)).alloc (.cells #[.slice a n c, .slice (some ⟨W.heap.size, 0, none⟩) 1 1, .slice a n c, .slice a n c, .slice a n c, .slice (some ⟨W.heap.size + 1, 0, none⟩) 1 1, .slice (some ⟨W.heap.size + 1 + 1, 0, none⟩) 1 1, .slice (some ⟨W.heap.size + 1 + 1 + 1, 0, none⟩) 1 1, .slice a n c, .slice (some ⟨W.heap.size + 1 + 1 + 1 + 1, 0, none⟩) 1 1] 25)) (W.heap.size + 1 + 1 + 1 + 1 + 1) 5 ∧ Below W.heap.size W ((((((W.alloc (.cells #[.int .u64 4] 47)).alloc (.cells #[.int .u64 1] 47)).alloc (.cells #[.int .u64 15] 47)).alloc (.cells #[.int .u64 3] 47)).alloc (.cells #[.int .u64 5] 47)).alloc (.cells #[.slice a n c, .slice (some ⟨W.heap.size, 0, none⟩) 1 1, .slice a n c, .slice a n c, .slice a n c, .slice (some ⟨W.heap.size + 1, 0, none⟩) 1 1, .slice (some ⟨W.heap.size + 1 + 1, 0, none⟩) 1 1, .slice (some ⟨W.heap.size + 1 + 1 + 1, 0, none⟩) 1 1, .slice a n c, .slice (some ⟨W.heap.size + 1 + 1 + 1 + 1, 0, none⟩) 1 1] 25)) := by
  have b4 : Below W.heap.size W (W.alloc (.cells #[.int .u64 4] 47)) := (Below.refl _ _).alloc (Nat.le_refl _) _
  have b5 : Below (W.alloc (.cells #[.int .u64 4] 47)).heap.size (W.alloc (.cells #[.int .u64 4] 47)) ((W.alloc (.cells #[.int .u64 4] 47)).alloc (.cells #[.int .u64 1] 47)) := (Below.refl _ _).alloc (Nat.le_refl _) _
  have b6 : Below ((W.alloc (.cells #[.int .u64 4] 47)).alloc (.cells #[.int .u64 1] 47)).heap.size ((W.alloc (.cells #[.int .u64 4] 47)).alloc (.cells #[.int .u64 1] 47)) (((W.alloc (.cells #[.int .u64 4] 47)).alloc (.cells #[.int .u64 1] 47)).alloc (.cells #[.int .u64 15] 47)) := (Below.refl _ _).alloc (Nat.le_refl _) _
  have b7 : Below (((W.alloc (.cells #[.int .u64 4] 47)).alloc (.cells #[.int .u64 1] 47)).alloc (.cells #[.int .u64 15] 47)).heap.size (((W.alloc (.cells #[.int .u64 4] 47)).alloc (.cells #[.int .u64 1] 47)).alloc (.cells #[.int .u64 15] 47)) ((((W.alloc (.cells #[.int .u64 4] 47)).alloc (.cells #[.int .u64 1] 47)).alloc (.cells #[.int .u64 15] 47)).alloc (.cells #[.int .u64 3] 47)) := (Below.refl _ _).alloc (Nat.le_refl _) _
  have b8 : Below ((((W.alloc (.cells #[.int .u64 4] 47)).alloc (.cells #[.int .u64 1] 47)).alloc (.cells #[.int .u64 15] 47)).alloc (.cells #[.int .u64 3] 47)).heap.size ((((W.alloc (.cells #[.int .u64 4] 47)).alloc (.cells #[.int .u64 1] 47)).alloc (.cells #[.int .u64 15] 47)).alloc (.cells #[.int .u64 3] 47)) (((((W.alloc (.cells #[.int .u64 4] 47)).alloc (.cells #[.int .u64 1] 47)).alloc (.cells #[.int .u64 15] 47)).alloc (.cells #[.int .u64 3] 47)).alloc (.cells #[.int .u64 5] 47)) := (Below.refl _ _).alloc (Nat.le_refl _) _
  have b9 : Below (((((W.alloc (.cells #[.int .u64 4] 47)).alloc (.cells #[.int .u64 1] 47)).alloc (.cells #[.int .u64 15] 47)).alloc (.cells #[.int .u64 3] 47)).alloc (.cells #[.int .u64 5] 47)).heap.size (((((W.alloc (.cells #[.int .u64 4] 47)).alloc (.cells #[.int .u64 1] 47)).alloc (.cells #[.int .u64 15] 47)).alloc (.cells #[.int .u64 3] 47)).alloc (.cells #[.int .u64 5] 47)) ((((((W.alloc (.cells #[.int .u64 4] 47)).alloc (.cells #[.int .u64 1] 47)).alloc (.cells #[.int .u64 15] 47)).alloc (.cells #[.int .u64 3] 47)).alloc (.cells #[.int .u64 5] 47)).alloc (.cells #[.slice a n c, .slice (some ⟨W.heap.size, 0, none⟩) 1 1, .slice a n c, .slice a n c, .slice a n c, .slice (some ⟨W.heap.size + 1, 0, none⟩) 1 1, .slice (some ⟨W.heap.size + 1 + 1, 0, none⟩) 1 1, .slice (some ⟨W.heap.size + 1 + 1 + 1, 0, none⟩) 1 1, .slice a n c, .slice (some ⟨W.heap.size + 1 + 1 + 1 + 1, 0, none⟩) 1 1] 25)) := (Below.refl _ _).alloc (Nat.le_refl _) _
  have l4 := ((((( lst_1 W 4 4 _ rfl (by decide) rfl).below b5).below b6).below b7).below b8).below b9
  have l5 := (((( lst_1 (W.alloc (.cells #[.int .u64 4] 47)) 1 1 (W.heap.size + 1) rfl (by decide) (by simp)).below b6).below b7).below b8).below b9
  have l6 := ((( lst_1 ((W.alloc (.cells #[.int .u64 4] 47)).alloc (.cells #[.int .u64 1] 47)) 15 15 (W.heap.size + 1 + 1) rfl (by decide) (by simp)).below b7).below b8).below b9
  have l7 := (( lst_1 (((W.alloc (.cells #[.int .u64 4] 47)).alloc (.cells #[.int .u64 1] 47)).alloc (.cells #[.int .u64 15] 47)) 3 3 (W.heap.size + 1 + 1 + 1) rfl (by decide) (by simp)).below b8).below b9
  have l8 := ( lst_1 ((((W.alloc (.cells #[.int .u64 4] 47)).alloc (.cells #[.int .u64 1] 47)).alloc (.cells #[.int .u64 15] 47)).alloc (.cells #[.int .u64 3] 47)) 5 5 (W.heap.size + 1 + 1 + 1 + 1) rfl (by decide) (by simp)).below b9
  have lN := (((((h.below b4).below b5).below b6).below b7).below b8).below b9
  have hcl : CL ((((((W.alloc (.cells #[.int .u64 4] 47)).alloc (.cells #[.int .u64 1] 47)).alloc (.cells #[.int .u64 15] 47)).alloc (.cells #[.int .u64 3] 47)).alloc (.cells #[.int .u64 5] 47)).alloc (.cells #[.slice a n c, .slice (some ⟨W.heap.size, 0, none⟩) 1 1, .slice a n c, .slice a n c, .slice a n c, .slice (some ⟨W.heap.size + 1, 0, none⟩) 1 1, .slice (some ⟨W.heap.size + 1 + 1, 0, none⟩) 1 1, .slice (some ⟨W.heap.size + 1 + 1 + 1, 0, none⟩) 1 1, .slice a n c, .slice (some ⟨W.heap.size + 1 + 1 + 1 + 1, 0, none⟩) 1 1] 25)) 25 (W.heap.size + 1 + 1 + 1 + 1 + 1) (#[.slice a n c, .slice (some ⟨W.heap.size, 0, none⟩) 1 1, .slice a n c, .slice a n c, .slice a n c, .slice (some ⟨W.heap.size + 1, 0, none⟩) 1 1, .slice (some ⟨W.heap.size + 1 + 1, 0, none⟩) 1 1, .slice (some ⟨W.heap.size + 1 + 1 + 1, 0, none⟩) 1 1, .slice a n c, .slice (some ⟨W.heap.size + 1 + 1 + 1 + 1, 0, none⟩) 1 1]).toList := by
    have := CL.new (((((W.alloc (.cells #[.int .u64 4] 47)).alloc (.cells #[.int .u64 1] 47)).alloc (.cells #[.int .u64 15] 47)).alloc (.cells #[.int .u64 3] 47)).alloc (.cells #[.int .u64 5] 47)) 25 (#[.slice a n c, .slice (some ⟨W.heap.size, 0, none⟩) 1 1, .slice a n c, .slice a n c, .slice a n c, .slice (some ⟨W.heap.size + 1, 0, none⟩) 1 1, .slice (some ⟨W.heap.size + 1 + 1, 0, none⟩) 1 1, .slice (some ⟨W.heap.size + 1 + 1 + 1, 0, none⟩) 1 1, .slice a n c, .slice (some ⟨W.heap.size + 1 + 1 + 1 + 1, 0, none⟩) 1 1]).toList
    simpa using this
  refine ⟨fun i hi => ?_, b4.trans ((b5.trans ((b6.trans ((b7.trans ((b8.trans (b9.mono b8.size)).mono b7.size)).mono b6.size)).mono b5.size)).mono b4.size)⟩
  rcases (show i = 0 ∨ i = 1 ∨ i = 2 ∨ i = 3 ∨ i = 4 by omega) with rfl | rfl | rfl | rfl | rfl
  · exact ⟨_, _, _, _, _, _, by rw [hcl.cell]; rfl, by rw [hcl.cell]; rfl, lN, l4, hn, by decide⟩
  · exact ⟨_, _, _, _, _, _, by rw [hcl.cell]; rfl, by rw [hcl.cell]; rfl, lN, lN, hn, hn⟩
  · exact ⟨_, _, _, _, _, _, by rw [hcl.cell]; rfl, by rw [hcl.cell]; rfl, lN, l5, hn, by decide⟩
  · exact ⟨_, _, _, _, _, _, by rw [hcl.cell]; rfl, by rw [hcl.cell]; rfl, l6, l7, by decide, by decide⟩
  · exact ⟨_, _, _, _, _, _, by rw [hcl.cell]; rfl, by rw [hcl.cell]; rfl, lN, l8, hn, by decide⟩
set_option maxHeartbeats 8000000 in
set_option maxRecDepth 100000 in
theorem keys9_any (w : World) (hH : HT w) (hB : BT w) :
    Calls Tryz.prog 25 #[] w fun e w' => e = .returned (.bool true) ∧ Below w.heap.size w w' := by
  have NS := Lib.hid (NE.start hH hB)
  clear hH hB
  go_enter Tryz.func25, Tryz.ntmps25
  go_wp2_with fail
  refine (r8keys _).mono ?_
  rintro e w1 ⟨hb, a, b, c, d, p, q, u, v, rfl, hks⟩
  obtain ⟨vN, vE, oN, oE, hix⟩ := pick4K hks 3 (by decide)
  have hix : ∀ W : World, (Instr.index 51 (.agg #[a, b, c, d, p, q, u, v]) (.int .i64 3)).run Tryz.prog W = .ok (.agg #[vN, vE]) W := hix
  obtain ⟨aN, cN, rfl, rN⟩ := own64.form oN
  obtain ⟨aE, cE, rfl, rE⟩ := own64.form oE
  have hkb := kn_bd 3 (by decide)
  have LN := Lib.hid (lst_own oN hkb.1.1 (by have := hkb.1.2; omega))
  have hn64 : (knL 3).length ≤ 64 := by decide
  have NS := Lib.hid (NS.out.below hb)
  obtain ⟨nN, hnN⟩ : ∃ n, n = (knL 3).length := ⟨_, rfl⟩
  obtain ⟨nE, hnE⟩ : ∃ n, n = (keL 3).length := ⟨_, rfl⟩
  rw [← hnN] at LN hix hn64
  have HN64 := Lib.hid hn64
  rw [← hnE] at hix
  clear hb hks oN oE rN rE hkb hnN hnE hn64
  have hal : Below w1.heap.size w1 (w1.alloc (.cells #[.slice aN nN cN, .slice aE nE cE] 25)) := (Below.refl _ _).alloc (Nat.le_refl _) _
  have NS := Lib.hid (NS.out.below hal)
  have LN := Lib.hid (LN.out.below hal)
  have HK : Hid (CL (w1.alloc (.cells #[.slice aN nN cN, .slice aE nE cE] 25)) 25 w1.heap.size [.slice aN nN cN, .slice aE nE cE]) := CL.new _ _ _
  obtain ⟨g, hg⟩ : ∃ g, g = w1.heap.size := ⟨_, rfl⟩
  clear hal
  go_upto_region 2 with fail
  rw [← hg]
  rw [← hg] at HK
  generalize w1.alloc (.cells #[.slice aN nN cN, .slice aE nE cE] 25) = W1 at *
  clear hix hg
  go_wp2_with (at_make; refine wpl_make64 rfl _ _ rfl W1.heap.size _ _ _ _ 65 rfl rfl rfl rfl (by omega) (Nat.le_refl _) ?_)
  intro w2 hown hbl hsz
  have hc0 := hown.cell (j := 0) (by simp)
  have hf0 := hown.free 0
  have hc1 := hown.cell (j := 64) (by simp)
  have hf1 := hown.free 64
  have hb3 : Below W1.heap.size W1 ((w2.setCell ⟨W1.heap.size, 0, none⟩ (.int .u64 1)).setCell ⟨W1.heap.size, 64, none⟩ (.int .u64 1)) := (hbl.setCell (p := ⟨W1.heap.size, 0, none⟩) (Nat.le_refl _) _).setCell (p := ⟨W1.heap.size, 64, none⟩) (Nat.le_refl _) _
  have NS := Lib.hid (NS.out.below hb3)
  have LN := Lib.hid (LN.out.below hb3)
  have HK := Lib.hid (HK.out.below hb3)
  clear hown hbl hsz hb3
  go_upto_region 5 with fail
  generalize (w2.setCell ⟨W1.heap.size, 0, none⟩ (.int .u64 1)).setCell ⟨W1.heap.size, 64, none⟩ (.int .u64 1) = W3 at *
  clear hc0 hf0 hc1 hf1
  have hk0 : W3.cell? ⟨g, 0, none⟩ = some (.slice aN nN cN) := by rw [HK.out.cell]; rfl
  have b4 : Below W3.heap.size W3 (W3.alloc (.cells #[.int .u64 4] 47)) := (Below.refl _ _).alloc (Nat.le_refl _) _
  have b5 : Below W3.heap.size W3 ((W3.alloc (.cells #[.int .u64 4] 47)).alloc (.cells #[.int .u64 1] 47)) := b4.alloc (by simp) _
  have b6 : Below W3.heap.size W3 (((W3.alloc (.cells #[.int .u64 4] 47)).alloc (.cells #[.int .u64 1] 47)).alloc (.cells #[.int .u64 15] 47)) := b5.alloc (by simp <;> omega) _
  have b7 : Below W3.heap.size W3 ((((W3.alloc (.cells #[.int .u64 4] 47)).alloc (.cells #[.int .u64 1] 47)).alloc (.cells #[.int .u64 15] 47)).alloc (.cells #[.int .u64 3] 47)) := b6.alloc (by simp <;> omega) _
  have q4 : (W3.alloc (.cells #[.int .u64 4] 47)).cell? ⟨g, 0, none⟩ = some (.slice aN nN cN) := by rw [(HK.out.below b4).cell]; rfl
  have q5 : ((W3.alloc (.cells #[.int .u64 4] 47)).alloc (.cells #[.int .u64 1] 47)).cell? ⟨g, 0, none⟩ = some (.slice aN nN cN) := by rw [(HK.out.below b5).cell]; rfl
  have q7 : ((((W3.alloc (.cells #[.int .u64 4] 47)).alloc (.cells #[.int .u64 1] 47)).alloc (.cells #[.int .u64 15] 47)).alloc (.cells #[.int .u64 3] 47)).cell? ⟨g, 0, none⟩ = some (.slice aN nN cN) := by rw [(HK.out.below b7).cell]; rfl
  clear b4 b5 b6 b7
  go_wp2
  clear q4 q5 q7 hk0
  obtain ⟨hky, hb9⟩ := keys_laid LN.out HN64.out
  have HKY := Lib.hid hky
  have NS := Lib.hid (NS.out.below hb9)
  clear hky hb9
  generalize hgg : W3.heap.size + 1 + 1 + 1 + 1 + 1 = gk at *
  go_loopw [39] (fun iv wr => ∃ i : Nat, i ≤ 5 ∧ iv = .int .i64 (i : Nat) ∧ Hid (KeysAt wr gk 5) ∧ Hid (NE w [] [] wr)) (fun iv _ => 5 - (intOf iv).toNat)
  case atStart => exact ⟨0, Nat.zero_le _, rfl, HKY.out, NS.out⟩
  case round =>
    clear HKY NS
    obtain ⟨i, hi, rfl, HKY, NS⟩ := hrel
    by_cases hin : i < 5
    · have hq1 : decide ((i : Int) < 5) = true := decide_eq_true (by omega)
      obtain ⟨a1, l1, c1, a2, l2, c2, hk0, hk1, hL1, hL2, hs1, hs2⟩ := HKY.out i hin
      have hk0' : wr.cell? ⟨gk, 2 * i, none⟩ = some (.slice a1 l1 c1) := by rw [Nat.mul_comm]; exact hk0
      have hk1' : wr.cell? ⟨gk, 2 * i + 1, none⟩ = some (.slice a2 l2 c2) := by rw [Nat.mul_comm]; exact hk1
      have hal : Below wr.heap.size wr (wr.alloc (.cells #[.slice a1 l1 c1, .slice a2 l2 c2] 25)) := (Below.refl _ _).alloc (Nat.le_refl _) _
      have HL1 := Lib.hid (hL1.below hal)
      have HL2 := Lib.hid (hL2.below hal)
      have HKY := Lib.hid (HKY.out.below hal)
      have NS := Lib.hid (NS.out.below hal)
      clear hL1 hL2 hal hs1 hs2
      go_wp2_with fail
      refine (k_enc HL1.out HL2.out).mono ?_
      rintro e w3 ⟨hb, a3, l3, c3, k3, b3, rfl, hbw, hl3⟩
      have HKY := Lib.hid (HKY.out.below hb)
      have NS := Lib.hid (NS.out.below hb)
      have HBW := Lib.hid hbw
      obtain ⟨X, hX⟩ : ∃ X, strN (hexL b3) = X := ⟨_, rfl⟩
      have hXs : X.size = 2 * l3 := by rw [← hX, strN_size, hexL_len, hbw.1]
      obtain ⟨Y, hY⟩ : ∃ Y, strN (b64L b3) = Y := ⟨_, rfl⟩
      obtain ⟨q, hq⟩ : ∃ q, q = (l3 + 2) / 3 * 4 := ⟨_, rfl⟩
      have hYs : Y.size = q := by rw [← hY, strN_size, b64L_len, hbw.1, hq]
      have hqb : q ≤ 2000 := by omega
      have HX := Lib.hid hX
      have HY := Lib.hid hY
      clear hb hk0 hk1 hk0' hk1' hbw hX hY hq HL1 HL2
      go_wp2_with fail
      refine (HBW.out.hex (by omega) HX.out).mono ?_
      rintro e w4 ⟨rfl, hb⟩
      have HKY := Lib.hid (HKY.out.below hb)
      have NS := Lib.hid (NS.out.below hb)
      have HBW := Lib.hid (HBW.out.below hb)
      clear hb
      go_wp2_with fail
      refine (HBW.out.b64 (by omega) HY.out).mono ?_
      rintro e w5 ⟨rfl, hb⟩
      have HKY := Lib.hid (HKY.out.below hb)
      have NS := Lib.hid (NS.out.below hb)
      clear hb
      go_wp2_with fail
      refine (k_tell _ _ (8 + 2 * l3) (11 + q) (by rw [ByteArray.size_append, hXs]; rfl) (by omega) (by rw [ByteArray.size_append, hYs]; rfl) (by omega) NS.out.hh NS.out.bb).mono ?_
      rintro e w6 ⟨rfl, hb⟩
      have HKY := Lib.hid (HKY.out.below hb)
      have NS := Lib.hid (NS.out.below hb)
      clear hb
      go_wp2
      go_roundw
      case rel => exact ⟨i + 1, by omega, by go_num, HKY.out, NS.out⟩
      case measure => simp [intOf]; omega
    · have hq1 : decide ((i : Int) < 5) = false := decide_eq_false (by omega)
      clear HKY
      obtain ⟨n, hn⟩ : ∃ n, n = 516 := ⟨_, rfl⟩
      have HN5 : Hid ((516 : Int) = (n : Int)) := by show _ = _; omega
      have hn2 : n ≤ 600 := by omega
      have hn1 : 515 < n := by omega
      clear hgg hn
      go_wp2_with (at_make; refine wpl_make8 rfl _ _ rfl wr.heap.size _ _ _ _ n rfl rfl HN5.out HN5.out (by omega) (Nat.le_refl _) ?_)
      intro w3 hown hbl hsz
      obtain ⟨g8, hg8⟩ : ∃ g, g = wr.heap.size := ⟨_, rfl⟩
      rw [← hg8] at hown ⊢
      have hc0 := World.ownsRow.cellAt hown 0 (by omega)
      rw [u8s_at _ 0 (by rw [List.length_replicate]; omega)] at hc0
      have hc1 := World.ownsRow.cellAt hown 515 (by omega)
      rw [u8s_at _ 515 (by rw [List.length_replicate]; omega)] at hc1
      have hf0 := World.ownsRow.frozenAt hown 0
      have hf1 := World.ownsRow.frozenAt hown 515
      have HBG : Hid (own8 ((w3.setCell ⟨g8, 0, none⟩ (.int .u8 (1 : Nat))).setCell ⟨g8, 515, none⟩ (.int .u8 (1 : Nat))) g8 (.slice (some ⟨g8, 0, none⟩) n n) (((List.replicate n 0).set 0 1).set 515 1)) := own8_of (own8.set (own8.set hown 0 1) 515 1) (by rw [List.length_set, List.length_set, List.length_replicate]) rfl
      have hb3 : Below wr.heap.size wr ((w3.setCell ⟨g8, 0, none⟩ (.int .u8 (1 : Nat))).setCell ⟨g8, 515, none⟩ (.int .u8 (1 : Nat))) := (hbl.setCell (p := ⟨g8, 0, none⟩) (by show _ ≤ g8; omega) _).setCell (p := ⟨g8, 515, none⟩) (by show _ ≤ g8; omega) _
      have NS := Lib.hid (NS.out.below hb3)
      clear hown hbl hsz hb3 hg8
      have k515 : (515 : Int) < (n : Int) := by omega
      have k0 : (0 : Int) < (n : Int) := by omega
      go_upto_region 16 with fail
      have e127 : (Value.int .u8 1) = .int .u8 ((1 : Nat) : Int) := rfl
      rw [e127]
      generalize (w3.setCell ⟨g8, 0, none⟩ (.int .u8 (1 : Nat))).setCell ⟨g8, 515, none⟩ (.int .u8 (1 : Nat)) = W4 at *
      clear hc0 hf0 hc1 hf1 e127
      have HBL : Hid ((((List.replicate n 0).set 0 1).set 515 1).length = n ∧ B8 (((List.replicate n 0).set 0 1).set 515 1)) := ⟨by rw [List.length_set, List.length_set, List.length_replicate], fun x hx => by
        rcases List.mem_or_eq_of_mem_set hx with h | h
        · rcases List.mem_or_eq_of_mem_set h with h | h
          · rw [List.eq_of_mem_replicate h]; decide
          · omega
        · omega⟩
      generalize ((List.replicate n 0).set 0 1).set 515 1 = bl at *
      obtain ⟨m, hm⟩ : ∃ m, m = 0 + 4 + n + 3 := ⟨_, rfl⟩
      obtain ⟨x2, hx⟩ : ∃ x, x = m / 256 := ⟨_, rfl⟩
      obtain ⟨y2, hy⟩ : ∃ y, y = m % 256 := ⟨_, rfl⟩
      have hx2 : x2 < 256 := by omega
      have hy2 : y2 < 256 := by omega
      have k1 : ((m : Int) / 256) % 256 = (x2 : Int) := by omega
      have k2 : (m : Int) % 256 = (y2 : Int) := by omega
      have k3 : IntKind.u8.wrap ((m : Int) / 256) = (x2 : Int) := by rw [IntKind.wrap_u8']; exact k1
      have k4 : IntKind.u8.wrap (m : Int) = (y2 : Int) := by rw [IntKind.wrap_u8']; exact k2
      have k5 : IntKind.u8.wrap ((m : Int) / 2 ^ 8) = (x2 : Int) := k3
      clear hx hy
      obtain ⟨bb, hbb⟩ : ∃ bb, bb = [2, 130, 2, 4] ++ bl ++ [2, 1, 3] := ⟨_, rfl⟩
      have HBB : Hid (bb.length = m ∧ B8 bb ∧ u8s bb = [] ++ u8s [2, 130, 2, 4] ++ u8s bl ++ u8s [2, 1, 3]) := by
        have h1 := HBL.out.1
        refine ⟨by rw [hbb, List.length_append, List.length_append, h1]; simp; omega, ?_, by rw [hbb]; simp [u8s]⟩
        rw [hbb]
        intro z hz
        rcases List.mem_append.1 hz with hz | hz
        · rcases List.mem_append.1 hz with hz | hz
          · simp at hz; omega
          · exact HBL.out.2 z hz
        · simp at hz; omega
      have HM := Lib.hid hm
      have h82 : B8 ([48, 130, x2, y2] ++ bb) := by
        intro z hz
        rcases List.mem_append.1 hz with hz | hz
        · simp at hz; omega
        · exact HBB.out.2.1 z hz
      have H82 := Lib.hid h82
      have hal : Below W4.heap.size W4 (W4.alloc (.cells #[.int .u8 2, .int .u8 130, .int .u8 2, .int .u8 4] 5)) := (Below.refl _ _).alloc (Nat.le_refl _) _
      have HAL := Lib.hid hal
      have hn10 : 0 + 4 + n ≤ 4096 := by omega
      have hm10 : 0 + 4 + m ≤ 4096 := by omega
      clear hbb h82 hal hm hx2 hy2
      go_wp2_with (first
        | (at_builtin; refine wpl_appN 40 5 Tryz.underlying40 info8 rfl (by decide) rfl _ _ rfl W4.heap.size (.slice none 0 0) 0 [] rfl (World.ownsRow_nil _ _ _ _) (some ⟨W4.heap.size, 0, none⟩) 4 4 rfl (u8s [2, 130, 2, 4]) rfl (fun _ => (rd_lit8 (w := W4) 5 [2, 130, 2, 4] #[.int .u8 2, .int .u8 130, .int .u8 2, .int .u8 4] rfl).news (by simp)) (fun h => by cases h) (u8s_one8 _) (by decide) (by simp) ?_; intro v5 w5 hown5 hg5 _ _; have HG5 := Lib.hid (HAL.out.grown hg5 (by simp) (fun q hq => by cases hq)); have HO5 := Lib.hid hown5; clear hown5 hg5)
        | (at_builtin; refine wpl_appN 40 5 Tryz.underlying40 info8 rfl (by decide) rfl _ _ rfl W4.heap.size v5 (0 + 4) ([] ++ u8s [2, 130, 2, 4]) rfl HO5.out (some ⟨g8, 0, none⟩) n n rfl (u8s bl) (by rw [u8s_len, HBL.out.1]) (fun h => (own8_rd2 ((HBG.out.under HG5.out))).news (by rw [HBL.out.1]; exact h)) (fun _ h => by cases h) (u8s_one8 _) (by omega) HG5.out.size ?_; intro v6 w6 hown6 hg6 _ _; have HG6 := Lib.hid (HG5.out.grown hg6 HG5.out.size (fun q hq => (World.ownsRow.lt HO5.out q hq).1)); have HO6 := Lib.hid hown6; clear hown6 hg6)
        | (at_builtin; refine wpl_appN 40 5 Tryz.underlying40 info8 rfl (by decide) rfl _ _ rfl W4.heap.size v6 (0 + 4 + n) ([] ++ u8s [2, 130, 2, 4] ++ u8s bl) rfl (HO6.out.alloc _) (some ⟨w6.heap.size, 0, none⟩) 3 3 rfl (u8s [2, 1, 3]) rfl (fun _ => (rd_lit8 (w := w6) 5 [2, 1, 3] #[.int .u8 2, .int .u8 1, .int .u8 3] rfl).news (by simp)) (fun h => by cases h) (u8s_one8 _) (by omega) (by have := HG6.out.size; simp; omega) ?_; intro v7 w7 hown7 hg7 _ _; have HG7 := Lib.hid ((HG6.out.alloc HG6.out.size _).grown hg7 (by have := HG6.out.size; simp; omega) (fun q hq => (World.ownsRow.lt HO6.out q hq).1)); obtain ⟨a7, c7, hv7, -, hr7, hn7, -⟩ := own8_open (own8_of hown7 (HM.out.symm.trans HBB.out.1.symm) HBB.out.2.2.symm); rw [HBB.out.1] at hv7; subst hv7; have HR7 := Lib.hid hr7; have HN7 := Lib.hid hn7; clear hr7 hn7 hown7 hg7)
        | (at_builtin; refine wpl_appN 40 5 Tryz.underlying40 info8 rfl (by decide) rfl _ _ rfl w7.heap.size (.slice none 0 0) 0 [] rfl (World.ownsRow_nil _ _ _ _) (some ⟨w7.heap.size, 0, none⟩) 4 4 rfl (u8s [48, 130, x2, y2]) rfl (fun _ => (rd_lit8 (w := w7) 5 [48, 130, x2, y2] #[.int .u8 48, .int .u8 130, .int .u8 (x2 : Nat), .int .u8 (y2 : Nat)] rfl).news (by simp)) (fun h => by cases h) (u8s_one8 _) (by decide) (by simp) ?_; intro v8 w8 hown8 hg8 _ _; have HG8 := Lib.hid (((Below.refl w7.heap.size w7).alloc (Nat.le_refl _) _).grown hg8 (by simp) (fun q hq => by cases hq)); have HO8 := Lib.hid hown8; clear hown8 hg8)
        | (at_builtin; refine wpl_appN 40 5 Tryz.underlying40 info8 rfl (by decide) rfl _ _ rfl w7.heap.size v8 (0 + 4) ([] ++ u8s [48, 130, x2, y2]) rfl HO8.out a7 m c7 rfl (u8s bb) (by rw [u8s_len, HBB.out.1]) (fun h => (HR7.out.below HG8.out).news (by rw [HBB.out.1]; exact h)) (fun _ h => HN7.out h) (u8s_one8 _) (by omega) HG8.out.size ?_; intro v9 w9 hown9 hg9 _ _; have HG9 := Lib.hid (HG8.out.grown hg9 HG8.out.size (fun q hq => (World.ownsRow.lt HO8.out q hq).1)); have HO9 := Lib.hid hown9; clear hown9 hg9))
      have hw9 : Below W4.heap.size W4 w9 := HG7.out.trans (HG9.out.mono HG7.out.size)
      have hl9 : ([48, 130, x2, y2] ++ bb).length = 0 + 4 + m := by rw [List.length_append, HBB.out.1]; rfl
      have hown : own8 w9 w7.heap.size v9 ([48, 130, x2, y2] ++ bb) := own8_of HO9.out hl9.symm (by simp [u8s])
      obtain ⟨a9, c9, hv9, -, -, -, -⟩ := own8_open hown
      rw [hl9] at hv9
      subst hv9
      have HBW := Lib.hid (bw_own hown hl9 H82.out)
      have NS := Lib.hid (NS.out.below hw9)
      have h400 : 400 ≤ 0 + 4 + m := by have := HM.out; omega
      clear hown hl9 hw9 HG5 HG6 HG7 HG8 HG9 HO5 HO6 HO8 HO9 HR7 HN7 HBB H82 HAL HM HBG HBL
      clear k1 k2 k3 k4 k5 k515 k0
      generalize [48, 130, x2, y2] ++ bb = sb at *
      generalize 0 + 4 + m = l9 at *
      have hc9 := HBW.out.2.1
      obtain ⟨ab, ao, ea⟩ := HBW.out.2.2.2.2.2.isAt (by rw [HBW.out.1]; omega)
      subst ea
      have HBV : Hid (BW8 w9 (some ⟨ab, ao, none⟩) 400 c9 (sb.take 400)) :=
        ⟨by rw [List.length_take, HBW.out.1]; omega, by omega, HBW.out.2.2.1, (fun h => by cases h), (fun x hx => HBW.out.2.2.2.2.1 x (List.mem_of_mem_take hx)), HBW.out.2.2.2.2.2.take 400⟩
      obtain ⟨X, hX⟩ : ∃ X, strN (hexL sb) = X := ⟨_, rfl⟩
      have hXs : X.size = 2 * l9 := by rw [← hX, strN_size, hexL_len, HBW.out.1]
      obtain ⟨Y, hY⟩ : ∃ Y, strN (hexL (sb.take 400)) = Y := ⟨_, rfl⟩
      have hYs : Y.size = 800 := by rw [← hY, strN_size, hexL_len, HBV.out.1]
      have HX := Lib.hid hX
      have HY := Lib.hid hY
      have HXS := Lib.hid hXs
      have HYS := Lib.hid hYs
      have T1 : Hid (((⟨#[114, 115, 97, 45, 104, 101, 120, 58]⟩ : ByteArray) ++ X).size = 8 + 2 * l9) := by show _ = _; rw [ByteArray.size_append, hXs]; rfl
      have T2 : Hid (((⟨#[114, 115, 97, 45, 104, 101, 120, 58]⟩ : ByteArray) ++ Y).size = 808) := by show _ = _; rw [ByteArray.size_append, hYs]; rfl
      have hl5 : 8 + 2 * l9 ≤ 1048576 := by omega
      have z1 : ¬ 9223372036854775807 < 8 + 2 * l9 := by omega
      have z2 : (400 : Int) ≤ (c9 : Int) := by omega
      have z3 : (0 : Int) ≤ 400 := by decide
      clear hX hY hn2 hn1 hn10 h400 hq1 hin hi
      go_upto_region 22 with fail
      have NS := Lib.hid (NS.out.below (Below.refl _ _).drew)
      have HBW := Lib.hid (HBW.out.below (Below.refl _ _).drew)
      have HBV := Lib.hid (HBV.out.below (Below.refl _ _).drew)
      go_region_held3 (fun W => True)
        (trivial)
        (first
          | (go_at_call 45; (first | with_reducible refine (HBW.out.hex hm10 HX.out).mono ?_ | with_reducible refine (HBV.out.hex (by decide) HY.out).mono ?_)
             rintro e w13 ⟨rfl, hb⟩
             have NS := Lib.hid (NS.out.below hb)
             have HBW := Lib.hid (HBW.out.below hb)
             have HBV := Lib.hid (HBV.out.below hb)
             clear hb)
          | (go_at_call 4; (with_reducible refine (k_tell _ _ (8 + 2 * l9) 808 T1.out hl5 T2.out (by decide) NS.out.hh NS.out.bb).mono ?_)
             rintro e w14 ⟨rfl, hb⟩
             have NS := Lib.hid (NS.out.below hb)
             clear hb)
          | (go_at_call 19; (with_reducible refine (works9 _ NS.out.hh NS.out.bb).mono ?_)
             rintro e w15 ⟨rfl, hb⟩
             have NS := Lib.hid (NS.out.below hb)
             clear hb))
      all_goals
        go_wp2
        go_ret
        exact ⟨rfl, NS.out.bl⟩
end Go.Proofs.YtaookoejdnkkoaaGreatDoor
