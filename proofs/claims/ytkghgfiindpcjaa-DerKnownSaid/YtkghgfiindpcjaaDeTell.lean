import Derived.Test.YtkghgfiindpcjaaDeZ
import Derived.Test.YtkghgfiindpcjaaMovesB
namespace Go.Proofs.Ytkghgfiindpcjaa
open Go.RowKit

/-! DerTells. -/
def LRow (w : World) (B g n d : Nat) (xs : List Nat) : Prop := w.ownsRow B 56 1 (.slice (some ⟨g, 0, none⟩) (n + 16) d) (n + 16) (u64s xs ++ mksw 16)
theorem LRow.rd {w : World} {B g n d : Nat} {xs : List Nat} (h : LRow w B g n d xs) (hn : xs.length = n) : Rd .u64 w (some ⟨g, 0, none⟩) xs := fun _ _ => ⟨g, 0, rfl, fun i hi => by
  rw [Nat.zero_add, World.ownsRow.cellAt h i (by omega), List.getElem?_append_left (by rw [u64s_len]; exact hi), u64s, List.getElem?_map, List.getElem?_eq_getElem hi, List.getD_eq_getElem?_getD, List.getElem?_eq_getElem hi]; rfl⟩
theorem LRow.cap {w : World} {B g n d : Nat} {xs : List Nat} (h : LRow w B g n d xs) : n ≤ d := by
  rcases h.2 with ⟨h, _⟩ | ⟨g', c', cur, h, _, _, hn, _⟩
  · cases h
  · cases h; omega
theorem LRow.below {w w' : World} {B g n d : Nat} {xs : List Nat} (h : LRow w B g n d xs) (hb : Below w.heap.size w w') : LRow w' B g n d xs :=
  (Chg.of_below hb).owns h (fun k hk => by have := (World.ownsRow.lt h k hk).2; omega)
theorem LRow.base {w : World} {B B' g n d : Nat} {xs : List Nat} (h : LRow w B g n d xs) (hB : B' ≤ B) : LRow w B' g n d xs := owns_base h hB

set_option maxHeartbeats 4000000 in
set_option maxRecDepth 100000 in
theorem lentKey_any (aN : Option Addr) (lN cN : Nat) (Ns : List Nat) (aE : Option Addr) (lE cE : Nat) (Es : List Nat) (w : World)
    (hlN : Ns.length = lN) (hbN : lN ≤ 1048576) (hrN : Rd .u64 w aN Ns) (hlE : Es.length = lE) (hbE : lE ≤ 1048576) (hrE : Rd .u64 w aE Es) :
    Calls Try.prog 24 #[.agg #[.slice aN lN cN, .slice aE lE cE]] w fun e w' => ∃ g1 d1 g2 d2, e = .returned (.agg #[.slice (some ⟨g1, 0, none⟩) lN d1, .slice (some ⟨g2, 0, none⟩) lE d2]) ∧ LRow w' w.heap.size g1 lN d1 Ns ∧ LRow w' w.heap.size g2 lE d2 Es ∧ Below w.heap.size w w' := by
  have HLN := Lib.hid hlN
  have HLE := Lib.hid hlE
  have HRN := Lib.hid (fun (W : World) (h : Below w.heap.size w W) => hrN.below h)
  have HRE := Lib.hid (fun (W : World) (h : Below w.heap.size w W) => hrE.below h)
  have hbN' : lN ≤ 1099511627776 := by omega
  have hbE' : lE ≤ 1099511627776 := by omega
  clear hlN hrN hlE hrE
  have HW : Hid (Below w.heap.size w ((w.alloc (KO (.slice aN lN cN) (.slice aE lE cE))).alloc (KO (.slice none 0 0) (.slice none 0 0))).drew) := (((Below.refl w.heap.size w).alloc (Nat.le_refl _) _).alloc (by simp) _).drew
  have HE : Hid (((w.alloc (KO (.slice aN lN cN) (.slice aE lE cE))).alloc (KO (.slice none 0 0) (.slice none 0 0))).drew.heap[w.heap.size]? = some (KO (.slice aN lN cN) (.slice aE lE cE))) := heap_alloc2_old w (KO (.slice aN lN cN) (.slice aE lE cE)) (KO (.slice none 0 0) (.slice none 0 0))
  have HG : Hid (((w.alloc (KO (.slice aN lN cN) (.slice aE lE cE))).alloc (KO (.slice none 0 0) (.slice none 0 0))).drew.heap[w.heap.size + 1]? = some (KO (.slice none 0 0) (.slice none 0 0))) := heap_alloc2_new w (KO (.slice aN lN cN) (.slice aE lE cE)) (KO (.slice none 0 0) (.slice none 0 0))
  have hsz0 : w.heap.size + 2 ≤ ((w.alloc (KO (.slice aN lN cN) (.slice aE lE cE))).alloc (KO (.slice none 0 0) (.slice none 0 0))).drew.heap.size := by
    show _ ≤ ((w.alloc (KO (.slice aN lN cN) (.slice aE lE cE))).alloc (KO (.slice none 0 0) (.slice none 0 0))).heap.size
    simp
  have HSZ0 := Lib.hid hsz0
  clear hsz0
  go_enter Try.func24, Try.ntmps24
  go_wp2_with fail
  go_region_held3 (fun W => W.cell? ⟨w.heap.size, 0, none⟩ = some (.slice aN lN cN) ∧ W.cell? ⟨w.heap.size, 1, none⟩ = some (.slice aE lE cE))
    (first | exact KO.cells HE.out | exact KO.cells (other_set (other_set HE.out (by omega) _) (by omega) _))
    (first
      | (go_at_call 49; (with_reducible refine (lentWords_any aN lN cN Ns _ HLN.out hbN' (HRN.out _ HW.out)).mono ?_)
         rintro e w1 ⟨g1, d1, rfl, hO, -, hb1⟩
         have HE := Lib.hid (KO.below HE.out hb1)
         have HG := Lib.hid (KO.below HG.out hb1)
         have HO1 := Lib.hid (show LRow w1 (w.heap.size + 2) g1 lN d1 Ns from owns_base hO HSZ0.out)
         have HW := Lib.hid (HW.out.trans (hb1.mono HW.out.size))
         clear hO hb1)
      | (go_at_call 49; (with_reducible refine (lentWords_any aE lE cE Es _ HLE.out hbE' (HRE.out _ HW.out)).mono ?_)
         rintro e w2 ⟨g2, d2, rfl, hO, -, hb2⟩
         have HE := Lib.hid (KO.below HE.out hb2)
         have HG := Lib.hid (KO.below HG.out hb2)
         have hlg := lt_of_block HG.out
         have HO2 := Lib.hid (show LRow w2 (w.heap.size + 2) g2 lE d2 Es from owns_base hO (by have := HO1.out.2; have := lt_of_block (show w1.heap[w.heap.size + 1]? = some (KO (.slice none 0 0) (.slice none 0 0)) by assumption); omega))
         have HO1 := Lib.hid (HO1.out.below hb2)
         have HW := Lib.hid (HW.out.trans (hb2.mono HW.out.size))
         have kz0 := frozen_alloc (i := 0) HG.out
         have kz1 := frozen_alloc (i := 1) HG.out
         obtain ⟨kc0, kc1⟩ := KO.cells HG.out
         clear hO hb2))
  go_wp2
  have b1 := heap_setCell_same _ (w.heap.size + 1) 0 _ _ (.slice (some ⟨g1, 0, none⟩) lN d1) HG.out
  have b2 := heap_setCell_same _ (w.heap.size + 1) 1 _ _ (.slice (some ⟨g2, 0, none⟩) lE d2) b1
  have hC : Chg (fun k => k = w.heap.size + 1) w2 ((w2.setCell ⟨w.heap.size + 1, 0, none⟩ (.slice (some ⟨g1, 0, none⟩) lN d1)).setCell ⟨w.heap.size + 1, 1, none⟩ (.slice (some ⟨g2, 0, none⟩) lE d2)) :=
    ((Chg.refl (fun k => k = w.heap.size + 1) w2).setCell (p := ⟨w.heap.size + 1, 0, none⟩) rfl _).setCell (p := ⟨w.heap.size + 1, 1, none⟩) rfl _
  refine bodyPost_ret (results_Ky rfl rfl b2) rfl ⟨g1, d1, g2, d2, rfl, ?_, ?_, (HW.out.setCell (Nat.le_succ _) _).setCell (Nat.le_succ _) _⟩
  · exact LRow.base (hC.owns HO1.out (fun k hk he => by have := (World.ownsRow.lt HO1.out k hk).1; have he : k = w.heap.size + 1 := he; omega)) (by omega)
  · exact LRow.base (hC.owns HO2.out (fun k hk he => by have := (World.ownsRow.lt HO2.out k hk).1; have he : k = w.heap.size + 1 := he; omega)) (by omega)
set_option maxHeartbeats 800000 in
theorem keptKey_any (B g1 d1 g2 d2 : Nat) (aN : Option Addr) (lN cN : Nat) (Ns : List Nat) (aE : Option Addr) (lE cE : Nat) (Es : List Nat) (w : World)
    (hlN : Ns.length = lN) (hbN : lN ≤ 1048576) (hrN : Rd .u64 w aN Ns) (hlE : Es.length = lE) (hbE : lE ≤ 1048576) (hrE : Rd .u64 w aE Es) (h1 : LRow w B g1 lN d1 Ns) (h2 : LRow w B g2 lE d2 Es) :
    Calls Try.prog 29 #[.agg #[.slice (some ⟨g1, 0, none⟩) lN d1, .slice (some ⟨g2, 0, none⟩) lE d2], .agg #[.slice aN lN cN, .slice aE lE cE]] w fun e w' => e = .returned (.bool true) ∧ Below w.heap.size w w' := by
  obtain ⟨W2, hW2⟩ : ∃ W2, W2 = (w.alloc (KO (.slice (some ⟨g1, 0, none⟩) lN d1) (.slice (some ⟨g2, 0, none⟩) lE d2))).alloc (KO (.slice aN lN cN) (.slice aE lE cE)) := ⟨_, rfl⟩
  have HB := Lib.hid (((Below.refl w.heap.size w).alloc (Nat.le_refl _) (KO (.slice (some ⟨g1, 0, none⟩) lN d1) (.slice (some ⟨g2, 0, none⟩) lE d2))).alloc (by simp) (KO (.slice aN lN cN) (.slice aE lE cE)))
  have HA1 := Lib.hid (heap_alloc2_old w (KO (.slice (some ⟨g1, 0, none⟩) lN d1) (.slice (some ⟨g2, 0, none⟩) lE d2)) (KO (.slice aN lN cN) (.slice aE lE cE)))
  have HA2 := Lib.hid (heap_alloc2_new w (KO (.slice (some ⟨g1, 0, none⟩) lN d1) (.slice (some ⟨g2, 0, none⟩) lE d2)) (KO (.slice aN lN cN) (.slice aE lE cE)))
  rw [← hW2] at HB HA1 HA2
  have H1 := Lib.hid (h1.below HB.out)
  have H2 := Lib.hid (h2.below HB.out)
  have H3 := Lib.hid (hrN.below HB.out)
  have H4 := Lib.hid (hrE.below HB.out)
  have HX := Lib.hid hlN
  have HY := Lib.hid hlE
  have HWW := Lib.hid hW2
  clear hW2 h1 h2 hrN hrE hlN hlE
  obtain ⟨-, k1⟩ := KO.cells HA1.out
  obtain ⟨-, k2⟩ := KO.cells HA2.out
  have k3 := k1
  have k4 := k2
  rw [HWW.out] at k3 k4
  go_enter Try.func29, Try.ntmps29
  go_wp2_with fail
  rw [← HWW.out]
  refine (keptWords_any aN B g1 lN cN d1 Ns _ HX.out (by omega) H3.out H1.out).mono ?_
  rintro e w5 ⟨rfl, rfl⟩
  go_wp2_with fail
  clear k1 k2 k3 k4
  refine (keptWords_any aE B g2 lE cE d2 Es _ HY.out (by omega) H4.out H2.out).mono ?_
  rintro e w6 ⟨rfl, rfl⟩
  go_wp2
  go_ret
  exact ⟨rfl, HB.out⟩

set_option maxHeartbeats 4000000 in
set_option maxRecDepth 100000 in
theorem derTells_any (aN : Option Addr) (lN cN : Nat) (Ns : List Nat) (aE : Option Addr) (lE cE : Nat) (Es : List Nat) (w : World)
    (hlN : Ns.length = lN) (hbN : lN ≤ 9223372036854775807) (hrN : Rd .u64 w aN Ns) (bxN : Bd Ns) (hlE : Es.length = lE) (hbE : lE ≤ 9223372036854775807) (hrE : Rd .u64 w aE Es) (bxE : Bd Es) :
    Calls Try.prog 5 #[.agg #[.slice aN lN cN, .slice aE lE cE]] w fun e w' => e = .returned (.bool true) ∧ Below w.heap.size w w' := by
  have HLN := Lib.hid hlN
  have HXN := Lib.hid bxN
  have HLE := Lib.hid hlE
  have HXE := Lib.hid bxE
  have HRN := Lib.hid (fun (W : World) (h : Below w.heap.size w W) => hrN.below h)
  have HRE := Lib.hid (fun (W : World) (h : Below w.heap.size w W) => hrE.below h)
  clear hlN hrN bxN hlE hrE bxE
  by_cases hbig : 200 < lN ∨ 200 < lE
  · have hor : decide ((200 : Int) < (lN : Int)) = true ∨ (decide ((200 : Int) < (lN : Int)) = false ∧ decide ((200 : Int) < (lE : Int)) = true) := by
      by_cases h : 200 < lN
      · exact .inl (decide_eq_true (by omega))
      · exact .inr ⟨decide_eq_false (by omega), decide_eq_true (by omega)⟩
    clear hbig
    rcases hor with g1 | ⟨g1, g2⟩
    all_goals
      go_enter Try.func5, Try.ntmps5
      go_wp2
      go_ret
      exact ⟨rfl, (Below.refl _ _).alloc (Nat.le_refl _) _⟩
  · have q1 : decide ((200 : Int) < (lN : Int)) = false := decide_eq_false (by omega)
    have q2 : decide ((200 : Int) < (lE : Int)) = false := decide_eq_false (by omega)
    obtain ⟨W0, hW0⟩ : ∃ W0, W0 = w.alloc (KO (.slice aN lN cN) (.slice aE lE cE)) := ⟨_, rfl⟩
    have HWW := Lib.hid hW0
    have HB : Hid (Below w.heap.size w W0) := by show Below _ _ _; rw [hW0]; exact (Below.refl _ _).alloc (Nat.le_refl _) _
    have HK1 : Hid (W0.heap[w.heap.size]? = some (KO (.slice aN lN cN) (.slice aE lE cE))) := by show _ = _; rw [hW0]; exact heap_new _ _
    clear hW0
    go_enter Try.func5, Try.ntmps5
    go_wp2_with fail
    rw [← HWW.out]
    clear HWW
    refine (lentKey_any aN lN cN Ns aE lE cE Es _ HLN.out (by omega) (HRN.out _ HB.out) HLE.out (by omega) (HRE.out _ HB.out)).mono ?_
    rintro e w1 ⟨g1, d1, g2, d2, rfl, hr1, hr2, hb⟩
    have hbs := HB.out.size
    obtain ⟨g3, hg3⟩ : ∃ g3, g3 = w1.heap.size := ⟨_, rfl⟩
    obtain ⟨W1, hW1⟩ : ∃ W1, W1 = w1.alloc (KO (.slice (some ⟨g1, 0, none⟩) lN d1) (.slice (some ⟨g2, 0, none⟩) lE d2)) := ⟨_, rfl⟩
    have hb2 : Below w1.heap.size w1 W1 := by rw [hW1]; exact (Below.refl _ _).alloc (Nat.le_refl _) _
    have HK3 : Hid (W1.heap[g3]? = some (KO (.slice (some ⟨g1, 0, none⟩) lN d1) (.slice (some ⟨g2, 0, none⟩) lE d2))) := by show _ = _; rw [hW1, hg3]; exact heap_new _ _
    have HK1 := Lib.hid (KO.below (KO.below HK1.out hb) hb2)
    have HL1 := Lib.hid (LRow.below (hr1.base hbs) hb2)
    have HL2 := Lib.hid (LRow.below (hr2.base hbs) hb2)
    have HB := Lib.hid ((HB.out.trans (hb.mono hbs)).trans (hb2.mono (by have := hb.size; omega)))
    have HWW := Lib.hid (And.intro hW1 hg3)
    clear hr1 hr2 hb hb2 hW1 hg3 hbs
    obtain ⟨k0, k1⟩ := KO.cells HK3.out
    rw [HWW.out.1, HWW.out.2] at k0 k1
    go_wp2_with fail
    rw [← HWW.out.1, ← HWW.out.2]
    clear k0 k1 HWW
    have c1 := HL1.out.cap
    have c2 := HL2.out.cap
    refine (encode_any _ lN d1 Ns _ lE d2 Es _ HLN.out (by omega) c1 (HL1.out.rd HLN.out) HXN.out HLE.out (by omega) c2 (HL2.out.rd HLE.out) HXE.out).mono ?_
    rintro e w2 ⟨hb, a5, c5, k, b, rfl, ho, hT⟩
    have HT := Lib.hid hT
    have hbl : b.length ≤ 1046 := by
      rcases hT with ⟨h1, h2, _, h3⟩ | ⟨_, _, rfl⟩
      · exact (h3.len h1 h2).2
      · exact Nat.zero_le _
    obtain ⟨n, hn⟩ : ∃ n, n = b.length := ⟨_, rfl⟩
    have HN := Lib.hid hn
    have hsp : Sep w2 W1.heap.size [rw8 (.slice a5 b.length c5) b] := ⟨fun r hr => by
      obtain rfl : r = _ := by simpa using hr
      exact ho, List.pairwise_singleton _ _⟩
    have HS := Lib.hid hsp
    have HX := Lib.hid hb
    have HK3' := Lib.hid (KO.below HK3.out hb)
    rw [← hn] at HS hbl ⊢
    clear hb ho hT hn hsp
    obtain ⟨k0, k1⟩ := KO.cells HK3'.out
    go_wp2_with fail
    clear k0 k1
    refine (encode_any _ lN d1 Ns _ lE d2 Es _ HLN.out (by omega) c1 ((HL1.out.below HX.out).rd HLN.out) HXN.out HLE.out (by omega) c2 ((HL2.out.below HX.out).rd HLE.out) HXE.out).mono ?_
    rintro e w3 ⟨hb, a6, c6, k2, b2, rfl, ho, hT⟩
    obtain ⟨rfl, rfl⟩ := hT.one HT.out
    have hsp : Sep w3 w2.heap.size [rw8 (.slice a6 b2.length c6) b2] := ⟨fun r hr => by
      obtain rfl : r = _ := by simpa using hr
      exact ho, List.pairwise_singleton _ _⟩
    rw [← HN.out] at hsp ⊢
    have HS := Lib.hid (HS.out.join HX.out.size hb (Nat.le_refl _) hsp)
    have HX := Lib.hid (HX.out.trans (hb.mono HX.out.size))
    clear hb ho hT hsp HK3'
    have hk1 := KO.below HK1.out HX.out
    obtain ⟨k0, k1⟩ := KO.cells hk1
    clear hk1
    go_wp2_with fail
    clear k0 k1
    refine (rencode_any aN lN cN Ns aE lE cE Es _ HLN.out (by omega) (HRN.out _ (HB.out.trans (HX.out.mono HB.out.size))) HXN.out HLE.out (by omega) (HRE.out _ (HB.out.trans (HX.out.mono HB.out.size))) HXE.out).mono ?_
    rintro e w4 ⟨hb, a7, c7, k3, b3, rfl, ho, hT⟩
    obtain ⟨rfl, rfl⟩ := hT.one HT.out
    rw [← HN.out]
    have HO7 := Lib.hid (own8_rd2 ho)
    have HS := Lib.hid (HS.out.belowS hb)
    have HX := Lib.hid (HX.out.trans (hb.mono HX.out.size))
    clear hb ho hT HT
    have hkk : (k3 != k3) = false := by simp
    have r5 := own8_rd2 (show own8 w4 W1.heap.size (.slice a5 n c5) b3 from HS.out.1 (rw8 (.slice a5 n c5) b3) (by simp))
    have r6 := own8_rd2 (show own8 w4 W1.heap.size (.slice a6 n c6) b3 from HS.out.1 (rw8 (.slice a6 n c6) b3) (by simp))
    have HR5 := Lib.hid r5
    have HR6 := Lib.hid r6
    clear r5 r6
    go_wp2_with fail
    refine (bytes_same _ _ n _ _ b3 _ HN.out.symm (by omega) HR5.out HO7.out).mono ?_
    rintro e w5 ⟨rfl, nq, hw⟩
    have hb7 : Below w4.heap.size w4 w5 := by rw [hw]; exact Below.drewM (Below.refl _ _) nq
    have HS := Lib.hid (HS.out.belowS hb7)
    have HX := Lib.hid (HX.out.trans (hb7.mono HX.out.size))
    have HR6 := Lib.hid (HR6.out.below hb7)
    have HO7 := Lib.hid (HO7.out.below hb7)
    clear hw hb7 HR5
    go_wp2_with fail
    refine (bytes_same _ _ n _ _ b3 _ HN.out.symm (by omega) HR6.out HO7.out).mono ?_
    rintro e w6 ⟨rfl, nq, hw⟩
    have hb7 : Below w5.heap.size w5 w6 := by rw [hw]; exact Below.drewM (Below.refl _ _) nq
    have HS := Lib.hid (HS.out.belowS hb7)
    have HX := Lib.hid (HX.out.trans (hb7.mono HX.out.size))
    clear hw hb7 HR6 HO7
    have hsep : Sep w6 W1.heap.size (rwNo :: rwNo8 :: ([] ++ [rw8 (.slice a5 n c5) b3, rw8 (.slice a6 n c6) b3])) := (HS.out.swap.nilRow _).nilRow _
    have hbok := Bok.start (T := 34) hsep HX.out.size rfl
    have hb7 := (Below.refl w6.heap.size w6).alloc (Nat.le_refl _) (.cells #[.slice none 0 0, .slice none 0 0] 34)
    have HK := Lib.hid hbok
    have HX7 := Lib.hid (HX.out.trans (hb7.mono HX.out.size))
    have hszX := HX.out.size
    clear hbok hsep hb7 HS
    go_wp2_with fail
    refine (HK.out.bytes a5 n c5 (by decide)).mono ?_
    rintro e w7 ⟨rfl, ⟨vb0, hbok⟩, hb7⟩
    have HK := Lib.hid hbok
    have HX8 := Lib.hid (HX7.out.trans (hb7.mono hszX))
    clear hbok hb7
    go_wp2_with fail
    refine (HK.out.bytes a6 n c6 (by simp)).mono ?_
    rintro e w8 ⟨rfl, ⟨vb1, hbok⟩, hb7⟩
    have HK := Lib.hid hbok
    have HX9 := Lib.hid (HX8.out.trans (hb7.mono hszX))
    clear hbok hb7
    go_wp2_with fail
    refine (Bok.apart (WL := []) (BL := [rw8 (.slice a5 n c5) b3, rw8 (.slice a6 n c6) b3]) HK.out (fun s hs => by cases hs) (fun s hs => ?_) (by decide) (by simp)).mono ?_
    · simp only [List.mem_cons, List.mem_nil_iff, or_false] at hs
      rcases hs with rfl | rfl <;> exact ⟨rfl, by simp only [rw8]; have := HN.out; omega⟩
    rintro e w9 ⟨rfl, hb9⟩
    have HXF := Lib.hid (HX9.out.trans hb9)
    have hk1 := KO.below HK1.out HXF.out
    have hk3 := KO.below HK3.out HXF.out
    have HLF1 := Lib.hid (HL1.out.below HXF.out)
    have HLF2 := Lib.hid (HL2.out.below HXF.out)
    have HBF := Lib.hid (HB.out.trans (HXF.out.mono HB.out.size))
    obtain ⟨k0, k1⟩ := KO.cells hk1
    obtain ⟨k2', k3'⟩ := KO.cells hk3
    clear hb9 HK hk1 hk3
    go_wp2_with fail
    clear k0 k1 k2' k3'
    refine (keptKey_any w.heap.size g1 d1 g2 d2 aN lN cN Ns aE lE cE Es _ HLN.out (by omega) (HRN.out _ HBF.out) HLE.out (by omega) (HRE.out _ HBF.out) HLF1.out HLF2.out).mono ?_
    rintro e w10 ⟨rfl, hb⟩
    have HBF2 := Lib.hid (HBF.out.trans (hb.mono HBF.out.size))
    clear hb
    go_wp2_with fail
    refine (works7_any _).mono ?_
    rintro e w11 ⟨rfl, hb⟩
    have HBG := Lib.hid (HBF2.out.trans (hb.mono HBF2.out.size))
    clear hb
    go_wp2
    go_ret
    exact ⟨rfl, HBG.out⟩
end Go.Proofs.Ytkghgfiindpcjaa
