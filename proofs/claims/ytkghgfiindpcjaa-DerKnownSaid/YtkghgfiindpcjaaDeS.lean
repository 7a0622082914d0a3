import Derived.Test.YtkghgfiindpcjaaDeR
import Derived.Deep.RegionHeld3
namespace Go.Proofs.Ytkghgfiindpcjaa
open Go.RowKit

/-! DerBack. -/
theorem own64_of {w : World} {B k : Nat} {v : Value} {zs : List Nat} (h : w.ownsRow B 56 1 v k (u64s zs)) (h2 : zs.length = k) : own64 w B v zs := by
  subst h2; exact h
set_option maxHeartbeats 1000000 in
set_option maxRecDepth 100000 in
theorem dsome_any (a : Option Addr) (la ca K : Nat) (xs : List Nat) (w : World) (hla : xs.length = la) (hba : la ≤ 9223372036854775807) (hK : K ≤ 128) (hra : Rd .u64 w a xs) (bx : Bd xs) :
    Calls Try.prog 30 #[.slice a la ca, .int .i64 (K : Nat)] w fun e w' => ∃ v, e = .returned v ∧ own64 w' w.heap.size v (xs.take K) ∧ Below w.heap.size w w' := by
  have HBX := Lib.hid bx
  have HR := Lib.hid hra
  clear hra bx
  go_enter Try.func30, Try.ntmps30
  go_wp2
  go_loopw [5, 6] (fun v i wr => ∃ k : Nat, k ≤ la ∧ k ≤ K ∧ i = .int .i64 k ∧ Hid (wr.ownsRow w.heap.size 56 1 v k (u64s (xs.take k))) ∧ Hid (Below w.heap.size w wr)) (fun _ i _ => K - (intOf i).toNat)
  case atStart => exact ⟨0, Nat.zero_le _, Nat.zero_le _, rfl, World.ownsRow_nil _ _ _ _, Below.refl _ _⟩
  case round =>
    obtain ⟨k, hk, hkK, rfl, HO, HB⟩ := hrel
    by_cases hlt : k < la ∧ k < K
    · obtain ⟨hl1, hl2⟩ := hlt
      obtain ⟨b, off, rfl⟩ := HR.out.isAt (by omega)
      have hcell : wr.cell? ⟨b, off + k, none⟩ = some (.int .u64 (xs.getD k 0 : Nat)) := below_cell HB.out _ _ (HR.out.cell (by omega))
      have hq1 : decide (k < la) = true := by rw [decide_eq_true_iff]; omega
      have hq2 : decide (k < K) = true := by rw [decide_eq_true_iff]; omega
      generalize hxe : xs.getD k 0 = x at hcell
      have hx := Lib.hid hxe
      clear hxe
      have hsz := HB.out.size
      go_wp2_with (at_builtin; refine wpl_app 27 56 Try.underlying27 info64 rfl (by decide) rfl _ _ rfl w.heap.size _ k (u64s (xs.take k)) rfl (World.ownsRow.alloc HO.out _) wr.heap.size _ rfl (World.cell?_alloc_at _ _ _ _ rfl) rfl (by omega) (by simp; omega) ?_; intro g cap' w1 hown1 hg1 hBg _ _; have HO1 := Lib.hid hown1; have HG1 := Lib.hid hg1; clear hown1 hg1)
      go_roundw
      case rel =>
        exact ⟨k + 1, by omega, by omega, by go_num, by show World.ownsRow _ _ _ _ _ _ _; rw [u64s_snoc xs k x (by omega) hx]; exact HO1.out, (HB.out.alloc HB.out.size _).grown HG1.out (by have := HB.out.size; simp; omega) (fun j hj => (World.ownsRow.lt HO.out j hj).1)⟩
      case measure => simp [intOf]; omega
    · have hq : (decide (k < la) = false) ∨ (decide (k < la) = true ∧ decide (k < K) = false) := by
        rw [decide_eq_false_iff_not, decide_eq_true_iff, decide_eq_false_iff_not]; omega
      have htk : Hid (xs.take k = xs.take K ∧ (xs.take k).length = k) := by
        refine ⟨?_, by rw [List.length_take]; omega⟩
        rcases Nat.lt_or_ge k la with h | h
        · rw [show k = K by omega]
        · rw [List.take_of_length_le (by omega), List.take_of_length_le (by omega)]
      have HOW := Lib.hid (own64_of HO.out htk.out.2)
      have HBT := Lib.hid (HBX.out.take k)
      clear HO
      have hfin := HOW.out
      rw [htk.out.1] at hfin
      have hfin := Lib.hid hfin
      rcases hq with hq | ⟨hq, hq2⟩
      all_goals
        go_wp2
        go_ret
        exact ⟨_, rfl, hfin.out, HB.out⟩


theorem KeyB.b8 {n e : Nat} {b : List Nat} (h : KeyB n e b) : B8 b := by
  obtain ⟨cn, ce, xn, xe, h1, h2, h3, h4, h5⟩ := h
  exact h5.b8 (by decide) (b8_app (h3.b8 (by decide) h1.b8) (h4.b8 (by decide) h2.b8))
theorem KeyB.len {n e : Nat} {b : List Nat} (h : KeyB n e b) (hn : n < 2 ^ 4096) (he : e < 2 ^ 4096) : 0 < b.length ∧ b.length ≤ 1046 := by
  obtain ⟨b', h', hl⟩ := KeyB.ex n e hn he
  rw [h.one h']
  obtain ⟨cn, ce, xn, xe, h1, h2, h3, h4, h5⟩ := h'
  have := (h5.of (post := [])).2.2.2
  exact ⟨by omega, hl⟩
theorem lim_of {X : List Nat} (h : Bd X) (hl : X.length ≤ 64) : val X < 2 ^ 4096 := by
  have h1 := val_lt h
  have h2 : (18446744073709551616 : Nat) ^ X.length ≤ 18446744073709551616 ^ 64 := Nat.pow_le_pow_right (by decide) hl
  rw [lim64]
  omega
set_option maxHeartbeats 800000 in
theorem samekey_any (a1 : Option Addr) (p c1 : Nat) (a2 : Option Addr) (q c2 : Nat) (b1 : Option Addr) (d1 : Nat) (b2 : Option Addr) (d2 : Nat) (X Y : List Nat) (w : World) (hX : X.length = p) (hp : p ≤ 1048576) (hY : Y.length = q) (hq : q ≤ 1048576) (h1 : Rd .u64 w a1 X) (h2 : Rd .u64 w a2 Y) (h3 : Rd .u64 w b1 X) (h4 : Rd .u64 w b2 Y) :
    Calls Try.prog 22 #[.agg #[.slice a1 p c1, .slice a2 q c2], .agg #[.slice b1 p d1, .slice b2 q d2]] w fun e w' => e = .returned (.bool true) ∧ Below w.heap.size w w' := by
  have H1 := Lib.hid (fun (W : World) (h : Below w.heap.size w W) => h1.below h)
  have H2 := Lib.hid (fun (W : World) (h : Below w.heap.size w W) => h2.below h)
  have H3 := Lib.hid (fun (W : World) (h : Below w.heap.size w W) => h3.below h)
  have H4 := Lib.hid (fun (W : World) (h : Below w.heap.size w W) => h4.below h)
  have HX := Lib.hid hX
  have HY := Lib.hid hY
  clear h1 h2 h3 h4 hX hY
  have HB := Lib.hid (((Below.refl w.heap.size w).alloc (Nat.le_refl _) (KO (.slice a1 p c1) (.slice a2 q c2))).alloc (by simp) (KO (.slice b1 p d1) (.slice b2 q d2)))
  have HA1 := Lib.hid (heap_alloc2_old w (KO (.slice a1 p c1) (.slice a2 q c2)) (KO (.slice b1 p d1) (.slice b2 q d2)))
  have HA2 := Lib.hid (heap_alloc2_new w (KO (.slice a1 p c1) (.slice a2 q c2)) (KO (.slice b1 p d1) (.slice b2 q d2)))
  obtain ⟨W2, hW2⟩ : ∃ W2, W2 = (w.alloc (KO (.slice a1 p c1) (.slice a2 q c2))).alloc (KO (.slice b1 p d1) (.slice b2 q d2)) := ⟨_, rfl⟩
  rw [← hW2] at HB HA1 HA2
  have HWW := Lib.hid hW2
  clear hW2
  go_enter Try.func22, Try.ntmps22
  go_wp2_with fail
  rw [← HWW.out]
  refine (words_same _ _ p _ _ X _ HX.out (by omega) (H1.out _ HB.out) (H3.out _ HB.out)).mono ?_
  rintro e w5 ⟨rfl, nq, hw⟩
  have hb7 : Below W2.heap.size W2 w5 := by rw [hw]; exact Below.drewM (Below.refl _ _) nq
  have HBF := Lib.hid (HB.out.trans (hb7.mono HB.out.size))
  obtain ⟨-, g1⟩ := KO.cells (KO.below HA1.out hb7)
  obtain ⟨-, g2⟩ := KO.cells (KO.below HA2.out hb7)
  clear hw hb7
  go_wp2_with fail
  refine (words_same _ _ q _ _ Y _ HY.out (by omega) (H2.out _ HBF.out) (H4.out _ HBF.out)).mono ?_
  rintro e w6 ⟨rfl, nq2, hw⟩
  have HBG : Hid (Below w.heap.size w w6) := by show Below _ _ _; rw [hw]; exact Below.drewM HBF.out nq2
  clear hw
  go_wp2
  go_ret
  exact ⟨rfl, HBG.out⟩
theorem dsome64_any (a : Option Addr) (la ca p : Nat) (xs X : List Nat) (w : World) (hla : xs.length = la) (hba : la ≤ 9223372036854775807) (hra : Rd .u64 w a xs) (bx : Bd xs) (hX : X = xs.take 64) (hp : X.length = p) :
    Calls Try.prog 30 #[.slice a la ca, .int .i64 64] w fun e w' => ∃ a1 c1, e = .returned (.slice a1 p c1) ∧ own64 w' w.heap.size (.slice a1 p c1) X ∧ Below w.heap.size w w' := by
  refine (dsome_any a la ca 64 xs w hla hba (by decide) hra bx).mono ?_
  rintro e w' ⟨v, rfl, ho, hb⟩
  rw [← hX] at ho
  obtain ⟨a1, c1, rfl, _⟩ := own64.form ho
  rw [hp] at ho ⊢
  exact ⟨a1, c1, rfl, ho, hb⟩
set_option maxHeartbeats 1000000 in
theorem norm0_any (a : Option Addr) (la ca : Nat) (xs : List Nat) (w : World) (hla : xs.length = la) (hba : la ≤ 128) (hca : la ≤ ca) (hna : a = none → ca = 0) (hra : Rd .u64 w a xs) (bx : Bd xs) :
    Calls Try.prog 31 #[.slice a la ca] w fun e w' => ∃ v zs, e = .returned (.tuple #[v, .int .i64 0]) ∧ own64 w' w.heap.size v zs ∧ Num zs (val xs) ∧ Below w.heap.size w w' := by
  have hfl := (fl_spec xs).1
  have HLA := Lib.hid hla
  have HR := Lib.hid hra
  have HN := Lib.hid (num_fm bx)
  have HNA := Lib.hid hna
  rw [hla] at hfl
  clear hla hra hna
  go_enter Try.func31, Try.ntmps31
  go_wp2_with fail
  refine (one_any a la ca xs _ HLA.out (by omega) hca HR.out).mono ?_
  rintro e w1 ⟨hor, rfl⟩
  rcases hor with ⟨h2, a', c', rfl, g1, g2⟩ | ⟨h2, rfl⟩
  · have hr' : Rd .u64 w a' (fm xs) := by
      intro j hj
      rw [fm_length] at hj
      obtain ⟨rfl, _⟩ := g1 (by omega)
      exact HR.out.take (fl xs) j (by show j < (fm xs).length; rw [fm_length]; exact hj)
    have HRF := Lib.hid hr'
    have HG2 := Lib.hid g2
    have hfx := fm_length xs
    have HFX := Lib.hid hfx
    obtain ⟨q, hq⟩ : ∃ q, q = fl xs := ⟨_, rfl⟩
    have HQ := Lib.hid hq
    rw [← hq] at h2 ⊢
    clear hr' g1 g2 hfx hq hfl
    go_wp2_with fail
    refine (copied_any a' q c' (fm xs) _ (by rw [HFX.out, ← HQ.out]) (by omega) (fun h _ => (HG2.out (by rw [← HQ.out]; exact h)).2) HRF.out).mono ?_
    rintro e w2 ⟨v, rfl, ho, hb, -⟩
    have HO := Lib.hid ho
    have HB := Lib.hid hb
    clear ho hb
    go_wp2
    go_ret2
    exact ⟨_, _, rfl, HO.out, HN.out, HB.out⟩
  · omega

set_option maxHeartbeats 4000000 in
set_option maxRecDepth 100000 in
theorem derBack_any (aN : Option Addr) (lN cN : Nat) (Ns : List Nat) (aE : Option Addr) (lE cE : Nat) (Es : List Nat) (cut : Int) (y : Nat) (w : World)
    (hlN : Ns.length = lN) (hbN : lN ≤ 9223372036854775807) (hrN : Rd .u64 w aN Ns) (bxN : Bd Ns) (hlE : Es.length = lE) (hbE : lE ≤ 9223372036854775807) (hrE : Rd .u64 w aE Es) (bxE : Bd Es) (hz1 : -9223372036854775808 ≤ cut) (hz2 : cut ≤ 9223372036854775807) (hy : y < 256) :
    Calls Try.prog 6 #[.agg #[.slice aN lN cN, .slice aE lE cE], .int .i64 cut, .int .u8 (y : Nat)] w fun e w' => e = .returned (.bool true) ∧ Below w.heap.size w w' := by
  have HLN := Lib.hid hlN
  have HXN := Lib.hid bxN
  have HLE := Lib.hid hlE
  have HXE := Lib.hid bxE
  obtain ⟨X, hX⟩ : ∃ X, X = Ns.take 64 := ⟨_, rfl⟩
  obtain ⟨Y, hY⟩ : ∃ Y, Y = Es.take 64 := ⟨_, rfl⟩
  obtain ⟨p, hp⟩ : ∃ p, X.length = p := ⟨_, rfl⟩
  obtain ⟨q, hq⟩ : ∃ q, Y.length = q := ⟨_, rfl⟩
  have hp64 : p ≤ 64 := by rw [← hp, hX, List.length_take]; omega
  have hq64 : q ≤ 64 := by rw [← hq, hY, List.length_take]; omega
  have HBX : Hid (Bd X) := by show Bd X; rw [hX]; exact HXN.out.take 64
  have HBY : Hid (Bd Y) := by show Bd Y; rw [hY]; exact HXE.out.take 64
  have HEX := Lib.hid hX
  have HEY := Lib.hid hY
  have HP := Lib.hid hp
  have HQ := Lib.hid hq
  clear hX hY hp hq
  have HRN := Lib.hid (fun (W : World) (h : Below w.heap.size w W) => hrN.below h)
  have HRE := Lib.hid (fun (W : World) (h : Below w.heap.size w W) => hrE.below h)
  clear hlN hrN bxN hlE hrE bxE
  go_enter Try.func6, Try.ntmps6
  have HW : Hid (Below w.heap.size w (w.alloc (KO (.slice aN lN cN) (.slice aE lE cE)))) := (Below.refl _ _).alloc (Nat.le_refl _) _
  have HWA : Hid (Below w.heap.size w ((w.alloc (KO (.slice aN lN cN) (.slice aE lE cE))).alloc (KO (.slice none 0 0) (.slice none 0 0))).drew) := (HW.out.alloc HW.out.size _).drew
  have HEA : Hid (((w.alloc (KO (.slice aN lN cN) (.slice aE lE cE))).alloc (KO (.slice none 0 0) (.slice none 0 0))).drew.heap[w.heap.size]? = some (KO (.slice aN lN cN) (.slice aE lE cE))) := heap_kept (heap_new w (KO (.slice aN lN cN) (.slice aE lE cE))) (KO (.slice none 0 0) (.slice none 0 0))
  have HGA : Hid (((w.alloc (KO (.slice aN lN cN) (.slice aE lE cE))).alloc (KO (.slice none 0 0) (.slice none 0 0))).drew.heap[w.heap.size + 1]? = some (KO (.slice none 0 0) (.slice none 0 0))) := by
    have h := heap_new (w.alloc (KO (.slice aN lN cN) (.slice aE lE cE))) (KO (.slice none 0 0) (.slice none 0 0))
    rw [show (w.alloc (KO (.slice aN lN cN) (.slice aE lE cE))).heap.size = w.heap.size + 1 by simp] at h
    exact h
  have HE : Hid ((w.alloc (KO (.slice aN lN cN) (.slice aE lE cE))).heap[w.heap.size]? = some (KO (.slice aN lN cN) (.slice aE lE cE))) := heap_new _ _
  go_wp2_with fail
  have HW := Lib.hid HW.out.drew
  have HE : Hid ((w.alloc (KO (.slice aN lN cN) (.slice aE lE cE))).drew.heap[w.heap.size]? = some (KO (.slice aN lN cN) (.slice aE lE cE))) := HE.out
  go_region_held3 (fun W => W.cell? ⟨w.heap.size, 0, none⟩ = some (.slice aN lN cN) ∧ W.cell? ⟨w.heap.size, 1, none⟩ = some (.slice aE lE cE))
    (first | exact KO.cells HE.out | exact KO.cells HEA.out | exact KO.cells (heap_kept HE.out _) | exact KO.cells (other_set (other_set HE.out (by omega) _) (by omega) _))
    (first
      | (go_at_call 30; (with_reducible refine (dsome64_any aN lN cN p Ns X _ HLN.out hbN (HRN.out _ (by first | exact HW.out | exact HWA.out | exact HW.out.alloc HW.out.size _)) HXN.out HEX.out HP.out).mono ?_)
         rintro e w1 ⟨a1, c1, rfl, hO, hb1⟩
         have HR1 := Lib.hid (own64.rd hO).2
         have HOB1 := Lib.hid (show own64 w1 w.heap.size _ _ from owns_base hO (by first | exact HW.out.size | exact HWA.out.size | (have := HW.out.size; simp; omega)))
         have HE := Lib.hid (KO.below (by first | exact HE.out | exact HEA.out | exact heap_kept HE.out _) hb1)
         have hlt1 : w.heap.size < w1.heap.size := lt_of_block HE.out
         have HW := Lib.hid (show Below w.heap.size w w1 from by first | exact HW.out.trans (hb1.mono HW.out.size) | exact HWA.out.trans (hb1.mono HWA.out.size) | exact (HW.out.alloc HW.out.size _).trans (hb1.mono (by have := HW.out.size; simp; omega)))
         have HO1 := Lib.hid hO
         have HB1 := Lib.hid hb1
         try (have HG := Lib.hid (KO.below HGA.out hb1))
         try (have kz0 := frozen_alloc (i := 0) HG.out; have kz1 := frozen_alloc (i := 1) HG.out; obtain ⟨kc0, kc1⟩ := KO.cells HG.out)
         clear hO hb1)
      | (go_at_call 30; (with_reducible refine (dsome64_any aE lE cE q Es Y _ HLE.out hbE (HRE.out _ (by first | exact HW.out | exact HWA.out | exact HW.out.alloc HW.out.size _)) HXE.out HEY.out HQ.out).mono ?_)
         rintro e w2 ⟨a2, c2, rfl, hO, hb2⟩
         have HR2 := Lib.hid (own64.rd hO).2
         have HOB2 := Lib.hid (show own64 w2 w.heap.size _ _ from owns_base hO (by first | exact HW.out.size | exact HWA.out.size | (have := HW.out.size; simp; omega)))
         have HE := Lib.hid (KO.below (by first | exact HE.out | exact HEA.out | exact heap_kept HE.out _) hb2)
         have hlt2 : w.heap.size < w2.heap.size := lt_of_block HE.out
         have HW := Lib.hid (show Below w.heap.size w w2 from by first | exact HW.out.trans (hb2.mono HW.out.size) | exact HWA.out.trans (hb2.mono HWA.out.size) | exact (HW.out.alloc HW.out.size _).trans (hb2.mono (by have := HW.out.size; simp; omega)))
         have HO2 := Lib.hid hO
         have HB2 := Lib.hid hb2
         try (first | (have HG := Lib.hid (KO.below (heap_new _ (KO (.slice none 0 0) (.slice none 0 0))) hb2)) | (have HG := Lib.hid (KO.below HG.out hb2)))
         try (have kz0 := frozen_alloc (i := 0) HG.out; have kz1 := frozen_alloc (i := 1) HG.out; obtain ⟨kc0, kc1⟩ := KO.cells HG.out)
         clear hO hb2))
  · obtain ⟨W3, hW3⟩ : ∃ W3, W3 = w2.alloc (KO (.slice a1 p c1) (.slice a2 q c2)) := ⟨_, rfl⟩
    obtain ⟨g3, hg3⟩ : ∃ g3, g3 = w2.heap.size := ⟨_, rfl⟩
    have HK : Hid (W3.heap[g3]? = some (KO (.slice a1 p c1) (.slice a2 q c2))) := by show _ = _; rw [hW3, hg3]; exact heap_new _ _
    have hWW : Below w.heap.size w W3 := by rw [hW3]; exact HW.out.alloc HW.out.size _
    have ho1 : own64 W3 w.heap.size (.slice a1 p c1) X := by rw [hW3]; exact own64.under (own64.under HOB1.out HB2.out) ((Below.refl w2.heap.size w2).alloc (Nat.le_refl _) _)
    have ho2 : own64 W3 w.heap.size (.slice a2 q c2) Y := by rw [hW3]; exact own64.under HOB2.out ((Below.refl w2.heap.size w2).alloc (Nat.le_refl _) _)
    have HW := Lib.hid hWW
    have HO1 := Lib.hid ho1
    have HO2 := Lib.hid ho2
    rw [← hW3, ← hg3]
    clear hWW ho1 ho2 hW3 hg3

    have hXn := lim_of HBX.out (by rw [HP.out]; exact hp64)
    have hYn := lim_of HBY.out (by rw [HQ.out]; exact hq64)
    have o1 := HO1.out
    have o2 := HO2.out
    obtain ⟨kc0, kc1⟩ := KO.cells HK.out
    go_wp2_with fail
    clear kc0 kc1
    refine (encode_any a1 p c1 X a2 q c2 Y _ HP.out (by omega) (own64.room o1).1 (own64.rd o1).2 HBX.out HQ.out (by omega) (own64.room o2).1 (own64.rd o2).2 HBY.out).mono ?_
    clear o1 o2
    rintro e w4 ⟨hb, a3, c3, k, bb, rfl, ho, hT⟩
    have hkey : k = 0 ∧ KeyB (val X) (val Y) bb := by
      rcases hT with ⟨_, _, h1, h2⟩ | ⟨h1, _⟩
      · exact ⟨h1, h2⟩
      · exact absurd ⟨hXn, hYn⟩ h1
    obtain ⟨rfl, hkey⟩ := hkey
    have hbl := hkey.len hXn hYn
    obtain ⟨a3', c3', e3, hc3, hr3, hn3, hm3⟩ := own8_open ho
    simp only [Value.slice.injEq, true_and] at e3
    obtain ⟨rfl, rfl⟩ := e3
    have HKEY := Lib.hid hkey
    have HR3 := Lib.hid hr3
    have HN3 := Lib.hid hn3
    have HO1 := Lib.hid (own64.under HO1.out hb)
    have HO2 := Lib.hid (own64.under HO2.out hb)
    have HW := Lib.hid (HW.out.trans (hb.mono HW.out.size))
    have HK := Lib.hid (KO.below HK.out hb)
    obtain ⟨l, hl⟩ : ∃ l, l = bb.length := ⟨_, rfl⟩
    have HL := Lib.hid hl
    rw [← hl] at hbl hc3 ⊢
    have HXN := Lib.hid hXn
    have HYN := Lib.hid hYn
    clear hT hkey ho hr3 hn3 hb hl hXn hYn
    go_wp2_with fail
    refine (decode_any a3 l c3 bb _ HL.out.symm (by omega) hc3 hm3 HN3.out HKEY.out.b8 HR3.out).mono ?_
    rintro e w5 ⟨hb, a5, c5, N, a6, c6, E, k, rfl, hsp, -, -, hT⟩
    obtain ⟨rfl, hNE, -⟩ : k = 0 ∧ (Num N (val X) ∧ Num E (val Y)) ∧ True := by
      obtain ⟨h1, h2, -⟩ := hT
      rw [dec0_of HKEY.out HXN.out HYN.out] at h1 h2
      exact ⟨h1.symm, h2 h1.symm, trivial⟩
    have HNE := Lib.hid hNE
    have HO1 := Lib.hid (own64.under HO1.out hb)
    have HO2 := Lib.hid (own64.under HO2.out hb)
    have HW := Lib.hid (HW.out.trans (hb.mono HW.out.size))
    have HK := Lib.hid (KO.below HK.out hb)
    have HR3 := Lib.hid (HR3.out.below hb)
    have HS := Lib.hid hsp
    obtain ⟨n5, hn5⟩ : ∃ n5, n5 = N.length := ⟨_, rfl⟩
    obtain ⟨n6, hn6⟩ : ∃ n6, n6 = E.length := ⟨_, rfl⟩
    have HN5 := Lib.hid hn5
    have HN6 := Lib.hid hn6
    rw [← hn5, ← hn6] at hsp ⊢
    have HRN5 := Lib.hid (own64.rd (hsp.own (v := .slice a5 n5 c5) (zs := N) (by simp))).2
    have HRE6 := Lib.hid (own64.rd (hsp.own (v := .slice a6 n6 c6) (zs := E) (by simp))).2
    have hn5l : n5 ≤ 64 := by rw [hn5]; exact (hNE.1.len_le).2 (by rw [← lim64]; exact HXN.out)
    have hn6l : n6 ≤ 64 := by rw [hn6]; exact (hNE.2.len_le).2 (by rw [← lim64]; exact HYN.out)
    clear hT hsp hNE hn5 hn6 hb HS
    have hb6 := (Below.refl w5.heap.size w5).alloc (Nat.le_refl _) (KO (.slice a5 n5 c5) (.slice a6 n6 c6))
    obtain ⟨g10, hg10⟩ : ∃ g10, g10 = w5.heap.size := ⟨_, rfl⟩
    obtain ⟨W6, hW6⟩ : ∃ W6, W6 = w5.alloc (KO (.slice a5 n5 c5) (.slice a6 n6 c6)) := ⟨_, rfl⟩
    have HK10 : Hid (W6.heap[g10]? = some (KO (.slice a5 n5 c5) (.slice a6 n6 c6))) := by show _ = _; rw [hW6, hg10]; exact heap_new _ _
    have HWW := Lib.hid (And.intro hW6 hg10)
    rw [← hW6] at hb6
    have HO1 := Lib.hid (own64.under HO1.out hb6)
    have HO2 := Lib.hid (own64.under HO2.out hb6)
    have HW := Lib.hid (HW.out.trans (hb6.mono HW.out.size))
    have HK := Lib.hid (KO.below HK.out hb6)
    have HR3 := Lib.hid (HR3.out.below hb6)
    have HRN5 := Lib.hid (HRN5.out.below hb6)
    have HRE6 := Lib.hid (HRE6.out.below hb6)
    clear hb6 hW6 hg10
    have kc := (KO.cells HK.out).1
    rw [HWW.out.1] at kc
    go_wp2_with fail
    rw [← HWW.out.1, ← HWW.out.2]
    clear kc HWW
    refine (norm0_any a1 p c1 X _ HP.out (by omega) (own64.room HO1.out).1 (own64.room HO1.out).2 (own64.rd HO1.out).2 HBX.out).mono ?_
    rintro e w7 ⟨v, zs, rfl, ho, hn, hb⟩
    obtain rfl : zs = N := hn.unique HNE.out.1
    obtain ⟨b7, d7, rfl, hr7⟩ := own64.form ho
    have HR7 := Lib.hid hr7
    have HO2 := Lib.hid (own64.under HO2.out hb)
    have HW := Lib.hid (HW.out.trans (hb.mono HW.out.size))
    have HK := Lib.hid (KO.below HK.out hb)
    have HK10 := Lib.hid (KO.below HK10.out hb)
    have HR3 := Lib.hid (HR3.out.below hb)
    have HRN5 := Lib.hid (HRN5.out.below hb)
    have HRE6 := Lib.hid (HRE6.out.below hb)
    rw [← HN5.out]
    clear hn ho hr7 hb HO1
    have kc := (KO.cells HK.out).2
    go_wp2_with fail
    clear kc
    refine (norm0_any a2 q c2 Y _ HQ.out (by omega) (own64.room HO2.out).1 (own64.room HO2.out).2 (own64.rd HO2.out).2 HBY.out).mono ?_
    rintro e w8 ⟨v, zs2, rfl, ho, hn, hb⟩
    obtain rfl : zs2 = E := hn.unique HNE.out.2
    obtain ⟨b8, d8, rfl, hr8⟩ := own64.form ho
    have HR8 := Lib.hid hr8
    have HR7 := Lib.hid (HR7.out.below hb)
    have HW := Lib.hid (HW.out.trans (hb.mono HW.out.size))
    have HK10 := Lib.hid (KO.below HK10.out hb)
    have HR3 := Lib.hid (HR3.out.below hb)
    have HRN5 := Lib.hid (HRN5.out.below hb)
    have HRE6 := Lib.hid (HRE6.out.below hb)
    rw [← HN6.out]
    clear hn ho hr8 hb HO2 HK
    obtain ⟨kc0, kc1⟩ := KO.cells HK10.out
    go_wp2_with fail
    clear kc0 kc1
    refine (samekey_any a5 n5 c5 a6 n6 c6 b7 d7 b8 d8 zs zs2 _ HN5.out.symm (by omega) HN6.out.symm (by omega) HRN5.out HRE6.out HR7.out HR8.out).mono ?_
    rintro e w9 ⟨rfl, hb⟩
    have HW := Lib.hid (HW.out.trans (hb.mono HW.out.size))
    have HR3 := Lib.hid (HR3.out.below hb)
    clear hb HR7 HR8 HRN5 HRE6 HK10 HN5 HN6 HNE
    go_wp2_with fail
    have hpk := pickn_any cut l w9 hz1 hz2 (by omega) (by omega)
    refine hpk.mono ?_
    clear hpk
    rintro e w' ⟨m, rfl, hm, rfl⟩
    have r1 : (0 : Int) ≤ (m : Int) := by omega
    have r2 : (m : Int) ≤ (c3 : Int) := by omega
    go_wp2_with fail
    have hcutk := dec0_cut HKEY.out m (by rw [← HL.out]; exact hm)
    refine (decode_any a3 m c3 (bb.take m) _ (by rw [List.length_take, ← HL.out]; omega) (by omega) (by omega) hm3 HN3.out (HKEY.out.b8.take m) (fun j hj => ?_)).mono ?_
    · obtain ⟨bx, off, e, hc⟩ := HR3.out.get (by rw [← HL.out]; omega)
      have hj2 : j < m ∧ j < bb.length := by simp at hj; omega
      refine ⟨bx, off, e, fun i hi => ?_⟩
      have hi2 : i < m ∧ i < bb.length := by simp at hi; omega
      rw [hc i hi2.2]
      simp [List.getD, hi2.1]
    rintro e w10 ⟨hb, a11, c11, N1, a12, c12, E1, k, rfl, -, -, -, hT⟩
    obtain ⟨rfl, rfl, rfl⟩ := hT.one (KeyTells.no (k := 70) (by rw [hcutk]) (by decide))
    rw [show List.length ([] : List Nat) = 0 from rfl]
    have HW := Lib.hid (HW.out.trans (hb.mono HW.out.size))
    have HR3 := Lib.hid (HR3.out.below hb)
    clear hb hT hcutk r1 r2
    obtain ⟨g16, hg16⟩ : ∃ g16, g16 = w10.heap.size := ⟨_, rfl⟩
    obtain ⟨W11, hW11⟩ : ∃ W11, W11 = w10.alloc (KO (.slice a11 0 c11) (.slice a12 0 c12)) := ⟨_, rfl⟩
    have hb11 : Below w10.heap.size w10 W11 := by rw [hW11]; exact (Below.refl _ _).alloc (Nat.le_refl _) _
    have HK16 : Hid (W11.heap[g16]? = some (KO (.slice a11 0 c11) (.slice a12 0 c12))) := by show _ = _; rw [hW11, hg16]; exact heap_new _ _
    have HWW := Lib.hid (And.intro hW11 hg16)
    have HW := Lib.hid (HW.out.trans (hb11.mono HW.out.size))
    have HR3 := Lib.hid (HR3.out.below hb11)
    clear hb11 hW11 hg16
    have HRX := Lib.hid HR3.out.news
    have hsz11 := HW.out.size
    have hR3' := HR3.out
    rw [HWW.out.1] at HRX hsz11
    go_wp2_with (first
      | (at_builtin; refine wpl_appN 22 5 Try.underlying22 info8 rfl (by decide) rfl _ _ rfl w.heap.size (.slice none 0 0) 0 [] rfl (World.ownsRow_nil _ _ _ _) a3 l c3 rfl (u8s bb) (by rw [u8s_len, HL.out]) (fun h => HRX.out (by rw [← HL.out]; exact h)) (fun _ h => HN3.out h) (u8s_one8 _) (by omega) hsz11 ?_; intro v5 x5 hown5 hg5 hor5 _; have HO5 := Lib.hid hown5; have HG5 := Lib.hid hg5; clear hown5 hg5)
      | (at_builtin; refine wpl_appN 22 5 Try.underlying22 info8 rfl (by decide) rfl _ _ rfl w.heap.size v5 (0 + l) ([] ++ u8s bb) rfl (HO5.out.alloc _) (some ⟨x5.heap.size, 0, none⟩) 1 1 rfl (u8s [y]) rfl (fun _ => (rd_lit x5 y).news (by simp)) (fun h => by cases h) (u8s_one8 _) (by omega) (Nat.le_trans hsz11 (Nat.le_trans HG5.out.size (by simp))) ?_; intro v6 x6 hown6 hg6 _ _; have HO6 := Lib.hid hown6; have HG6 := Lib.hid hg6; clear hown6 hg6))
    have hb15 : Below W11.heap.size W11 x5 := by
      rw [HWW.out.1]
      exact (Below.refl _ _).grown HG5.out (Nat.le_refl _) (fun q hq => by cases hq)
    have hb16 : Below W11.heap.size W11 x6 := (hb15.alloc hb15.size (.cells #[.int .u8 (y : Nat)] 5)).grown HG6.out (by have := hb15.size; simp; omega) (fun q hq => by
      rcases hor5.out q hq with h | h
      · cases h
      · rw [HWW.out.1]; exact Nat.le_of_eq h.symm)
    have hown6 : own8 x6 w.heap.size v6 (bb ++ [y]) := by
      have h := HO6.out
      rw [Nat.zero_add, List.nil_append] at h
      show x6.ownsRow _ _ _ _ _ _
      rw [List.length_append, ← HL.out, show u8s (bb ++ [y]) = u8s bb ++ u8s [y] by simp [u8s]]
      exact h
    obtain ⟨a6', c6', hv6, hc6, hr6, hn6, hm6⟩ := own8_open hown6
    have hl6 : (bb ++ [y]).length = l + 1 := by rw [List.length_append, ← HL.out]; rfl
    rw [hl6] at hv6 hc6
    have HR6 := Lib.hid hr6
    have HL6 := Lib.hid hl6
    have HW := Lib.hid (HW.out.trans (hb16.mono HW.out.size))
    have HK16 := Lib.hid (KO.below HK16.out hb16)
    subst hv6
    have h86 : B8 (bb ++ [y]) := b8_app HKEY.out.b8 (fun x hx => by simp at hx; omega)
    have hmore := dec0_more HKEY.out (post := [y]) (by simp)
    rw [← HWW.out.2]
    clear hb15 hb16 hown6 hr6 hor5 HRX hl6 HO5 HG5 HO6 HG6 hR3' HWW
    refine (decode_any a6' (l + 1) c6' (bb ++ [y]) _ HL6.out (by omega) hc6 hm6 hn6 h86 HR6.out).mono ?_
    rintro e w12 ⟨hb, a13, c13, N2, a14, c14, E2, k, rfl, -, -, -, hT⟩
    obtain ⟨rfl, rfl, rfl⟩ := hT.one (KeyTells.no (k := 74) (by rw [hmore]) (by decide))
    rw [show List.length ([] : List Nat) = 0 from rfl]
    have HW := Lib.hid (HW.out.trans (hb.mono HW.out.size))
    have HK16 := Lib.hid (KO.below HK16.out hb)
    clear hb hT hmore h86 HR6 HL6
    have hb13 := (Below.refl w12.heap.size w12).alloc (Nat.le_refl _) (KO (.slice a13 0 c13) (.slice a14 0 c14))
    have HW := Lib.hid (HW.out.trans (hb13.mono HW.out.size))
    have HK16 := Lib.hid (KO.below HK16.out hb13)
    clear hb13
    obtain ⟨kc0, kc1⟩ := KO.cells HK16.out
    go_wp2_with fail
    clear kc0 kc1
    refine (samekey_any a11 0 c11 a12 0 c12 none 0 none 0 [] [] _ rfl (by decide) rfl (by decide) (fun j hj => by cases hj) (fun j hj => by cases hj) (fun j hj => by cases hj) (fun j hj => by cases hj)).mono ?_
    rintro e w14 ⟨rfl, hb⟩
    have HW14 := Lib.hid (HW.out.trans (hb.mono HW.out.size))
    clear hb
    go_wp2_with fail
    refine (works7_any _).mono ?_
    rintro e w15 ⟨rfl, hb⟩
    have HBG := Lib.hid (HW14.out.trans (hb.mono HW14.out.size))
    clear hb
    go_wp2
    go_ret
    exact ⟨rfl, HBG.out⟩
  · obtain ⟨W3, hW3⟩ : ∃ W3, W3 = (w2.setCell ⟨w1.heap.size, 0, none⟩ (.slice a1 p c1)).setCell ⟨w1.heap.size, 1, none⟩ (.slice a2 q c2) := ⟨_, rfl⟩
    obtain ⟨g3, hg3⟩ : ∃ g3, g3 = w1.heap.size := ⟨_, rfl⟩
    have HK : Hid (W3.heap[g3]? = some (KO (.slice a1 p c1) (.slice a2 q c2))) := by
      show _ = _
      rw [hW3, hg3]
      exact heap_setCell_same _ _ 1 _ _ _ (heap_setCell_same _ _ 0 _ _ _ HG.out)
    have hWW : Below w.heap.size w W3 := by rw [hW3]; exact (HW.out.setCell (Nat.le_of_lt hlt1) _).setCell (Nat.le_of_lt hlt1) _
    have hC : Chg (fun k => k = w1.heap.size) w2 W3 := by rw [hW3]; exact ((Chg.refl (fun k => k = w1.heap.size) w2).setCell (p := ⟨w1.heap.size, 0, none⟩) rfl _).setCell (p := ⟨w1.heap.size, 1, none⟩) rfl _
    have ho1 : own64 W3 w.heap.size (.slice a1 p c1) X := hC.owns (own64.under (own64.under HOB1.out ((Below.refl w1.heap.size w1).alloc (Nat.le_refl _) (KO (.slice none 0 0) (.slice none 0 0)))) HB2.out) fun k hk he => by
      have := World.ownsRow.lt HOB1.out k hk; have he : k = w1.heap.size := he; omega
    have ho2 : own64 W3 w.heap.size (.slice a2 q c2) Y := hC.owns HOB2.out fun k hk he => by
      have := World.ownsRow.lt HO2.out k hk; have he : k = w1.heap.size := he; have h9 : (w1.alloc (KO (.slice none 0 0) (.slice none 0 0))).heap.size = w1.heap.size + 1 := by simp
      have h8 : (w1.alloc (KO (.slice none 0 0) (.slice none 0 0))).heap.size ≤ k := this.1
      omega
    have HW := Lib.hid hWW
    have HO1 := Lib.hid ho1
    have HO2 := Lib.hid ho2
    rw [← hW3, ← hg3]
    clear hC
    clear hWW ho1 ho2 hW3 hg3

    have hXn := lim_of HBX.out (by rw [HP.out]; exact hp64)
    have hYn := lim_of HBY.out (by rw [HQ.out]; exact hq64)
    have o1 := HO1.out
    have o2 := HO2.out
    obtain ⟨kc0, kc1⟩ := KO.cells HK.out
    go_wp2_with fail
    clear kc0 kc1
    refine (encode_any a1 p c1 X a2 q c2 Y _ HP.out (by omega) (own64.room o1).1 (own64.rd o1).2 HBX.out HQ.out (by omega) (own64.room o2).1 (own64.rd o2).2 HBY.out).mono ?_
    clear o1 o2
    rintro e w4 ⟨hb, a3, c3, k, bb, rfl, ho, hT⟩
    have hkey : k = 0 ∧ KeyB (val X) (val Y) bb := by
      rcases hT with ⟨_, _, h1, h2⟩ | ⟨h1, _⟩
      · exact ⟨h1, h2⟩
      · exact absurd ⟨hXn, hYn⟩ h1
    obtain ⟨rfl, hkey⟩ := hkey
    have hbl := hkey.len hXn hYn
    obtain ⟨a3', c3', e3, hc3, hr3, hn3, hm3⟩ := own8_open ho
    simp only [Value.slice.injEq, true_and] at e3
    obtain ⟨rfl, rfl⟩ := e3
    have HKEY := Lib.hid hkey
    have HR3 := Lib.hid hr3
    have HN3 := Lib.hid hn3
    have HO1 := Lib.hid (own64.under HO1.out hb)
    have HO2 := Lib.hid (own64.under HO2.out hb)
    have HW := Lib.hid (HW.out.trans (hb.mono HW.out.size))
    have HK := Lib.hid (KO.below HK.out hb)
    obtain ⟨l, hl⟩ : ∃ l, l = bb.length := ⟨_, rfl⟩
    have HL := Lib.hid hl
    rw [← hl] at hbl hc3 ⊢
    have HXN := Lib.hid hXn
    have HYN := Lib.hid hYn
    clear hT hkey ho hr3 hn3 hb hl hXn hYn
    go_wp2_with fail
    refine (decode_any a3 l c3 bb _ HL.out.symm (by omega) hc3 hm3 HN3.out HKEY.out.b8 HR3.out).mono ?_
    rintro e w5 ⟨hb, a5, c5, N, a6, c6, E, k, rfl, hsp, -, -, hT⟩
    obtain ⟨rfl, hNE, -⟩ : k = 0 ∧ (Num N (val X) ∧ Num E (val Y)) ∧ True := by
      obtain ⟨h1, h2, -⟩ := hT
      rw [dec0_of HKEY.out HXN.out HYN.out] at h1 h2
      exact ⟨h1.symm, h2 h1.symm, trivial⟩
    have HNE := Lib.hid hNE
    have HO1 := Lib.hid (own64.under HO1.out hb)
    have HO2 := Lib.hid (own64.under HO2.out hb)
    have HW := Lib.hid (HW.out.trans (hb.mono HW.out.size))
    have HK := Lib.hid (KO.below HK.out hb)
    have HR3 := Lib.hid (HR3.out.below hb)
    have HS := Lib.hid hsp
    obtain ⟨n5, hn5⟩ : ∃ n5, n5 = N.length := ⟨_, rfl⟩
    obtain ⟨n6, hn6⟩ : ∃ n6, n6 = E.length := ⟨_, rfl⟩
    have HN5 := Lib.hid hn5
    have HN6 := Lib.hid hn6
    rw [← hn5, ← hn6] at hsp ⊢
    have HRN5 := Lib.hid (own64.rd (hsp.own (v := .slice a5 n5 c5) (zs := N) (by simp))).2
    have HRE6 := Lib.hid (own64.rd (hsp.own (v := .slice a6 n6 c6) (zs := E) (by simp))).2
    have hn5l : n5 ≤ 64 := by rw [hn5]; exact (hNE.1.len_le).2 (by rw [← lim64]; exact HXN.out)
    have hn6l : n6 ≤ 64 := by rw [hn6]; exact (hNE.2.len_le).2 (by rw [← lim64]; exact HYN.out)
    clear hT hsp hNE hn5 hn6 hb HS
    have hb6 := (Below.refl w5.heap.size w5).alloc (Nat.le_refl _) (KO (.slice a5 n5 c5) (.slice a6 n6 c6))
    obtain ⟨g10, hg10⟩ : ∃ g10, g10 = w5.heap.size := ⟨_, rfl⟩
    obtain ⟨W6, hW6⟩ : ∃ W6, W6 = w5.alloc (KO (.slice a5 n5 c5) (.slice a6 n6 c6)) := ⟨_, rfl⟩
    have HK10 : Hid (W6.heap[g10]? = some (KO (.slice a5 n5 c5) (.slice a6 n6 c6))) := by show _ = _; rw [hW6, hg10]; exact heap_new _ _
    have HWW := Lib.hid (And.intro hW6 hg10)
    rw [← hW6] at hb6
    have HO1 := Lib.hid (own64.under HO1.out hb6)
    have HO2 := Lib.hid (own64.under HO2.out hb6)
    have HW := Lib.hid (HW.out.trans (hb6.mono HW.out.size))
    have HK := Lib.hid (KO.below HK.out hb6)
    have HR3 := Lib.hid (HR3.out.below hb6)
    have HRN5 := Lib.hid (HRN5.out.below hb6)
    have HRE6 := Lib.hid (HRE6.out.below hb6)
    clear hb6 hW6 hg10
    have kc := (KO.cells HK.out).1
    rw [HWW.out.1] at kc
    go_wp2_with fail
    rw [← HWW.out.1, ← HWW.out.2]
    clear kc HWW
    refine (norm0_any a1 p c1 X _ HP.out (by omega) (own64.room HO1.out).1 (own64.room HO1.out).2 (own64.rd HO1.out).2 HBX.out).mono ?_
    rintro e w7 ⟨v, zs, rfl, ho, hn, hb⟩
    obtain rfl : zs = N := hn.unique HNE.out.1
    obtain ⟨b7, d7, rfl, hr7⟩ := own64.form ho
    have HR7 := Lib.hid hr7
    have HO2 := Lib.hid (own64.under HO2.out hb)
    have HW := Lib.hid (HW.out.trans (hb.mono HW.out.size))
    have HK := Lib.hid (KO.below HK.out hb)
    have HK10 := Lib.hid (KO.below HK10.out hb)
    have HR3 := Lib.hid (HR3.out.below hb)
    have HRN5 := Lib.hid (HRN5.out.below hb)
    have HRE6 := Lib.hid (HRE6.out.below hb)
    rw [← HN5.out]
    clear hn ho hr7 hb HO1
    have kc := (KO.cells HK.out).2
    go_wp2_with fail
    clear kc
    refine (norm0_any a2 q c2 Y _ HQ.out (by omega) (own64.room HO2.out).1 (own64.room HO2.out).2 (own64.rd HO2.out).2 HBY.out).mono ?_
    rintro e w8 ⟨v, zs2, rfl, ho, hn, hb⟩
    obtain rfl : zs2 = E := hn.unique HNE.out.2
    obtain ⟨b8, d8, rfl, hr8⟩ := own64.form ho
    have HR8 := Lib.hid hr8
    have HR7 := Lib.hid (HR7.out.below hb)
    have HW := Lib.hid (HW.out.trans (hb.mono HW.out.size))
    have HK10 := Lib.hid (KO.below HK10.out hb)
    have HR3 := Lib.hid (HR3.out.below hb)
    have HRN5 := Lib.hid (HRN5.out.below hb)
    have HRE6 := Lib.hid (HRE6.out.below hb)
    rw [← HN6.out]
    clear hn ho hr8 hb HO2 HK
    obtain ⟨kc0, kc1⟩ := KO.cells HK10.out
    go_wp2_with fail
    clear kc0 kc1
    refine (samekey_any a5 n5 c5 a6 n6 c6 b7 d7 b8 d8 zs zs2 _ HN5.out.symm (by omega) HN6.out.symm (by omega) HRN5.out HRE6.out HR7.out HR8.out).mono ?_
    rintro e w9 ⟨rfl, hb⟩
    have HW := Lib.hid (HW.out.trans (hb.mono HW.out.size))
    have HR3 := Lib.hid (HR3.out.below hb)
    clear hb HR7 HR8 HRN5 HRE6 HK10 HN5 HN6 HNE
    go_wp2_with fail
    have hpk := pickn_any cut l w9 hz1 hz2 (by omega) (by omega)
    refine hpk.mono ?_
    clear hpk
    rintro e w' ⟨m, rfl, hm, rfl⟩
    have r1 : (0 : Int) ≤ (m : Int) := by omega
    have r2 : (m : Int) ≤ (c3 : Int) := by omega
    go_wp2_with fail
    have hcutk := dec0_cut HKEY.out m (by rw [← HL.out]; exact hm)
    refine (decode_any a3 m c3 (bb.take m) _ (by rw [List.length_take, ← HL.out]; omega) (by omega) (by omega) hm3 HN3.out (HKEY.out.b8.take m) (fun j hj => ?_)).mono ?_
    · obtain ⟨bx, off, e, hc⟩ := HR3.out.get (by rw [← HL.out]; omega)
      have hj2 : j < m ∧ j < bb.length := by simp at hj; omega
      refine ⟨bx, off, e, fun i hi => ?_⟩
      have hi2 : i < m ∧ i < bb.length := by simp at hi; omega
      rw [hc i hi2.2]
      simp [List.getD, hi2.1]
    rintro e w10 ⟨hb, a11, c11, N1, a12, c12, E1, k, rfl, -, -, -, hT⟩
    obtain ⟨rfl, rfl, rfl⟩ := hT.one (KeyTells.no (k := 70) (by rw [hcutk]) (by decide))
    rw [show List.length ([] : List Nat) = 0 from rfl]
    have HW := Lib.hid (HW.out.trans (hb.mono HW.out.size))
    have HR3 := Lib.hid (HR3.out.below hb)
    clear hb hT hcutk r1 r2
    obtain ⟨g16, hg16⟩ : ∃ g16, g16 = w10.heap.size := ⟨_, rfl⟩
    obtain ⟨W11, hW11⟩ : ∃ W11, W11 = w10.alloc (KO (.slice a11 0 c11) (.slice a12 0 c12)) := ⟨_, rfl⟩
    have hb11 : Below w10.heap.size w10 W11 := by rw [hW11]; exact (Below.refl _ _).alloc (Nat.le_refl _) _
    have HK16 : Hid (W11.heap[g16]? = some (KO (.slice a11 0 c11) (.slice a12 0 c12))) := by show _ = _; rw [hW11, hg16]; exact heap_new _ _
    have HWW := Lib.hid (And.intro hW11 hg16)
    have HW := Lib.hid (HW.out.trans (hb11.mono HW.out.size))
    have HR3 := Lib.hid (HR3.out.below hb11)
    clear hb11 hW11 hg16
    have HRX := Lib.hid HR3.out.news
    have hsz11 := HW.out.size
    have hR3' := HR3.out
    rw [HWW.out.1] at HRX hsz11
    go_wp2_with (first
      | (at_builtin; refine wpl_appN 22 5 Try.underlying22 info8 rfl (by decide) rfl _ _ rfl w.heap.size (.slice none 0 0) 0 [] rfl (World.ownsRow_nil _ _ _ _) a3 l c3 rfl (u8s bb) (by rw [u8s_len, HL.out]) (fun h => HRX.out (by rw [← HL.out]; exact h)) (fun _ h => HN3.out h) (u8s_one8 _) (by omega) hsz11 ?_; intro v5 x5 hown5 hg5 hor5 _; have HO5 := Lib.hid hown5; have HG5 := Lib.hid hg5; clear hown5 hg5)
      | (at_builtin; refine wpl_appN 22 5 Try.underlying22 info8 rfl (by decide) rfl _ _ rfl w.heap.size v5 (0 + l) ([] ++ u8s bb) rfl (HO5.out.alloc _) (some ⟨x5.heap.size, 0, none⟩) 1 1 rfl (u8s [y]) rfl (fun _ => (rd_lit x5 y).news (by simp)) (fun h => by cases h) (u8s_one8 _) (by omega) (Nat.le_trans hsz11 (Nat.le_trans HG5.out.size (by simp))) ?_; intro v6 x6 hown6 hg6 _ _; have HO6 := Lib.hid hown6; have HG6 := Lib.hid hg6; clear hown6 hg6))
    have hb15 : Below W11.heap.size W11 x5 := by
      rw [HWW.out.1]
      exact (Below.refl _ _).grown HG5.out (Nat.le_refl _) (fun q hq => by cases hq)
    have hb16 : Below W11.heap.size W11 x6 := (hb15.alloc hb15.size (.cells #[.int .u8 (y : Nat)] 5)).grown HG6.out (by have := hb15.size; simp; omega) (fun q hq => by
      rcases hor5.out q hq with h | h
      · cases h
      · rw [HWW.out.1]; exact Nat.le_of_eq h.symm)
    have hown6 : own8 x6 w.heap.size v6 (bb ++ [y]) := by
      have h := HO6.out
      rw [Nat.zero_add, List.nil_append] at h
      show x6.ownsRow _ _ _ _ _ _
      rw [List.length_append, ← HL.out, show u8s (bb ++ [y]) = u8s bb ++ u8s [y] by simp [u8s]]
      exact h
    obtain ⟨a6', c6', hv6, hc6, hr6, hn6, hm6⟩ := own8_open hown6
    have hl6 : (bb ++ [y]).length = l + 1 := by rw [List.length_append, ← HL.out]; rfl
    rw [hl6] at hv6 hc6
    have HR6 := Lib.hid hr6
    have HL6 := Lib.hid hl6
    have HW := Lib.hid (HW.out.trans (hb16.mono HW.out.size))
    have HK16 := Lib.hid (KO.below HK16.out hb16)
    subst hv6
    have h86 : B8 (bb ++ [y]) := b8_app HKEY.out.b8 (fun x hx => by simp at hx; omega)
    have hmore := dec0_more HKEY.out (post := [y]) (by simp)
    rw [← HWW.out.2]
    clear hb15 hb16 hown6 hr6 hor5 HRX hl6 HO5 HG5 HO6 HG6 hR3' HWW
    refine (decode_any a6' (l + 1) c6' (bb ++ [y]) _ HL6.out (by omega) hc6 hm6 hn6 h86 HR6.out).mono ?_
    rintro e w12 ⟨hb, a13, c13, N2, a14, c14, E2, k, rfl, -, -, -, hT⟩
    obtain ⟨rfl, rfl, rfl⟩ := hT.one (KeyTells.no (k := 74) (by rw [hmore]) (by decide))
    rw [show List.length ([] : List Nat) = 0 from rfl]
    have HW := Lib.hid (HW.out.trans (hb.mono HW.out.size))
    have HK16 := Lib.hid (KO.below HK16.out hb)
    clear hb hT hmore h86 HR6 HL6
    have hb13 := (Below.refl w12.heap.size w12).alloc (Nat.le_refl _) (KO (.slice a13 0 c13) (.slice a14 0 c14))
    have HW := Lib.hid (HW.out.trans (hb13.mono HW.out.size))
    have HK16 := Lib.hid (KO.below HK16.out hb13)
    clear hb13
    obtain ⟨kc0, kc1⟩ := KO.cells HK16.out
    go_wp2_with fail
    clear kc0 kc1
    refine (samekey_any a11 0 c11 a12 0 c12 none 0 none 0 [] [] _ rfl (by decide) rfl (by decide) (fun j hj => by cases hj) (fun j hj => by cases hj) (fun j hj => by cases hj) (fun j hj => by cases hj)).mono ?_
    rintro e w14 ⟨rfl, hb⟩
    have HW14 := Lib.hid (HW.out.trans (hb.mono HW.out.size))
    clear hb
    go_wp2_with fail
    refine (works7_any _).mono ?_
    rintro e w15 ⟨rfl, hb⟩
    have HBG := Lib.hid (HW14.out.trans (hb.mono HW14.out.size))
    clear hb
    go_wp2
    go_ret
    exact ⟨rfl, HBG.out⟩
  · obtain ⟨W3, hW3⟩ : ∃ W3, W3 = (w2.setCell ⟨w.heap.size + 1, 0, none⟩ (.slice a1 p c1)).setCell ⟨w.heap.size + 1, 1, none⟩ (.slice a2 q c2) := ⟨_, rfl⟩
    obtain ⟨g3, hg3⟩ : ∃ g3, g3 = w.heap.size + 1 := ⟨_, rfl⟩
    have HK : Hid (W3.heap[g3]? = some (KO (.slice a1 p c1) (.slice a2 q c2))) := by
      show _ = _
      rw [hW3, hg3]
      exact heap_setCell_same _ _ 1 _ _ _ (heap_setCell_same _ _ 0 _ _ _ HG.out)
    have hWW : Below w.heap.size w W3 := by rw [hW3]; exact (HW.out.setCell (Nat.le_succ _) _).setCell (Nat.le_succ _) _
    have hC : Chg (fun k => k = w.heap.size + 1) w2 W3 := by rw [hW3]; exact ((Chg.refl (fun k => k = w.heap.size + 1) w2).setCell (p := ⟨w.heap.size + 1, 0, none⟩) rfl _).setCell (p := ⟨w.heap.size + 1, 1, none⟩) rfl _
    have ho1 : own64 W3 w.heap.size (.slice a1 p c1) X := hC.owns (own64.under HOB1.out HB2.out) fun k hk he => by
      have := World.ownsRow.lt HO1.out k hk; have he : k = w.heap.size + 1 := he; have h9 : ((w.alloc (KO (.slice aN lN cN) (.slice aE lE cE))).alloc (KO (.slice none 0 0) (.slice none 0 0))).heap.size = w.heap.size + 2 := by simp
      have h8 : ((w.alloc (KO (.slice aN lN cN) (.slice aE lE cE))).alloc (KO (.slice none 0 0) (.slice none 0 0))).heap.size ≤ k := this.1
      omega
    have ho2 : own64 W3 w.heap.size (.slice a2 q c2) Y := hC.owns HOB2.out fun k hk he => by
      have := World.ownsRow.lt HO2.out k hk; have he : k = w.heap.size + 1 := he; have h9 := HB1.out.size; have h7 : ((w.alloc (KO (.slice aN lN cN) (.slice aE lE cE))).alloc (KO (.slice none 0 0) (.slice none 0 0))).heap.size = w.heap.size + 2 := by simp
      have h8 : ((w.alloc (KO (.slice aN lN cN) (.slice aE lE cE))).alloc (KO (.slice none 0 0) (.slice none 0 0))).heap.size ≤ w1.heap.size := h9
      omega
    have HW := Lib.hid hWW
    have HO1 := Lib.hid ho1
    have HO2 := Lib.hid ho2
    rw [← hW3, ← hg3]
    clear hC
    clear hWW ho1 ho2 hW3 hg3

    have hXn := lim_of HBX.out (by rw [HP.out]; exact hp64)
    have hYn := lim_of HBY.out (by rw [HQ.out]; exact hq64)
    have o1 := HO1.out
    have o2 := HO2.out
    obtain ⟨kc0, kc1⟩ := KO.cells HK.out
    go_wp2_with fail
    clear kc0 kc1
    refine (encode_any a1 p c1 X a2 q c2 Y _ HP.out (by omega) (own64.room o1).1 (own64.rd o1).2 HBX.out HQ.out (by omega) (own64.room o2).1 (own64.rd o2).2 HBY.out).mono ?_
    clear o1 o2
    rintro e w4 ⟨hb, a3, c3, k, bb, rfl, ho, hT⟩
    have hkey : k = 0 ∧ KeyB (val X) (val Y) bb := by
      rcases hT with ⟨_, _, h1, h2⟩ | ⟨h1, _⟩
      · exact ⟨h1, h2⟩
      · exact absurd ⟨hXn, hYn⟩ h1
    obtain ⟨rfl, hkey⟩ := hkey
    have hbl := hkey.len hXn hYn
    obtain ⟨a3', c3', e3, hc3, hr3, hn3, hm3⟩ := own8_open ho
    simp only [Value.slice.injEq, true_and] at e3
    obtain ⟨rfl, rfl⟩ := e3
    have HKEY := Lib.hid hkey
    have HR3 := Lib.hid hr3
    have HN3 := Lib.hid hn3
    have HO1 := Lib.hid (own64.under HO1.out hb)
    have HO2 := Lib.hid (own64.under HO2.out hb)
    have HW := Lib.hid (HW.out.trans (hb.mono HW.out.size))
    have HK := Lib.hid (KO.below HK.out hb)
    obtain ⟨l, hl⟩ : ∃ l, l = bb.length := ⟨_, rfl⟩
    have HL := Lib.hid hl
    rw [← hl] at hbl hc3 ⊢
    have HXN := Lib.hid hXn
    have HYN := Lib.hid hYn
    clear hT hkey ho hr3 hn3 hb hl hXn hYn
    go_wp2_with fail
    refine (decode_any a3 l c3 bb _ HL.out.symm (by omega) hc3 hm3 HN3.out HKEY.out.b8 HR3.out).mono ?_
    rintro e w5 ⟨hb, a5, c5, N, a6, c6, E, k, rfl, hsp, -, -, hT⟩
    obtain ⟨rfl, hNE, -⟩ : k = 0 ∧ (Num N (val X) ∧ Num E (val Y)) ∧ True := by
      obtain ⟨h1, h2, -⟩ := hT
      rw [dec0_of HKEY.out HXN.out HYN.out] at h1 h2
      exact ⟨h1.symm, h2 h1.symm, trivial⟩
    have HNE := Lib.hid hNE
    have HO1 := Lib.hid (own64.under HO1.out hb)
    have HO2 := Lib.hid (own64.under HO2.out hb)
    have HW := Lib.hid (HW.out.trans (hb.mono HW.out.size))
    have HK := Lib.hid (KO.below HK.out hb)
    have HR3 := Lib.hid (HR3.out.below hb)
    have HS := Lib.hid hsp
    obtain ⟨n5, hn5⟩ : ∃ n5, n5 = N.length := ⟨_, rfl⟩
    obtain ⟨n6, hn6⟩ : ∃ n6, n6 = E.length := ⟨_, rfl⟩
    have HN5 := Lib.hid hn5
    have HN6 := Lib.hid hn6
    rw [← hn5, ← hn6] at hsp ⊢
    have HRN5 := Lib.hid (own64.rd (hsp.own (v := .slice a5 n5 c5) (zs := N) (by simp))).2
    have HRE6 := Lib.hid (own64.rd (hsp.own (v := .slice a6 n6 c6) (zs := E) (by simp))).2
    have hn5l : n5 ≤ 64 := by rw [hn5]; exact (hNE.1.len_le).2 (by rw [← lim64]; exact HXN.out)
    have hn6l : n6 ≤ 64 := by rw [hn6]; exact (hNE.2.len_le).2 (by rw [← lim64]; exact HYN.out)
    clear hT hsp hNE hn5 hn6 hb HS
    have hb6 := (Below.refl w5.heap.size w5).alloc (Nat.le_refl _) (KO (.slice a5 n5 c5) (.slice a6 n6 c6))
    obtain ⟨g10, hg10⟩ : ∃ g10, g10 = w5.heap.size := ⟨_, rfl⟩
    obtain ⟨W6, hW6⟩ : ∃ W6, W6 = w5.alloc (KO (.slice a5 n5 c5) (.slice a6 n6 c6)) := ⟨_, rfl⟩
    have HK10 : Hid (W6.heap[g10]? = some (KO (.slice a5 n5 c5) (.slice a6 n6 c6))) := by show _ = _; rw [hW6, hg10]; exact heap_new _ _
    have HWW := Lib.hid (And.intro hW6 hg10)
    rw [← hW6] at hb6
    have HO1 := Lib.hid (own64.under HO1.out hb6)
    have HO2 := Lib.hid (own64.under HO2.out hb6)
    have HW := Lib.hid (HW.out.trans (hb6.mono HW.out.size))
    have HK := Lib.hid (KO.below HK.out hb6)
    have HR3 := Lib.hid (HR3.out.below hb6)
    have HRN5 := Lib.hid (HRN5.out.below hb6)
    have HRE6 := Lib.hid (HRE6.out.below hb6)
    clear hb6 hW6 hg10
    have kc := (KO.cells HK.out).1
    rw [HWW.out.1] at kc
    go_wp2_with fail
    rw [← HWW.out.1, ← HWW.out.2]
    clear kc HWW
    refine (norm0_any a1 p c1 X _ HP.out (by omega) (own64.room HO1.out).1 (own64.room HO1.out).2 (own64.rd HO1.out).2 HBX.out).mono ?_
    rintro e w7 ⟨v, zs, rfl, ho, hn, hb⟩
    obtain rfl : zs = N := hn.unique HNE.out.1
    obtain ⟨b7, d7, rfl, hr7⟩ := own64.form ho
    have HR7 := Lib.hid hr7
    have HO2 := Lib.hid (own64.under HO2.out hb)
    have HW := Lib.hid (HW.out.trans (hb.mono HW.out.size))
    have HK := Lib.hid (KO.below HK.out hb)
    have HK10 := Lib.hid (KO.below HK10.out hb)
    have HR3 := Lib.hid (HR3.out.below hb)
    have HRN5 := Lib.hid (HRN5.out.below hb)
    have HRE6 := Lib.hid (HRE6.out.below hb)
    rw [← HN5.out]
    clear hn ho hr7 hb HO1
    have kc := (KO.cells HK.out).2
    go_wp2_with fail
    clear kc
    refine (norm0_any a2 q c2 Y _ HQ.out (by omega) (own64.room HO2.out).1 (own64.room HO2.out).2 (own64.rd HO2.out).2 HBY.out).mono ?_
    rintro e w8 ⟨v, zs2, rfl, ho, hn, hb⟩
    obtain rfl : zs2 = E := hn.unique HNE.out.2
    obtain ⟨b8, d8, rfl, hr8⟩ := own64.form ho
    have HR8 := Lib.hid hr8
    have HR7 := Lib.hid (HR7.out.below hb)
    have HW := Lib.hid (HW.out.trans (hb.mono HW.out.size))
    have HK10 := Lib.hid (KO.below HK10.out hb)
    have HR3 := Lib.hid (HR3.out.below hb)
    have HRN5 := Lib.hid (HRN5.out.below hb)
    have HRE6 := Lib.hid (HRE6.out.below hb)
    rw [← HN6.out]
    clear hn ho hr8 hb HO2 HK
    obtain ⟨kc0, kc1⟩ := KO.cells HK10.out
    go_wp2_with fail
    clear kc0 kc1
    refine (samekey_any a5 n5 c5 a6 n6 c6 b7 d7 b8 d8 zs zs2 _ HN5.out.symm (by omega) HN6.out.symm (by omega) HRN5.out HRE6.out HR7.out HR8.out).mono ?_
    rintro e w9 ⟨rfl, hb⟩
    have HW := Lib.hid (HW.out.trans (hb.mono HW.out.size))
    have HR3 := Lib.hid (HR3.out.below hb)
    clear hb HR7 HR8 HRN5 HRE6 HK10 HN5 HN6 HNE
    go_wp2_with fail
    have hpk := pickn_any cut l w9 hz1 hz2 (by omega) (by omega)
    refine hpk.mono ?_
    clear hpk
    rintro e w' ⟨m, rfl, hm, rfl⟩
    have r1 : (0 : Int) ≤ (m : Int) := by omega
    have r2 : (m : Int) ≤ (c3 : Int) := by omega
    go_wp2_with fail
    have hcutk := dec0_cut HKEY.out m (by rw [← HL.out]; exact hm)
    refine (decode_any a3 m c3 (bb.take m) _ (by rw [List.length_take, ← HL.out]; omega) (by omega) (by omega) hm3 HN3.out (HKEY.out.b8.take m) (fun j hj => ?_)).mono ?_
    · obtain ⟨bx, off, e, hc⟩ := HR3.out.get (by rw [← HL.out]; omega)
      have hj2 : j < m ∧ j < bb.length := by simp at hj; omega
      refine ⟨bx, off, e, fun i hi => ?_⟩
      have hi2 : i < m ∧ i < bb.length := by simp at hi; omega
      rw [hc i hi2.2]
      simp [List.getD, hi2.1]
    rintro e w10 ⟨hb, a11, c11, N1, a12, c12, E1, k, rfl, -, -, -, hT⟩
    obtain ⟨rfl, rfl, rfl⟩ := hT.one (KeyTells.no (k := 70) (by rw [hcutk]) (by decide))
    rw [show List.length ([] : List Nat) = 0 from rfl]
    have HW := Lib.hid (HW.out.trans (hb.mono HW.out.size))
    have HR3 := Lib.hid (HR3.out.below hb)
    clear hb hT hcutk r1 r2
    obtain ⟨g16, hg16⟩ : ∃ g16, g16 = w10.heap.size := ⟨_, rfl⟩
    obtain ⟨W11, hW11⟩ : ∃ W11, W11 = w10.alloc (KO (.slice a11 0 c11) (.slice a12 0 c12)) := ⟨_, rfl⟩
    have hb11 : Below w10.heap.size w10 W11 := by rw [hW11]; exact (Below.refl _ _).alloc (Nat.le_refl _) _
    have HK16 : Hid (W11.heap[g16]? = some (KO (.slice a11 0 c11) (.slice a12 0 c12))) := by show _ = _; rw [hW11, hg16]; exact heap_new _ _
    have HWW := Lib.hid (And.intro hW11 hg16)
    have HW := Lib.hid (HW.out.trans (hb11.mono HW.out.size))
    have HR3 := Lib.hid (HR3.out.below hb11)
    clear hb11 hW11 hg16
    have HRX := Lib.hid HR3.out.news
    have hsz11 := HW.out.size
    have hR3' := HR3.out
    rw [HWW.out.1] at HRX hsz11
    go_wp2_with (first
      | (at_builtin; refine wpl_appN 22 5 Try.underlying22 info8 rfl (by decide) rfl _ _ rfl w.heap.size (.slice none 0 0) 0 [] rfl (World.ownsRow_nil _ _ _ _) a3 l c3 rfl (u8s bb) (by rw [u8s_len, HL.out]) (fun h => HRX.out (by rw [← HL.out]; exact h)) (fun _ h => HN3.out h) (u8s_one8 _) (by omega) hsz11 ?_; intro v5 x5 hown5 hg5 hor5 _; have HO5 := Lib.hid hown5; have HG5 := Lib.hid hg5; clear hown5 hg5)
      | (at_builtin; refine wpl_appN 22 5 Try.underlying22 info8 rfl (by decide) rfl _ _ rfl w.heap.size v5 (0 + l) ([] ++ u8s bb) rfl (HO5.out.alloc _) (some ⟨x5.heap.size, 0, none⟩) 1 1 rfl (u8s [y]) rfl (fun _ => (rd_lit x5 y).news (by simp)) (fun h => by cases h) (u8s_one8 _) (by omega) (Nat.le_trans hsz11 (Nat.le_trans HG5.out.size (by simp))) ?_; intro v6 x6 hown6 hg6 _ _; have HO6 := Lib.hid hown6; have HG6 := Lib.hid hg6; clear hown6 hg6))
    have hb15 : Below W11.heap.size W11 x5 := by
      rw [HWW.out.1]
      exact (Below.refl _ _).grown HG5.out (Nat.le_refl _) (fun q hq => by cases hq)
    have hb16 : Below W11.heap.size W11 x6 := (hb15.alloc hb15.size (.cells #[.int .u8 (y : Nat)] 5)).grown HG6.out (by have := hb15.size; simp; omega) (fun q hq => by
      rcases hor5.out q hq with h | h
      · cases h
      · rw [HWW.out.1]; exact Nat.le_of_eq h.symm)
    have hown6 : own8 x6 w.heap.size v6 (bb ++ [y]) := by
      have h := HO6.out
      rw [Nat.zero_add, List.nil_append] at h
      show x6.ownsRow _ _ _ _ _ _
      rw [List.length_append, ← HL.out, show u8s (bb ++ [y]) = u8s bb ++ u8s [y] by simp [u8s]]
      exact h
    obtain ⟨a6', c6', hv6, hc6, hr6, hn6, hm6⟩ := own8_open hown6
    have hl6 : (bb ++ [y]).length = l + 1 := by rw [List.length_append, ← HL.out]; rfl
    rw [hl6] at hv6 hc6
    have HR6 := Lib.hid hr6
    have HL6 := Lib.hid hl6
    have HW := Lib.hid (HW.out.trans (hb16.mono HW.out.size))
    have HK16 := Lib.hid (KO.below HK16.out hb16)
    subst hv6
    have h86 : B8 (bb ++ [y]) := b8_app HKEY.out.b8 (fun x hx => by simp at hx; omega)
    have hmore := dec0_more HKEY.out (post := [y]) (by simp)
    rw [← HWW.out.2]
    clear hb15 hb16 hown6 hr6 hor5 HRX hl6 HO5 HG5 HO6 HG6 hR3' HWW
    refine (decode_any a6' (l + 1) c6' (bb ++ [y]) _ HL6.out (by omega) hc6 hm6 hn6 h86 HR6.out).mono ?_
    rintro e w12 ⟨hb, a13, c13, N2, a14, c14, E2, k, rfl, -, -, -, hT⟩
    obtain ⟨rfl, rfl, rfl⟩ := hT.one (KeyTells.no (k := 74) (by rw [hmore]) (by decide))
    rw [show List.length ([] : List Nat) = 0 from rfl]
    have HW := Lib.hid (HW.out.trans (hb.mono HW.out.size))
    have HK16 := Lib.hid (KO.below HK16.out hb)
    clear hb hT hmore h86 HR6 HL6
    have hb13 := (Below.refl w12.heap.size w12).alloc (Nat.le_refl _) (KO (.slice a13 0 c13) (.slice a14 0 c14))
    have HW := Lib.hid (HW.out.trans (hb13.mono HW.out.size))
    have HK16 := Lib.hid (KO.below HK16.out hb13)
    clear hb13
    obtain ⟨kc0, kc1⟩ := KO.cells HK16.out
    go_wp2_with fail
    clear kc0 kc1
    refine (samekey_any a11 0 c11 a12 0 c12 none 0 none 0 [] [] _ rfl (by decide) rfl (by decide) (fun j hj => by cases hj) (fun j hj => by cases hj) (fun j hj => by cases hj) (fun j hj => by cases hj)).mono ?_
    rintro e w14 ⟨rfl, hb⟩
    have HW14 := Lib.hid (HW.out.trans (hb.mono HW.out.size))
    clear hb
    go_wp2_with fail
    refine (works7_any _).mono ?_
    rintro e w15 ⟨rfl, hb⟩
    have HBG := Lib.hid (HW14.out.trans (hb.mono HW14.out.size))
    clear hb
    go_wp2
    go_ret
    exact ⟨rfl, HBG.out⟩
end Go.Proofs.Ytkghgfiindpcjaa
