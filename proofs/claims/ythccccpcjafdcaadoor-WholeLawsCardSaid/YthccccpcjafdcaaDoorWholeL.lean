import Derived.Test.YthccccpcjafdcaaDoorWholeK
namespace Go.Proofs.YthccccpcjafdcaaDoor
open Go.RowKit

theorem sg_diff (z1 z2 : Int) (i j : Nat) (hi : sg z1 + 1 = (i : Int)) (hj : sg z2 + 1 = (j : Int)) (hne : i ≠ j) : sg ((i : Int) - (j : Int)) = sg (z1 - z2) := by
  have e : (i : Int) - (j : Int) = sg z1 - sg z2 := by omega
  rw [e]
  unfold sg at *
  repeat' split
  all_goals (try split at hi) <;> (try split at hj) <;> omega
theorem sg_cmp (n m : Bool) (xs ys : List Nat) (h : sg (wv n xs) = sg (wv m ys)) : sg (wv n xs) * cmpI (val xs) (val ys) = sg (wv n xs - wv m ys) := by
  have hx : val xs = (wv n xs).natAbs := (wv_abs n xs).symm
  have hy : val ys = (wv m ys).natAbs := (wv_abs m ys).symm
  generalize wv n xs = z1 at *
  generalize wv m ys = z2 at *
  rw [hx, hy]
  have h3 : sg z1 = -1 ∨ sg z1 = 0 ∨ sg z1 = 1 := by have := sg_le z1; omega
  rcases h3 with h3 | h3 | h3
  · rw [h3] at h ⊢
    have a1 : z1 < 0 := by unfold sg at h3; (repeat' split at h3) <;> omega
    have a2 : z2 < 0 := by unfold sg at h; (repeat' split at h) <;> omega
    unfold cmpI sg; (repeat' split) <;> omega
  · rw [h3] at h ⊢
    have a1 : z1 = 0 := by unfold sg at h3; (repeat' split at h3) <;> omega
    have a2 : z2 = 0 := by unfold sg at h; (repeat' split at h) <;> omega
    subst a1 a2; rfl
  · rw [h3] at h ⊢
    have a1 : 0 < z1 := by unfold sg at h3; (repeat' split at h3) <;> omega
    have a2 : 0 < z2 := by unfold sg at h; (repeat' split at h) <;> omega
    unfold cmpI sg; (repeat' split) <;> omega

set_option maxHeartbeats 1000000 in
set_option maxRecDepth 100000 in
theorem wcmp_any (n m : Bool) (a b : Option Addr) (la ca lb cb : Nat) (xs ys : List Nat) (w : World) (hla : xs.length = la) (hlb : ys.length = lb) (hba : la ≤ 1048576) (hbb : lb ≤ 1048576) (hca : la ≤ ca) (hcb : lb ≤ cb)
    (hra : Rd .u64 w a xs) (hrb : Rd .u64 w b ys) (bx : Bd xs) (bY : Bd ys) (ht : Tabs w) :
    Calls Tryd.prog 28 #[.agg #[.bool n, .slice a la ca], .agg #[.bool m, .slice b lb cb]] w fun e w' => e = .returned (.int .i64 (sg (wv n xs - wv m ys))) ∧ Below w.heap.size w w' := by
  have HA := Lib.hid (fun (W : World) (h : Below w.heap.size w W) => hra.below h)
  have HB := Lib.hid (fun (W : World) (h : Below w.heap.size w W) => hrb.below h)
  have HT := Lib.hid (fun (W : World) (h : Below w.heap.size w W) => ht.below h)
  have HBX := Lib.hid bx
  have HBY := Lib.hid bY
  have HS0 := Lib.hid (boxes0 n a la ca m b lb cb w)
  clear hra hrb bx bY ht
  go_enter Tryd.func28, Tryd.ntmps28
  go_wp2_with fail
  refine (places_any n m a b la ca lb cb xs ys _ hla hlb hba hbb hca hcb (HA.out _ (((Below.refl _ _).alloc (Nat.le_refl _) _).alloc (by simp) _)) (HB.out _ (((Below.refl _ _).alloc (Nat.le_refl _) _).alloc (by simp) _)) HBX.out HBY.out).mono ?_
  rintro e w2 ⟨rfl, hb2⟩
  obtain ⟨i, hi, ei⟩ := sg_at (wv n xs)
  obtain ⟨j, hj, ej⟩ := sg_at (wv m ys)
  rw [ei, ej]
  have HEI := Lib.hid ei
  have HEJ := Lib.hid ej
  have hi3 : (i : Int) < 3 := by omega
  have hj3 : (j : Int) < 3 := by omega
  have hbx : Boxes w.heap.size n a la ca m b lb cb w w2 := by
    have h0 := HS0.out
    have c := below_cell (w := (w.alloc (WO n a la ca)).alloc (WO m b lb cb)) hb2
    exact ⟨c _ _ h0.1, c _ _ h0.2.1, c _ _ h0.2.2.1, c _ _ h0.2.2.2.1, (((Below.refl _ _).alloc (Nat.le_refl _) _).alloc (by simp) _).trans (hb2.mono (by simp <;> omega))⟩
  have htab := (HT.out _ hbx.2.2.2.2).ords i j hi hj
  have HX := Lib.hid hbx
  clear ei ej hb2 hbx
  by_cases hij : i = j
  · subst hij
    rw [show sg ((i : Int) - (i : Int)) = 0 by rw [Int.sub_self]; rfl] at htab
    have hse : sg (wv n xs) = sg (wv m ys) := by have h1 := HEI.out; have h2 := HEJ.out; omega
    have HC := Lib.hid (sg_cmp n m xs ys hse)
    have hS0 : Hid (Boxes w.heap.size n a la ca m b lb cb w w2.drew) := by
      have h0 := HX.out
      exact ⟨h0.1, h0.2.1, h0.2.2.1, h0.2.2.2.1, h0.2.2.2.2.drew⟩
    have hBl : Hid (∀ W, Boxes w.heap.size n a la ca m b lb cb w W → Below w.heap.size w W) := fun W h => h.2.2.2.2
    have hKp : Hid (∀ W o, Boxes w.heap.size n a la ca m b lb cb w W → Boxes w.heap.size n a la ca m b lb cb w (W.alloc o)) := fun W o h => boxes_alloc h rfl o
    have hKd : Hid (∀ W k, Boxes w.heap.size n a la ca m b lb cb w (World.drew W) → Boxes w.heap.size n a la ca m b lb cb w (W.drewN k)) := fun W k h => ⟨h.1, h.2.1, h.2.2.1, h.2.2.2.1, ⟨h.2.2.2.2.os, h.2.2.2.2.tape, h.2.2.2.2.output, h.2.2.2.2.size, h.2.2.2.2.block⟩⟩
    obtain ⟨cv, hcv⟩ : ∃ cv, cv = cmpI (val xs) (val ys) := ⟨_, rfl⟩
    have hwr : IntKind.i64.wrap (sg (wv n xs) * cv) = sg (wv n xs - wv m ys) := by
      rw [hcv, HC.out]
      have := sg_le (wv n xs - wv m ys)
      have h : sg (wv n xs - wv m ys) = -1 ∨ sg (wv n xs - wv m ys) = 0 ∨ sg (wv n xs - wv m ys) = 1 := by omega
      rcases h with h | h | h <;> rw [h] <;> decide
    have HCV := Lib.hid hcv
    clear hse hcv
    go_wp2_with fail
    go_region_held3 (fun W => W.cell? ⟨w.heap.size, 0, none⟩ = some (.bool n) ∧ W.cell? ⟨w.heap.size, 1, none⟩ = some (.slice a la ca) ∧ W.cell? ⟨w.heap.size + 1, 0, none⟩ = some (.bool m) ∧ W.cell? ⟨w.heap.size + 1, 1, none⟩ = some (.slice b lb cb) ∧ Below w.heap.size w W)
      (first | exact hS0.out | exact hKp.out _ _ (by assumption) | exact hKd.out _ _ (by assumption))
      (first
      | (go_at_call 26; (with_reducible refine (wsign_any n a la ca xs _ hla hba hca ?ha HBX.out).mono ?_); (case ha => exact HA.out _ (hBl.out _ (by assumption))); rintro e w3 ⟨rfl, rfl⟩)
      | (go_at_call 61; (refine (cmp_any a b la lb ca cb xs ys _ hla hlb (by omega) (by omega) hca hcb (HA.out _ (hBl.out _ (by assumption))) (HB.out _ (hBl.out _ (by assumption))) HBX.out HBY.out).mono ?_); rintro e w3 ⟨rfl, nd, rfl⟩; rw [← HCV.out]))
    have HBB := Lib.hid (hBl.out _ (by assumption))
    go_wp2
    go_ret
    exact ⟨rfl, HBB.out⟩
  · have hs : sg ((i : Int) - (j : Int)) = sg (wv n xs - wv m ys) := sg_diff _ _ i j HEI.out HEJ.out hij
    have hne : (sg ((i : Int) - (j : Int)) != 0) = true := by
      rw [bne_iff_ne]
      unfold sg
      (repeat' split) <;> omega
    rw [hs] at htab hne
    have HBB := Lib.hid HX.out.2.2.2.2
    clear hs hij
    go_wp2
    go_ret
    exact ⟨rfl, HBB.out⟩

/-- A whole number that lies in the call's first block. -/
def Box1 (n : Bool) (a : Option Addr) (la ca : Nat) (w W : World) : Prop :=
  W.cell? ⟨w.heap.size, 0, none⟩ = some (.bool n) ∧ W.cell? ⟨w.heap.size, 1, none⟩ = some (.slice a la ca) ∧ Below w.heap.size w W
theorem box1_0 (n : Bool) (a : Option Addr) (la ca : Nat) (w : World) : Box1 n a la ca w (w.alloc (WO n a la ca)) := by
  have d := World.cell?_alloc_mark w #[.bool n, .slice a la ca] 44 (0, 0)
  exact ⟨(d 0).trans rfl, (d 1).trans rfl, (Below.refl _ _).alloc (Nat.le_refl _) _⟩
theorem Box1.below {n : Bool} {a : Option Addr} {la ca : Nat} {w W W' : World} (h : Box1 n a la ca w W) (hb : Below W.heap.size W W') : Box1 n a la ca w W' :=
  ⟨below_cell hb _ _ h.1, below_cell hb _ _ h.2.1, h.2.2.trans (hb.mono h.2.2.size)⟩
theorem wv_int {z : Int} {zs : List Nat} (h : Num zs z.natAbs) : wv (decide (z < 0)) zs = z := by
  unfold wv; rw [h.vl]
  by_cases hz : z < 0
  · rw [decide_eq_true hz]; simp only [if_true]; omega
  · rw [decide_eq_false hz]; simp only [Bool.false_eq_true, if_false]; omega
theorem at0_low {xs : List Nat} (h : val xs < 18446744073709551616) : at0 xs 0 = val xs := by
  cases xs with
  | nil => rfl
  | cons x xs => rw [val_cons] at h ⊢; rw [at0_cons_zero]; omega
theorem len_pos {xs : List Nat} (h : 0 < val xs) : 0 < xs.length := by
  cases xs with
  | nil => simp [val] at h
  | cons x xs => simp
theorem int64_back (n : Bool) (v : Nat) (z : Int) (hz : z = if n then -(v : Int) else (v : Int)) (h0 : 0 < v) (h1 : -9223372036854775808 ≤ z) (h2 : z ≤ 9223372036854775807) :
    IntKind.i64.wrap ((if n then -1 else 1) * IntKind.i64.wrap (v : Int)) = z := by
  subst hz
  cases n
  · simp only [Bool.false_eq_true, if_false] at *
    rw [Int.one_mul, IntWalk.i64_in (v : Int) (by omega), IntWalk.i64_in _ (by omega)]
  · simp only [if_true] at *
    by_cases hv : v = 9223372036854775808
    · subst hv; decide
    · rw [IntWalk.i64_in (v : Int) (by omega), Int.neg_one_mul, IntWalk.i64_in _ (by omega)]

set_option maxHeartbeats 1000000 in
set_option maxRecDepth 100000 in
theorem int64_some (n : Bool) (a : Option Addr) (la ca : Nat) (xs : List Nat) (w : World) (hla : xs.length = la) (hba : la ≤ 1048576) (hca : la ≤ ca) (hra : Rd .u64 w a xs) (bx : Bd xs) (ht : Tabs w)
    (h0 : wv n xs ≠ 0) (h1 : -9223372036854775808 ≤ wv n xs) (h2 : wv n xs ≤ 9223372036854775807) :
    Calls Tryd.prog 63 #[.agg #[.bool n, .slice a la ca]] w fun e w' => e = .returned (.tuple #[.int .i64 (wv n xs), .bool true]) ∧ Below w.heap.size w w' := by
  have hv : val xs = (wv n xs).natAbs := (wv_abs n xs).symm
  have hpos : 0 < val xs := by omega
  have hlen := len_pos hpos
  obtain ⟨ba, oa, rfl⟩ := hra.isAt hlen
  have hlimb := hra.cell (i := 0) hlen
  rw [Nat.add_zero, at0_low (by omega)] at hlimb
  have HLM := Lib.hid (fun (W : World) (h : Below w.heap.size w W) => below_cell h _ _ hlimb)
  have HA := Lib.hid (fun (W : World) (h : Below w.heap.size w W) => hra.below h)
  have HT := Lib.hid (fun (W : World) (h : Below w.heap.size w W) => ht.below h)
  have HBX := Lib.hid bx
  have hback : IntKind.i64.wrap (sg (wv n xs) * IntKind.i64.wrap (val xs : Int)) = wv n xs := by
    rw [sg_wv n xs hpos]; exact int64_back n (val xs) _ rfl hpos h1 h2
  have hsg0 : (sg (wv n xs) == 0) = false := by
    rw [beq_eq_false_iff_ne, sg_wv n xs hpos]; cases n <;> decide
  have HS0 : Hid (Box1 n (some ⟨ba, oa, none⟩) la ca w ((w.alloc (WO n (some ⟨ba, oa, none⟩) la ca)).drew)) := ⟨(box1_0 n _ la ca w).1, (box1_0 n _ la ca w).2.1, (box1_0 n _ la ca w).2.2.drew⟩
  have HKB : Hid (∀ W W', Box1 n (some ⟨ba, oa, none⟩) la ca w W → Below W.heap.size W W' → Box1 n (some ⟨ba, oa, none⟩) la ca w W') := fun W W' h hb => h.below hb
  have HKW : Hid (∀ W, Box1 n (some ⟨ba, oa, none⟩) la ca w W → Below w.heap.size w W) := fun W h => h.2.2
  have HR : Hid (-9223372036854775808 ≤ wv n xs ∧ wv n xs ≤ 9223372036854775807) := ⟨h1, h2⟩
  have HVP : Hid (0 < val xs) := hpos
  obtain ⟨z, hz⟩ : ∃ z, z = wv n xs := ⟨_, rfl⟩
  clear hra bx ht hlimb h0 h1 h2 hv hpos
  go_enter Tryd.func63, Tryd.ntmps63
  go_wp2_with fail
  go_region_held3 (fun W => W.cell? ⟨w.heap.size, 0, none⟩ = some (.bool n) ∧ W.cell? ⟨w.heap.size, 1, none⟩ = some (.slice (some ⟨ba, oa, none⟩) la ca) ∧ Below w.heap.size w W)
    (first | exact HS0.out | exact HKB.out _ _ (by assumption) hb3)
    (first
    | (go_at_call 33; (with_reducible refine (int_any (-9223372036854775808) _ (by decide) (by decide)).mono ?_); rintro e w3 ⟨hb3, ai, ci, zi, rfl, hoi, hNi⟩
       have hzi := Lib.hid (wv_int hNi)
       have HOI := Lib.hid hoi
       have HNI := Lib.hid hNi
       have hli : zi.length ≤ 1048576 := by have := (hNi.len_le (k := 1)).2 (by decide); omega
       have hqi : Hid (∀ r, r = sg (wv n xs - wv (decide ((-9223372036854775808 : Int) < 0)) zi) → decide (r < 0) = false) := by
         intro r hr
         rw [hzi.out] at hr
         rw [decide_eq_false_iff_not, hr]
         have := HR.out.1
         unfold sg; (repeat' split) <;> omega
       generalize decide ((-9223372036854775808 : Int) < 0) = bi at *
       clear hoi hNi)
    | (go_at_call 33; (with_reducible refine (int_any 9223372036854775807 _ (by decide) (by decide)).mono ?_); rintro e w3 ⟨hb3, ai, ci, zi, rfl, hoi, hNi⟩
       have hzi := Lib.hid (wv_int hNi)
       have HOI := Lib.hid hoi
       have HNI := Lib.hid hNi
       have hli : zi.length ≤ 1048576 := by have := (hNi.len_le (k := 1)).2 (by decide); omega
       have hqi : Hid (∀ r, r = sg (wv n xs - wv (decide ((9223372036854775807 : Int) < 0)) zi) → decide (0 < r) = false) := by
         intro r hr
         rw [hzi.out] at hr
         rw [decide_eq_false_iff_not, hr]
         have := HR.out.2
         unfold sg; (repeat' split) <;> omega
       generalize decide ((9223372036854775807 : Int) < 0) = bi at *
       clear hoi hNi)
    | (go_at_call 28; (refine (wcmp_any n bi (some ⟨ba, oa, none⟩) ai la ca zi.length ci xs zi _ hla rfl hba hli hca (own64.room HOI.out).1 (HA.out _ (HKW.out _ (by assumption))) (own64.rd HOI.out).2 HBX.out HNI.out.bd (HT.out _ (HKW.out _ (by assumption)))).mono ?_); rintro e w4 ⟨rfl, hb3⟩
       obtain ⟨r, hr⟩ : ∃ r, r = sg (wv n xs - wv bi zi) := ⟨_, rfl⟩
       rw [← hr]
       have hqr := hqi.out r hr
       have HRR := Lib.hid hr
       clear hr))
  have HX := Lib.hid (show Box1 n (some ⟨ba, oa, none⟩) la ca w w4 from by assumption)
  clear hz z hb3 HOI HNI
  obtain ⟨c0, c1, _⟩ := HX.out
  go_wp2_with fail
  refine (wsign_any n (some ⟨ba, oa, none⟩) la ca xs _ hla hba hca (HA.out _ HX.out.2.2) HBX.out).mono ?_
  rintro e w5 ⟨rfl, rfl⟩
  have HX5 := Lib.hid (HX.out.below ((Below.refl _ _).alloc (Nat.le_refl _) (WO n (some ⟨ba, oa, none⟩) la ca)))
  have hl3 : (0 : Int) < (la : Int) := by omega
  have hl4 : 0 < la := by omega
  have hl5 : ¬ la = 0 := by omega
  obtain ⟨v, hvv⟩ : ∃ v, v = val xs := ⟨_, rfl⟩
  rw [← hvv] at hback HLM
  obtain ⟨u, huu⟩ : ∃ u, u = IntKind.i64.wrap (v : Int) := ⟨_, rfl⟩
  have HUU := Lib.hid huu
  have HVV := Lib.hid hvv
  clear c0 c1 hvv huu
  have HKM : Hid (∀ W W', (W.cell? ⟨w.heap.size, 0, none⟩ = some (.bool n) ∧ W.cell? ⟨w.heap.size, 1, none⟩ = some (.slice (some ⟨ba, oa, none⟩) la ca) ∧ W.cell? ⟨ba, oa, none⟩ = some (.int .u64 (v : Int)) ∧ Below w.heap.size w W) → Below W.heap.size W W' → (W'.cell? ⟨w.heap.size, 0, none⟩ = some (.bool n) ∧ W'.cell? ⟨w.heap.size, 1, none⟩ = some (.slice (some ⟨ba, oa, none⟩) la ca) ∧ W'.cell? ⟨ba, oa, none⟩ = some (.int .u64 (v : Int)) ∧ Below w.heap.size w W')) :=
    fun W W' h hb => ⟨below_cell hb _ _ h.1, below_cell hb _ _ h.2.1, below_cell hb _ _ h.2.2.1, h.2.2.2.trans (hb.mono h.2.2.2.size)⟩
  have HS5 : Hid ((w4.alloc (WO n (some ⟨ba, oa, none⟩) la ca)).drew.cell? ⟨w.heap.size, 0, none⟩ = some (.bool n) ∧ (w4.alloc (WO n (some ⟨ba, oa, none⟩) la ca)).drew.cell? ⟨w.heap.size, 1, none⟩ = some (.slice (some ⟨ba, oa, none⟩) la ca) ∧ (w4.alloc (WO n (some ⟨ba, oa, none⟩) la ca)).drew.cell? ⟨ba, oa, none⟩ = some (.int .u64 (v : Int)) ∧ Below w.heap.size w (w4.alloc (WO n (some ⟨ba, oa, none⟩) la ca)).drew) :=
    ⟨HX5.out.1, HX5.out.2.1, HLM.out _ HX5.out.2.2.drew, HX5.out.2.2.drew⟩
  go_wp2_with fail
  go_region_held3 (fun W => W.cell? ⟨w.heap.size, 0, none⟩ = some (.bool n) ∧ W.cell? ⟨w.heap.size, 1, none⟩ = some (.slice (some ⟨ba, oa, none⟩) la ca) ∧ W.cell? ⟨ba, oa, none⟩ = some (.int .u64 (v : Int)) ∧ Below w.heap.size w W)
    (first | exact HS5.out | exact HKM.out _ _ (by assumption) ((Below.refl _ _).alloc (Nat.le_refl _) _))
    (first
    | (go_at_call 26; (with_reducible refine (wsign_any n (some ⟨ba, oa, none⟩) la ca xs _ hla hba hca ?ha HBX.out).mono ?_); (case ha => exact HA.out _ (And.right (And.right (And.right (by assumption))))); rintro e w6 ⟨rfl, rfl⟩))
  have HBB := Lib.hid (show Below w.heap.size w _ from And.right (And.right (And.right (by assumption))))
  go_wp2
  go_ret2
  exact ⟨by rw [← hback]; rfl, HBB.out⟩
end Go.Proofs.YthccccpcjafdcaaDoor
