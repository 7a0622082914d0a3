import Derived.Test.YthccccpcjafdcaaDoorWholeI
namespace Go.Proofs.YthccccpcjafdcaaDoor
open Go.RowKit

def WQuoTells (P : Prop) (vy : Nat) (W : Int) (k : Int) (n : Bool) (zs : List Nat) : Prop :=
  (¬ P ∧ k = 3 ∧ n = false ∧ zs = []) ∨ (P ∧ vy = 0 ∧ k = 11 ∧ n = false ∧ zs = []) ∨ (P ∧ 0 < vy ∧ k = 0 ∧ n = decide (W < 0) ∧ Num zs W.natAbs)
theorem quo_told {xs ys : List Nat} {B : Nat} {w w' : World} {e : Ending} (h : QuoPost xs ys w e w') (hx : fl xs ≤ 64) (hy : fl ys ≤ 64) (hB : B ≤ w.heap.size) :
    ∃ (aq : Option Addr) (cq : Nat) (qs : List Nat) (ar : Option Addr) (cr : Nat) (rs : List Nat) (k : Int), e = .returned (.tuple #[.slice aq qs.length cq, .slice ar rs.length cr, .int .i64 k]) ∧ own64 w' B (.slice aq qs.length cq) qs ∧ own64 w' B (.slice ar rs.length cr) rs ∧
      ((val ys = 0 ∧ k = 11 ∧ qs = [] ∧ rs = []) ∨ (0 < val ys ∧ k = 0 ∧ Num qs (val xs / val ys) ∧ Num rs (val xs % val ys))) := by
  rcases h.2 with ⟨h1, _⟩ | ⟨_, _, h1, rfl⟩ | ⟨_, _, h1, q, r, qs, rs, rfl, hq, hr, hnq, hnr, _⟩
  · omega
  · exact ⟨none, 0, [], none, 0, [], 11, rfl, own64_nil _ _, own64_nil _ _, .inl ⟨h1, rfl, rfl, rfl⟩⟩
  · obtain ⟨aq, cq, rfl, _⟩ := own64.form hq
    obtain ⟨ar, cr, rfl, _⟩ := own64.form hr
    exact ⟨aq, cq, qs, ar, cr, rs, 0, rfl, owns_base hq hB, owns_base hr hB, .inr ⟨h1, rfl, hnq, hnr⟩⟩
theorem val_quo_len {zs : List Nat} {n : Nat} (h : Num zs n) (hn : n < LIM) : zs.length ≤ 1048576 := by
  have := (h.len_le (k := 64)).2 hn
  omega
theorem tdiv_abs (n m : Bool) (xs ys : List Nat) : (Int.tdiv (wv n xs) (wv m ys)).natAbs = val xs / val ys := by
  rw [Int.natAbs_tdiv, wv_abs, wv_abs]
  rfl
theorem tmod_abs (n m : Bool) (xs ys : List Nat) : (Int.tmod (wv n xs) (wv m ys)).natAbs = val xs % val ys := by
  rw [Int.natAbs_tmod, wv_abs, wv_abs]
theorem tmod_neg (n m : Bool) (xs ys : List Nat) : (n && decide (0 < val xs % val ys)) = decide (Int.tmod (wv n xs) (wv m ys) < 0) := by
  have h := tmod_abs n m xs ys
  have h2 : 0 ≤ Int.tmod (val xs : Int) (wv m ys) := Int.tmod_nonneg _ (by omega)
  cases n
  · have : wv false xs = (val xs : Int) := by unfold wv; simp
    rw [this] at h ⊢
    rw [decide_eq_false (show ¬ (Int.tmod (val xs : Int) (wv m ys) < 0) by omega)]; rfl
  · have : wv true xs = -(val xs : Int) := by unfold wv; simp
    rw [this] at h ⊢
    rw [Int.neg_tmod] at h ⊢
    rw [Bool.true_and, decide_eq_decide]
    omega
theorem sg_wv (n : Bool) (xs : List Nat) (h : 0 < val xs) : sg (wv n xs) = if n then -1 else 1 := by
  unfold sg wv; cases n <;> simp only [if_true, Bool.false_eq_true, if_false] <;> (repeat' split) <;> omega
theorem tdiv_neg (n m : Bool) (xs ys : List Nat) (i j : Nat) (t : Int) (nb : Bool) (hi : sg (wv n xs) + 1 = (i : Int)) (hj : sg (wv m ys) + 1 = (j : Int)) (ht : t = ((i : Int) - 1) * ((j : Int) - 1)) (hn : decide (t < 0) = nb) :
    (nb && decide (0 < val xs / val ys)) = decide (Int.tdiv (wv n xs) (wv m ys) < 0) := by
  have h := tdiv_abs n m xs ys
  have e1 : ((i : Int) - 1) = sg (wv n xs) := by omega
  have e2 : ((j : Int) - 1) = sg (wv m ys) := by omega
  rw [e1, e2] at ht
  generalize hq : val xs / val ys = q at h ⊢
  rcases Nat.eq_zero_or_pos q with h0 | h0
  · subst h0
    rw [decide_eq_false (by omega), decide_eq_false (by omega), Bool.and_false]
  have hvx : 0 < val xs := Nat.pos_of_ne_zero fun h => by rw [h, Nat.zero_div] at hq; omega
  have hvy : 0 < val ys := Nat.pos_of_ne_zero fun h => by rw [h, Nat.div_zero] at hq; omega
  rw [decide_eq_true h0, Bool.and_true, ← hn, decide_eq_decide, ht]
  have hd : 0 ≤ Int.tdiv (val xs : Int) (val ys : Int) := Int.tdiv_nonneg (by omega) (by omega)
  rw [sg_wv n xs hvx, sg_wv m ys hvy]
  cases n <;> cases m <;> simp only [wv, if_true, Bool.false_eq_true, if_false, Int.neg_tdiv, Int.tdiv_neg] at h ⊢ <;> generalize Int.tdiv (val xs : Int) (val ys : Int) = D at h hd ⊢ <;> omega

/-- The two numbers and the result's block. -/
structure Bx (B : Nat) (n : Bool) (a : Option Addr) (la ca : Nat) (m : Bool) (b : Option Addr) (lb cb : Nat) (w W : World) : Prop where
  a0 : W.cell? ⟨B, 0, none⟩ = some (.bool n)
  a1 : W.cell? ⟨B, 1, none⟩ = some (.slice a la ca)
  b0 : W.cell? ⟨B + 1, 0, none⟩ = some (.bool m)
  b1 : W.cell? ⟨B + 1, 1, none⟩ = some (.slice b lb cb)
  held : Held W (B + 1 + 1)
  bel : Below B w W
theorem Bx.below {B : Nat} {n : Bool} {a : Option Addr} {la ca : Nat} {m : Bool} {b : Option Addr} {lb cb : Nat} {w W W' : World} (h : Bx B n a la ca m b lb cb w W) (hB : w.heap.size = B) (hb : Below W.heap.size W W') : Bx B n a la ca m b lb cb w W' := by
  subst hB
  have c := below_cell hb
  exact ⟨c _ _ h.a0, c _ _ h.a1, c _ _ h.b0, c _ _ h.b1, h.held.below hb, h.bel.trans (hb.mono h.bel.size)⟩
theorem bx0 (n : Bool) (a : Option Addr) (la ca : Nat) (m : Bool) (b : Option Addr) (lb cb : Nat) (w : World) : Bx w.heap.size n a la ca m b lb cb w (((((w.alloc (WO n a la ca)).alloc (WO m b lb cb)).alloc (WO false none 0 0)).alloc (WO n a la ca)).alloc (WO m b lb cb)) := by
  have hx := boxes0 n a la ca m b lb cb w
  have g1 := below_cell (w := (w.alloc (WO n a la ca)).alloc (WO m b lb cb)) (w' := (((((w.alloc (WO n a la ca)).alloc (WO m b lb cb)).alloc (WO false none 0 0)).alloc (WO n a la ca)).alloc (WO m b lb cb))) ((((Below.refl _ _).alloc (Nat.le_refl _) _).alloc (by simp) _).alloc (by simp <;> omega) _)
  exact ⟨g1 _ _ hx.1, g1 _ _ hx.2.1, g1 _ _ hx.2.2.1, g1 _ _ hx.2.2.2.1, ⟨false, none, 0, 0, heap_kept (heap_kept (heap_third _ _ _ _) _) _⟩, (((((Below.refl _ _).alloc (Nat.le_refl _) _).alloc (by simp) _).alloc (by simp <;> omega) _).alloc (by simp <;> omega) _).alloc (by simp <;> omega) _⟩

set_option maxHeartbeats 1000000 in
set_option maxRecDepth 100000 in
theorem wquo_of (n m : Bool) (a b : Option Addr) (la ca lb cb : Nat) (xs ys : List Nat) (w : World) (hla : xs.length = la) (hlb : ys.length = lb) (hba : la ≤ 1048576) (hbb : lb ≤ 1048576) (hca : la ≤ ca) (hcb : lb ≤ cb)
    (hra : Rd .u64 w a xs) (hrb : Rd .u64 w b ys) (bx : Bd xs) (bY : Bd ys) (ht : Tabs w)
    (hdiv : ∀ W, Below w.heap.size w W → Calls Tryd.prog 55 #[.slice a la ca, .slice b lb cb] W (QuoPost xs ys W)) :
    Calls Tryd.prog 30 #[.agg #[.bool n, .slice a la ca], .agg #[.bool m, .slice b lb cb]] w (WTold (WQuoTells (val xs < LIM ∧ val ys < LIM) (val ys) (Int.tdiv (wv n xs) (wv m ys))) w) := by
  have HA := Lib.hid (fun (W : World) (h : Below w.heap.size w W) => hra.below h)
  have HB := Lib.hid (fun (W : World) (h : Below w.heap.size w W) => hrb.below h)
  have HM := Lib.hid hdiv
  have HBX := Lib.hid bx
  have HBY := Lib.hid bY
  have HT := Lib.hid ht
  clear ht
  clear hra hrb hdiv bx bY
  go_enter Tryd.func30, Tryd.ntmps30
  go_wp2_with fail
  refine (wfits_any n a la ca xs _ hla hba hca (HA.out _ ((((Below.refl _ _).alloc (Nat.le_refl _) _).alloc (by simp) _).alloc (by simp; omega) _)) HBX.out).mono ?_
  rintro e w1 ⟨rfl, rfl⟩
  by_cases h1 : val xs < LIM
  · rw [decide_eq_true h1]
    go_wp2_with fail
    refine (wfits_any m b lb cb ys _ hlb hbb hcb (HB.out _ (((((Below.refl _ _).alloc (Nat.le_refl _) _).alloc (by simp) _).alloc (by simp; omega) _).alloc (by simp; omega) _)) HBY.out).mono ?_
    rintro e w1 ⟨rfl, rfl⟩
    by_cases h2 : val ys < LIM
    · rw [decide_eq_true h2]
      have H1 := Lib.hid h1
      have H2 := Lib.hid h2
      clear h1 h2
      have HX0 := Lib.hid (bx0 n a la ca m b lb cb w)
      go_wp2_with fail
      refine (places_any n m a b la ca lb cb xs ys _ hla hlb hba hbb hca hcb (HA.out _ HX0.out.bel) (HB.out _ HX0.out.bel) HBX.out HBY.out).mono ?_
      rintro e w2 ⟨rfl, hb2⟩
      obtain ⟨i, hi, ei⟩ := sg_at (wv n xs)
      obtain ⟨j, hj, ej⟩ := sg_at (wv m ys)
      rw [ei, ej]
      have HEI := Lib.hid ei
      have HEJ := Lib.hid ej
      have hi3 : (i : Int) < 3 := by omega
      have hj3 : (j : Int) < 3 := by omega
      obtain ⟨t, hte⟩ : ∃ t : Int, t = ((i : Int) - 1) * ((j : Int) - 1) := ⟨_, rfl⟩
      obtain ⟨nb, hnb⟩ : ∃ nb, decide (t < 0) = nb := ⟨_, rfl⟩
      have HNB := Lib.hid hnb
      have HTE := Lib.hid hte
      have hx2 := HX0.out.below rfl hb2
      have ht2 : Tabs w2 := (HT.out.below HX0.out.bel).below hb2
      have HT2 := Lib.hid ht2
      have HX := Lib.hid hx2
      clear ei ej hte hb2 ht2 HX0
      obtain ⟨a0, a1, b0, b1, _, _⟩ := hx2
      go_wp2_with fail
      refine (HM.out _ HX.out.bel).mono ?_
      intro e w3 hq
      obtain ⟨aq, cq, qs, ar, cr, rs, k, rfl, hoq, hor, htell⟩ := quo_told hq (lim_fl HBX.out H1.out) (lim_fl HBY.out H2.out) HX.out.bel.size
      have hx3 := HX.out.below rfl hq.1
      have HX3 := Lib.hid hx3
      have HOQ := Lib.hid hoq
      have HOR := Lib.hid hor
      have HTL := Lib.hid htell
      have hcell := (HT2.out.below hq.1).prod i j hi hj
      rw [← HTE.out] at hcell
      obtain ⟨a0, a1, b0, b1, _, _⟩ := hx3
      clear hq hoq hor htell
      go_wp2_with fail
      refine (maker_any nb _).mono ?_
      rintro e w4 ⟨rfl, rfl⟩
      have hb4 : Below w3.heap.size w3 (w3.alloc (.cells #[.bool nb] 4)) := (Below.refl _ _).alloc (Nat.le_refl _) _
      have hcl : (w3.alloc (.cells #[.bool nb] 4)).cell? ⟨w3.heap.size, 0, none⟩ = some (.bool nb) := by simp
      have HX4 := Lib.hid (HX3.out.below rfl hb4)
      have HCL := Lib.hid hcl
      have HO4 := Lib.hid (own64.under HOQ.out hb4)
      clear hcl hb4 a0 a1 b0 b1
      go_wp2_with fail
      have hN : qs.length ≤ 1048576 ∧ (k = 0 → Num qs (val xs / val ys)) := by
        rcases HTL.out with ⟨_, rfl, h2, h3⟩ | ⟨_, rfl, h2, h3⟩
        · rw [h2]; exact ⟨by simp, fun h => absurd h (by decide)⟩
        · refine ⟨val_quo_len h2 (Nat.lt_of_le_of_lt ?_ H1.out), fun _ => h2⟩
          exact Nat.div_le_self _ _
      refine (mader_any nb _ (val xs / val ys) aq cq qs k w _ HCL.out HX4.out.bel HO4.out hN.1 hN.2).mono ?_
      rintro e w5 ⟨hb5, hW⟩
      have HX5 := Lib.hid (HX4.out.below rfl hb5)
      have hW : WTold (WQuoTells (val xs < LIM ∧ val ys < LIM) (val ys) (Int.tdiv (wv n xs) (wv m ys))) w e w5 := by
        obtain ⟨g0, n', a', c', k', zs', he, ho', hQ⟩ := hW
        refine ⟨g0, n', a', c', k', zs', he, ho', ?_⟩
        rcases HTL.out with ⟨h1, rfl, _⟩ | ⟨h1, rfl, _⟩
        · rcases hQ with ⟨_, rfl, rfl, rfl⟩ | ⟨h, _⟩ | ⟨h, _⟩
          · exact .inr (.inl ⟨⟨H1.out, H2.out⟩, h1, rfl, rfl, rfl⟩)
          · exact absurd h (by decide)
          · exact absurd h (by decide)
        · rcases hQ with ⟨h, _⟩ | ⟨_, h, _⟩ | ⟨_, _, rfl, rfl, hN2⟩
          · exact absurd rfl h
          · exact absurd (Nat.lt_of_le_of_lt (Nat.div_le_self _ _) H1.out) (Nat.not_lt.2 h)
          · exact .inr (.inr ⟨⟨H1.out, H2.out⟩, h1, rfl, tdiv_neg n m xs ys i j t nb HEI.out HEJ.out HTE.out HNB.out, by rw [tdiv_abs]; exact hN2⟩)
      obtain ⟨n', a', l', c', k', rfl⟩ := hW.told
      have HHE := Lib.hid HX5.out.held
      obtain ⟨_, _, _, _, c0, c1, f0, f1⟩ := HHE.out.cells
      have HW := Lib.hid hW
      clear hW hb5 hN
      go_wp2
      refine bodyPost_ret (results_held rfl rfl rfl HHE.out) rfl ?_
      exact HW.out.seth HHE.out (by omega) _ _
    · have H2 := Lib.hid h2
      rw [decide_eq_false h2]
      clear h1 h2
      go_wp2
      refine bodyPost_ret (results_WO2 rfl rfl rfl (heap_kept (heap_kept (heap_third _ _ _ _) _) _)) rfl ?_
      exact ⟨((((Below.refl _ _).alloc (Nat.le_refl _) _).alloc (by simp) _).alloc (by simp <;> omega) _).alloc (by simp <;> omega) _ |>.alloc (by simp <;> omega) _, false, none, 0, 3, [], rfl, own64_nil _ _, .inl ⟨fun h => H2.out h.2, rfl, rfl, rfl⟩⟩
  · have H1 := Lib.hid h1
    rw [decide_eq_false h1]
    clear h1
    go_wp2
    refine bodyPost_ret (results_WO2 rfl rfl rfl (heap_kept (heap_third _ _ _ _) _)) rfl ?_
    exact ⟨(((Below.refl _ _).alloc (Nat.le_refl _) _).alloc (by simp) _).alloc (by simp <;> omega) _ |>.alloc (by simp <;> omega) _, false, none, 0, 3, [], rfl, own64_nil _ _, .inl ⟨fun h => H1.out h.1, rfl, rfl, rfl⟩⟩

set_option maxHeartbeats 1000000 in
set_option maxRecDepth 100000 in
theorem wrem_of (n m : Bool) (a b : Option Addr) (la ca lb cb : Nat) (xs ys : List Nat) (w : World) (hla : xs.length = la) (hlb : ys.length = lb) (hba : la ≤ 1048576) (hbb : lb ≤ 1048576) (hca : la ≤ ca) (hcb : lb ≤ cb)
    (hra : Rd .u64 w a xs) (hrb : Rd .u64 w b ys) (bx : Bd xs) (bY : Bd ys)
    (hdiv : ∀ W, Below w.heap.size w W → Calls Tryd.prog 55 #[.slice a la ca, .slice b lb cb] W (QuoPost xs ys W)) :
    Calls Tryd.prog 31 #[.agg #[.bool n, .slice a la ca], .agg #[.bool m, .slice b lb cb]] w (WTold (WQuoTells (val xs < LIM ∧ val ys < LIM) (val ys) (Int.tmod (wv n xs) (wv m ys))) w) := by
  have HA := Lib.hid (fun (W : World) (h : Below w.heap.size w W) => hra.below h)
  have HB := Lib.hid (fun (W : World) (h : Below w.heap.size w W) => hrb.below h)
  have HM := Lib.hid hdiv
  have HBX := Lib.hid bx
  have HBY := Lib.hid bY
  clear hra hrb hdiv bx bY
  go_enter Tryd.func31, Tryd.ntmps31
  go_wp2_with fail
  refine (wfits_any n a la ca xs _ hla hba hca (HA.out _ ((((Below.refl _ _).alloc (Nat.le_refl _) _).alloc (by simp) _).alloc (by simp; omega) _)) HBX.out).mono ?_
  rintro e w1 ⟨rfl, rfl⟩
  by_cases h1 : val xs < LIM
  · rw [decide_eq_true h1]
    go_wp2_with fail
    refine (wfits_any m b lb cb ys _ hlb hbb hcb (HB.out _ (((((Below.refl _ _).alloc (Nat.le_refl _) _).alloc (by simp) _).alloc (by simp; omega) _).alloc (by simp; omega) _)) HBY.out).mono ?_
    rintro e w1 ⟨rfl, rfl⟩
    by_cases h2 : val ys < LIM
    · rw [decide_eq_true h2]
      have H1 := Lib.hid h1
      have H2 := Lib.hid h2
      clear h1 h2
      have HX0 := Lib.hid (bx0 n a la ca m b lb cb w)
      have HX := HX0
      clear HX0
      go_wp2_with fail
      refine (HM.out _ HX.out.bel).mono ?_
      intro e w3 hq
      obtain ⟨aq, cq, qs, ar, cr, rs, k, rfl, hoq, hor, htell⟩ := quo_told hq (lim_fl HBX.out H1.out) (lim_fl HBY.out H2.out) HX.out.bel.size
      have hx3 := HX.out.below rfl hq.1
      have HX3 := Lib.hid hx3
      have HOQ := Lib.hid hoq
      have HOR := Lib.hid hor
      have HTL := Lib.hid htell
      obtain ⟨a0, a1, b0, b1, _, _⟩ := hx3
      clear hq hoq hor htell
      go_wp2_with fail
      refine (maker_any n _).mono ?_
      rintro e w4 ⟨rfl, rfl⟩
      have hb4 : Below w3.heap.size w3 (w3.alloc (.cells #[.bool n] 4)) := (Below.refl _ _).alloc (Nat.le_refl _) _
      have hcl : (w3.alloc (.cells #[.bool n] 4)).cell? ⟨w3.heap.size, 0, none⟩ = some (.bool n) := by simp
      have HX4 := Lib.hid (HX3.out.below rfl hb4)
      have HCL := Lib.hid hcl
      have HO4 := Lib.hid (own64.under HOR.out hb4)
      clear hcl hb4 a0 a1 b0 b1
      go_wp2_with fail
      have hN : rs.length ≤ 1048576 ∧ (k = 0 → Num rs (val xs % val ys)) := by
        rcases HTL.out with ⟨_, rfl, h2, h3⟩ | ⟨_, rfl, h2, h3⟩
        · rw [h3]; exact ⟨by simp, fun h => absurd h (by decide)⟩
        · refine ⟨val_quo_len h3 (Nat.lt_of_le_of_lt ?_ H1.out), fun _ => h3⟩
          exact Nat.mod_le _ _
      refine (mader_any n _ (val xs % val ys) ar cr rs k w _ HCL.out HX4.out.bel HO4.out hN.1 hN.2).mono ?_
      rintro e w5 ⟨hb5, hW⟩
      have HX5 := Lib.hid (HX4.out.below rfl hb5)
      have hW : WTold (WQuoTells (val xs < LIM ∧ val ys < LIM) (val ys) (Int.tmod (wv n xs) (wv m ys))) w e w5 := by
        obtain ⟨g0, n', a', c', k', zs', he, ho', hQ⟩ := hW
        refine ⟨g0, n', a', c', k', zs', he, ho', ?_⟩
        rcases HTL.out with ⟨h1, rfl, _⟩ | ⟨h1, rfl, _⟩
        · rcases hQ with ⟨_, rfl, rfl, rfl⟩ | ⟨h, _⟩ | ⟨h, _⟩
          · exact .inr (.inl ⟨⟨H1.out, H2.out⟩, h1, rfl, rfl, rfl⟩)
          · exact absurd h (by decide)
          · exact absurd h (by decide)
        · rcases hQ with ⟨h, _⟩ | ⟨_, h, _⟩ | ⟨_, _, rfl, rfl, hN2⟩
          · exact absurd rfl h
          · exact absurd (Nat.lt_of_le_of_lt (Nat.mod_le _ _) H1.out) (Nat.not_lt.2 h)
          · exact .inr (.inr ⟨⟨H1.out, H2.out⟩, h1, rfl, tmod_neg n m xs ys, by rw [tmod_abs]; exact hN2⟩)
      obtain ⟨n', a', l', c', k', rfl⟩ := hW.told
      have HHE := Lib.hid HX5.out.held
      obtain ⟨_, _, _, _, c0, c1, f0, f1⟩ := HHE.out.cells
      have HW := Lib.hid hW
      clear hW hb5 hN
      go_wp2
      refine bodyPost_ret (results_held rfl rfl rfl HHE.out) rfl ?_
      exact HW.out.seth HHE.out (by omega) _ _
    · have H2 := Lib.hid h2
      rw [decide_eq_false h2]
      clear h1 h2
      go_wp2
      refine bodyPost_ret (results_WO2 rfl rfl rfl (heap_kept (heap_kept (heap_third _ _ _ _) _) _)) rfl ?_
      exact ⟨((((Below.refl _ _).alloc (Nat.le_refl _) _).alloc (by simp) _).alloc (by simp <;> omega) _).alloc (by simp <;> omega) _ |>.alloc (by simp <;> omega) _, false, none, 0, 3, [], rfl, own64_nil _ _, .inl ⟨fun h => H2.out h.2, rfl, rfl, rfl⟩⟩
  · have H1 := Lib.hid h1
    rw [decide_eq_false h1]
    clear h1
    go_wp2
    refine bodyPost_ret (results_WO2 rfl rfl rfl (heap_kept (heap_third _ _ _ _) _)) rfl ?_
    exact ⟨(((Below.refl _ _).alloc (Nat.le_refl _) _).alloc (by simp) _).alloc (by simp <;> omega) _ |>.alloc (by simp <;> omega) _, false, none, 0, 3, [], rfl, own64_nil _ _, .inl ⟨fun h => H1.out h.1, rfl, rfl, rfl⟩⟩
end Go.Proofs.YthccccpcjafdcaaDoor
