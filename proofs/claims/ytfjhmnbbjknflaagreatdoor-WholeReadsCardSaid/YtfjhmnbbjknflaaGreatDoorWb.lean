import Derived.Test.YtfjhmnbbjknflaaGreatDoorWa
namespace Go.Proofs.YtfjhmnbbjknflaaGreatDoor
open Go.RowKit

def WQuoTells (P : Prop) (vy : Nat) (W : Int) (k : Int) (n : Bool) (zs : List Nat) : Prop :=
  (¬ P ∧ k = 3 ∧ n = false ∧ zs = []) ∨ (P ∧ vy = 0 ∧ k = 11 ∧ n = false ∧ zs = []) ∨ (P ∧ 0 < vy ∧ k = 0 ∧ n = decide (W < 0) ∧ Num zs W.natAbs)
theorem quo_told {xs ys : List Nat} {B : Nat} {w w' : World} {e : Ending} (h : QuoPost xs ys w e w') (hx : fl xs ≤ 64) (hy : fl ys ≤ 64) (hB : B ≤ w.heap.size) :
    ∃ (aq : Option Addr) (cq : Nat) (qs : List Nat) (ar : Option Addr) (cr : Nat) (rs : List Nat) (k : Int), e = .returned (.tuple #[.slice aq qs.length cq, .slice ar rs.length cr, .int .i64 k]) ∧ own64 w' B (.slice aq qs.length cq) qs ∧ own64 w' B (.slice ar rs.length cr) rs ∧
      ((val ys = 0 ∧ k = 11 ∧ qs = [] ∧ rs = []) ∨ (0 < val ys ∧ k = 0 ∧ Num qs (val xs / val ys) ∧ Num rs (val xs % val ys))) := by
  rcases h.2 with ⟨h1, _⟩ | ⟨_, _, h1, rfl⟩ | ⟨_, _, h1, q, r, qs, rs, rfl, hq, hr, hnq, hnr, _⟩
  · omega
  · exact ⟨none, 0, [], none, 0, [], 11, rfl, own64_nil _ _, own64_nil _ _, .inl ⟨h1, rfl, rfl, rfl⟩⟩
  · obtain ⟨aq, cq, rfl, _⟩ := own64.form hq
    obtain ⟨ar, cr, rfl, _⟩ := own64.form hr
    exact ⟨aq, cq, qs, ar, cr, rs, 0, rfl, owns_base hq hB, owns_base hr hB, .inr ⟨h1, rfl, hnq, hnr⟩⟩
theorem val_quo_len {zs : List Nat} {n : Nat} (h : Num zs n) (hn : n < LIM) : zs.length ≤ 1048576 := by
  have := (h.len_le (k := 64)).2 hn
  omega
theorem tdiv_abs (n m : Bool) (xs ys : List Nat) : (Int.tdiv (wv n xs) (wv m ys)).natAbs = val xs / val ys := by
  rw [Int.natAbs_tdiv, wv_abs, wv_abs]
  rfl
theorem tmod_abs (n m : Bool) (xs ys : List Nat) : (Int.tmod (wv n xs) (wv m ys)).natAbs = val xs % val ys := by
  rw [Int.natAbs_tmod, wv_abs, wv_abs]
theorem tmod_neg (n m : Bool) (xs ys : List Nat) : (n && decide (0 < val xs % val ys)) = decide (Int.tmod (wv n xs) (wv m ys) < 0) := by
  have h := tmod_abs n m xs ys
  have h2 : 0 ≤ Int.tmod (val xs : Int) (wv m ys) := Int.tmod_nonneg _ (by omega)
  cases n
  · have : wv false xs = (val xs : Int) := by unfold wv; simp
    rw [this] at h ⊢
    rw [decide_eq_false (show ¬ (Int.tmod (val xs : Int) (wv m ys) < 0) by omega)]; rfl
  · have : wv true xs = -(val xs : Int) := by unfold wv; simp
    rw [this] at h ⊢
    rw [Int.neg_tmod] at h ⊢
    rw [Bool.true_and, decide_eq_decide]
    omega
theorem sg_wv (n : Bool) (xs : List Nat) (h : 0 < val xs) : sg (wv n xs) = if n then -1 else 1 := by
  unfold sg wv; cases n <;> simp only [if_true, Bool.false_eq_true, if_false] <;> (repeat' split) <;> omega
theorem tdiv_neg (n m : Bool) (xs ys : List Nat) (i j : Nat) (t : Int) (nb : Bool) (hi : sg (wv n xs) + 1 = (i : Int)) (hj : sg (wv m ys) + 1 = (j : Int)) (ht : t = ((i : Int) - 1) * ((j : Int) - 1)) (hn : decide (t < 0) = nb) :
    (nb && decide (0 < val xs / val ys)) = decide (Int.tdiv (wv n xs) (wv m ys) < 0) := by
  have h := tdiv_abs n m xs ys
  have e1 : ((i : Int) - 1) = sg (wv n xs) := by omega
  have e2 : ((j : Int) - 1) = sg (wv m ys) := by omega
  rw [e1, e2] at ht
  generalize hq : val xs / val ys = q at h ⊢
  rcases Nat.eq_zero_or_pos q with h0 | h0
  · subst h0
    rw [decide_eq_false (by omega), decide_eq_false (by omega), Bool.and_false]
  have hvx : 0 < val xs := Nat.pos_of_ne_zero fun h => by rw [h, Nat.zero_div] at hq; omega
  have hvy : 0 < val ys := Nat.pos_of_ne_zero fun h => by rw [h, Nat.div_zero] at hq; omega
  rw [decide_eq_true h0, Bool.and_true, ← hn, decide_eq_decide, ht]
  have hd : 0 ≤ Int.tdiv (val xs : Int) (val ys : Int) := Int.tdiv_nonneg (by omega) (by omega)
  rw [sg_wv n xs hvx, sg_wv m ys hvy]
  cases n <;> cases m <;> simp only [wv, if_true, Bool.false_eq_true, if_false, Int.neg_tdiv, Int.tdiv_neg] at h ⊢ <;> generalize Int.tdiv (val xs : Int) (val ys : Int) = D at h hd ⊢ <;> omega

/-- The two numbers and the result's block. -/
structure Bx (B : Nat) (n : Bool) (a : Option Addr) (la ca : Nat) (m : Bool) (b : Option Addr) (lb cb : Nat) (w W : World) : Prop where
  a0 : W.cell? ⟨B, 0, none⟩ = some (.bool n)
  a1 : W.cell? ⟨B, 1, none⟩ = some (.slice a la ca)
  b0 : W.cell? ⟨B + 1, 0, none⟩ = some (.bool m)
  b1 : W.cell? ⟨B + 1, 1, none⟩ = some (.slice b lb cb)
  held : Held W (B + 1 + 1)
  bel : Below B w W
theorem Bx.below {B : Nat} {n : Bool} {a : Option Addr} {la ca : Nat} {m : Bool} {b : Option Addr} {lb cb : Nat} {w W W' : World} (h : Bx B n a la ca m b lb cb w W) (hB : w.heap.size = B) (hb : Below W.heap.size W W') : Bx B n a la ca m b lb cb w W' := by
  subst hB
  have c := below_cell hb
  exact ⟨c _ _ h.a0, c _ _ h.a1, c _ _ h.b0, c _ _ h.b1, h.held.below hb, h.bel.trans (hb.mono h.bel.size)⟩
theorem bx0 (n : Bool) (a : Option Addr) (la ca : Nat) (m : Bool) (b : Option Addr) (lb cb : Nat) (w : World) : Bx w.heap.size n a la ca m b lb cb w (((((w.alloc (WO n a la ca)).alloc (WO m b lb cb)).alloc (WO false none 0 0)).alloc (WO n a la ca)).alloc (WO m b lb cb)) := by
  have hx := boxes0 n a la ca m b lb cb w
  have g1 := below_cell (w := (w.alloc (WO n a la ca)).alloc (WO m b lb cb)) (w' := (((((w.alloc (WO n a la ca)).alloc (WO m b lb cb)).alloc (WO false none 0 0)).alloc (WO n a la ca)).alloc (WO m b lb cb))) ((((Below.refl _ _).alloc (Nat.le_refl _) _).alloc (by simp) _).alloc (by simp <;> omega) _)
  exact ⟨g1 _ _ hx.1, g1 _ _ hx.2.1, g1 _ _ hx.2.2.1, g1 _ _ hx.2.2.2.1, ⟨false, none, 0, 0, heap_kept (heap_kept (heap_third _ _ _ _) _) _⟩, (((((Below.refl _ _).alloc (Nat.le_refl _) _).alloc (by simp) _).alloc (by simp <;> omega) _).alloc (by simp <;> omega) _).alloc (by simp <;> omega) _⟩

set_option maxHeartbeats 1000000 in
set_option maxRecDepth 100000 in
theorem wquo_of (n m : Bool) (a b : Option Addr) (la ca lb cb : Nat) (xs ys : List Nat) (w : World) (hla : xs.length = la) (hlb : ys.length = lb) (hba : la ≤ 1048576) (hbb : lb ≤ 1048576) (hca : la ≤ ca) (hcb : lb ≤ cb)
    (hra : Rd .u64 w a xs) (hrb : Rd .u64 w b ys) (bx : Bd xs) (bY : Bd ys) (ht : Tabs w)
    (hdiv : ∀ W, Below w.heap.size w W → Calls Tryz.prog 47 #[.slice a la ca, .slice b lb cb] W (QuoPost xs ys W)) :
    Calls Tryz.prog 18 #[.agg #[.bool n, .slice a la ca], .agg #[.bool m, .slice b lb cb]] w (WTold (WQuoTells (val xs < LIM ∧ val ys < LIM) (val ys) (Int.tdiv (wv n xs) (wv m ys))) w) := by
  have HA := Lib.hid (fun (W : World) (h : Below w.heap.size w W) => hra.below h)
  have HB := Lib.hid (fun (W : World) (h : Below w.heap.size w W) => hrb.below h)
  have HM := Lib.hid hdiv
  have HBX := Lib.hid bx
  have HBY := Lib.hid bY
  have HT := Lib.hid ht
  clear ht
  clear hra hrb hdiv bx bY
  go_enter Tryz.func18, Tryz.ntmps18
  go_wp2_with fail
  refine (wfits_any n a la ca xs _ hla hba hca (HA.out _ ((((Below.refl _ _).alloc (Nat.le_refl _) _).alloc (by simp) _).alloc (by simp; omega) _)) HBX.out).mono ?_
  rintro e w1 ⟨rfl, rfl⟩
  by_cases h1 : val xs < LIM
  · rw [decide_eq_true h1]
    go_wp2_with fail
    refine (wfits_any m b lb cb ys _ hlb hbb hcb (HB.out _ (((((Below.refl _ _).alloc (Nat.le_refl _) _).alloc (by simp) _).alloc (by simp; omega) _).alloc (by simp; omega) _)) HBY.out).mono ?_
    rintro e w1 ⟨rfl, rfl⟩
    by_cases h2 : val ys < LIM
    · rw [decide_eq_true h2]
      have H1 := Lib.hid h1
      have H2 := Lib.hid h2
      clear h1 h2
      have HX0 := Lib.hid (bx0 n a la ca m b lb cb w)
      go_wp2_with fail
      refine (places_any n m a b la ca lb cb xs ys _ hla hlb hba hbb hca hcb (HA.out _ HX0.out.bel) (HB.out _ HX0.out.bel) HBX.out HBY.out).mono ?_
      rintro e w2 ⟨rfl, hb2⟩
      obtain ⟨i, hi, ei⟩ := sg_at (wv n xs)
      obtain ⟨j, hj, ej⟩ := sg_at (wv m ys)
      rw [ei, ej]
      have HEI := Lib.hid ei
      have HEJ := Lib.hid ej
      have hi3 : (i : Int) < 3 := by omega
      have hj3 : (j : Int) < 3 := by omega
      obtain ⟨t, hte⟩ : ∃ t : Int, t = ((i : Int) - 1) * ((j : Int) - 1) := ⟨_, rfl⟩
      obtain ⟨nb, hnb⟩ : ∃ nb, decide (t < 0) = nb := ⟨_, rfl⟩
      have HNB := Lib.hid hnb
      have HTE := Lib.hid hte
      have hx2 := HX0.out.below rfl hb2
      have ht2 : Tabs w2 := (HT.out.below HX0.out.bel).below hb2
      have HT2 := Lib.hid ht2
      have HX := Lib.hid hx2
      clear ei ej hte hb2 ht2 HX0
      obtain ⟨a0, a1, b0, b1, _, _⟩ := hx2
      go_wp2_with fail
      refine (HM.out _ HX.out.bel).mono ?_
      intro e w3 hq
      obtain ⟨aq, cq, qs, ar, cr, rs, k, rfl, hoq, hor, htell⟩ := quo_told hq (lim_fl HBX.out H1.out) (lim_fl HBY.out H2.out) HX.out.bel.size
      have hx3 := HX.out.below rfl hq.1
      have HX3 := Lib.hid hx3
      have HOQ := Lib.hid hoq
      have HOR := Lib.hid hor
      have HTL := Lib.hid htell
      have hcell := (HT2.out.below hq.1).prod i j hi hj
      rw [← HTE.out] at hcell
      obtain ⟨a0, a1, b0, b1, _, _⟩ := hx3
      clear hq hoq hor htell
      go_wp2_with fail
      refine (maker_any nb _).mono ?_
      rintro e w4 ⟨rfl, rfl⟩
      have hb4 : Below w3.heap.size w3 (w3.alloc (.cells #[.bool nb] 4)) := (Below.refl _ _).alloc (Nat.le_refl _) _
      have hcl : (w3.alloc (.cells #[.bool nb] 4)).cell? ⟨w3.heap.size, 0, none⟩ = some (.bool nb) := by simp
      have HX4 := Lib.hid (HX3.out.below rfl hb4)
      have HCL := Lib.hid hcl
      have HO4 := Lib.hid (own64.under HOQ.out hb4)
      clear hcl hb4 a0 a1 b0 b1
      go_wp2_with fail
      have hN : qs.length ≤ 1048576 ∧ (k = 0 → Num qs (val xs / val ys)) := by
        rcases HTL.out with ⟨_, rfl, h2, h3⟩ | ⟨_, rfl, h2, h3⟩
        · rw [h2]; exact ⟨by simp, fun h => absurd h (by decide)⟩
        · refine ⟨val_quo_len h2 (Nat.lt_of_le_of_lt ?_ H1.out), fun _ => h2⟩
          exact Nat.div_le_self _ _
      refine (mader_any nb _ (val xs / val ys) aq cq qs k w _ HCL.out HX4.out.bel HO4.out hN.1 hN.2).mono ?_
      rintro e w5 ⟨hb5, hW⟩
      have HX5 := Lib.hid (HX4.out.below rfl hb5)
      have hW : WTold (WQuoTells (val xs < LIM ∧ val ys < LIM) (val ys) (Int.tdiv (wv n xs) (wv m ys))) w e w5 := by
        obtain ⟨g0, n', a', c', k', zs', he, ho', hQ⟩ := hW
        refine ⟨g0, n', a', c', k', zs', he, ho', ?_⟩
        rcases HTL.out with ⟨h1, rfl, _⟩ | ⟨h1, rfl, _⟩
        · rcases hQ with ⟨_, rfl, rfl, rfl⟩ | ⟨h, _⟩ | ⟨h, _⟩
          · exact .inr (.inl ⟨⟨H1.out, H2.out⟩, h1, rfl, rfl, rfl⟩)
          · exact absurd h (by decide)
          · exact absurd h (by decide)
        · rcases hQ with ⟨h, _⟩ | ⟨_, h, _⟩ | ⟨_, _, rfl, rfl, hN2⟩
          · exact absurd rfl h
          · exact absurd (Nat.lt_of_le_of_lt (Nat.div_le_self _ _) H1.out) (Nat.not_lt.2 h)
          · exact .inr (.inr ⟨⟨H1.out, H2.out⟩, h1, rfl, tdiv_neg n m xs ys i j t nb HEI.out HEJ.out HTE.out HNB.out, by rw [tdiv_abs]; exact hN2⟩)
      obtain ⟨n', a', l', c', k', rfl⟩ := hW.told
      have HHE := Lib.hid HX5.out.held
      obtain ⟨_, _, _, _, c0, c1, f0, f1⟩ := HHE.out.cells
      have HW := Lib.hid hW
      clear hW hb5 hN
      go_wp2
      refine bodyPost_ret (results_held rfl rfl rfl HHE.out) rfl ?_
      exact HW.out.seth HHE.out (by omega) _ _
    · have H2 := Lib.hid h2
      rw [decide_eq_false h2]
      clear h1 h2
      go_wp2
      refine bodyPost_ret (results_WO2 rfl rfl rfl (heap_kept (heap_kept (heap_third _ _ _ _) _) _)) rfl ?_
      exact ⟨((((Below.refl _ _).alloc (Nat.le_refl _) _).alloc (by simp) _).alloc (by simp <;> omega) _).alloc (by simp <;> omega) _ |>.alloc (by simp <;> omega) _, false, none, 0, 3, [], rfl, own64_nil _ _, .inl ⟨fun h => H2.out h.2, rfl, rfl, rfl⟩⟩
  · have H1 := Lib.hid h1
    rw [decide_eq_false h1]
    clear h1
    go_wp2
    refine bodyPost_ret (results_WO2 rfl rfl rfl (heap_kept (heap_third _ _ _ _) _)) rfl ?_
    exact ⟨(((Below.refl _ _).alloc (Nat.le_refl _) _).alloc (by simp) _).alloc (by simp <;> omega) _ |>.alloc (by simp <;> omega) _, false, none, 0, 3, [], rfl, own64_nil _ _, .inl ⟨fun h => H1.out h.1, rfl, rfl, rfl⟩⟩

set_option maxHeartbeats 1000000 in
set_option maxRecDepth 100000 in
theorem wrem_of (n m : Bool) (a b : Option Addr) (la ca lb cb : Nat) (xs ys : List Nat) (w : World) (hla : xs.length = la) (hlb : ys.length = lb) (hba : la ≤ 1048576) (hbb : lb ≤ 1048576) (hca : la ≤ ca) (hcb : lb ≤ cb)
    (hra : Rd .u64 w a xs) (hrb : Rd .u64 w b ys) (bx : Bd xs) (bY : Bd ys)
    (hdiv : ∀ W, Below w.heap.size w W → Calls Tryz.prog 47 #[.slice a la ca, .slice b lb cb] W (QuoPost xs ys W)) :
    Calls Tryz.prog 19 #[.agg #[.bool n, .slice a la ca], .agg #[.bool m, .slice b lb cb]] w (WTold (WQuoTells (val xs < LIM ∧ val ys < LIM) (val ys) (Int.tmod (wv n xs) (wv m ys))) w) := by
  have HA := Lib.hid (fun (W : World) (h : Below w.heap.size w W) => hra.below h)
  have HB := Lib.hid (fun (W : World) (h : Below w.heap.size w W) => hrb.below h)
  have HM := Lib.hid hdiv
  have HBX := Lib.hid bx
  have HBY := Lib.hid bY
  clear hra hrb hdiv bx bY
  go_enter Tryz.func19, Tryz.ntmps19
  go_wp2_with fail
  refine (wfits_any n a la ca xs _ hla hba hca (HA.out _ ((((Below.refl _ _).alloc (Nat.le_refl _) _).alloc (by simp) _).alloc (by simp; omega) _)) HBX.out).mono ?_
  rintro e w1 ⟨rfl, rfl⟩
  by_cases h1 : val xs < LIM
  · rw [decide_eq_true h1]
    go_wp2_with fail
    refine (wfits_any m b lb cb ys _ hlb hbb hcb (HB.out _ (((((Below.refl _ _).alloc (Nat.le_refl _) _).alloc (by simp) _).alloc (by simp; omega) _).alloc (by simp; omega) _)) HBY.out).mono ?_
    rintro e w1 ⟨rfl, rfl⟩
    by_cases h2 : val ys < LIM
    · rw [decide_eq_true h2]
      have H1 := Lib.hid h1
      have H2 := Lib.hid h2
      clear h1 h2
      have HX0 := Lib.hid (bx0 n a la ca m b lb cb w)
      have HX := HX0
      clear HX0
      go_wp2_with fail
      refine (HM.out _ HX.out.bel).mono ?_
      intro e w3 hq
      obtain ⟨aq, cq, qs, ar, cr, rs, k, rfl, hoq, hor, htell⟩ := quo_told hq (lim_fl HBX.out H1.out) (lim_fl HBY.out H2.out) HX.out.bel.size
      have hx3 := HX.out.below rfl hq.1
      have HX3 := Lib.hid hx3
      have HOQ := Lib.hid hoq
      have HOR := Lib.hid hor
      have HTL := Lib.hid htell
      obtain ⟨a0, a1, b0, b1, _, _⟩ := hx3
      clear hq hoq hor htell
      go_wp2_with fail
      refine (maker_any n _).mono ?_
      rintro e w4 ⟨rfl, rfl⟩
      have hb4 : Below w3.heap.size w3 (w3.alloc (.cells #[.bool n] 4)) := (Below.refl _ _).alloc (Nat.le_refl _) _
      have hcl : (w3.alloc (.cells #[.bool n] 4)).cell? ⟨w3.heap.size, 0, none⟩ = some (.bool n) := by simp
      have HX4 := Lib.hid (HX3.out.below rfl hb4)
      have HCL := Lib.hid hcl
      have HO4 := Lib.hid (own64.under HOR.out hb4)
      clear hcl hb4 a0 a1 b0 b1
      go_wp2_with fail
      have hN : rs.length ≤ 1048576 ∧ (k = 0 → Num rs (val xs % val ys)) := by
        rcases HTL.out with ⟨_, rfl, h2, h3⟩ | ⟨_, rfl, h2, h3⟩
        · rw [h3]; exact ⟨by simp, fun h => absurd h (by decide)⟩
        · refine ⟨val_quo_len h3 (Nat.lt_of_le_of_lt ?_ H1.out), fun _ => h3⟩
          exact Nat.mod_le _ _
      refine (mader_any n _ (val xs % val ys) ar cr rs k w _ HCL.out HX4.out.bel HO4.out hN.1 hN.2).mono ?_
      rintro e w5 ⟨hb5, hW⟩
      have HX5 := Lib.hid (HX4.out.below rfl hb5)
      have hW : WTold (WQuoTells (val xs < LIM ∧ val ys < LIM) (val ys) (Int.tmod (wv n xs) (wv m ys))) w e w5 := by
        obtain ⟨g0, n', a', c', k', zs', he, ho', hQ⟩ := hW
        refine ⟨g0, n', a', c', k', zs', he, ho', ?_⟩
        rcases HTL.out with ⟨h1, rfl, _⟩ | ⟨h1, rfl, _⟩
        · rcases hQ with ⟨_, rfl, rfl, rfl⟩ | ⟨h, _⟩ | ⟨h, _⟩
          · exact .inr (.inl ⟨⟨H1.out, H2.out⟩, h1, rfl, rfl, rfl⟩)
          · exact absurd h (by decide)
          · exact absurd h (by decide)
        · rcases hQ with ⟨h, _⟩ | ⟨_, h, _⟩ | ⟨_, _, rfl, rfl, hN2⟩
          · exact absurd rfl h
          · exact absurd (Nat.lt_of_le_of_lt (Nat.mod_le _ _) H1.out) (Nat.not_lt.2 h)
          · exact .inr (.inr ⟨⟨H1.out, H2.out⟩, h1, rfl, tmod_neg n m xs ys, by rw [tmod_abs]; exact hN2⟩)
      obtain ⟨n', a', l', c', k', rfl⟩ := hW.told
      have HHE := Lib.hid HX5.out.held
      obtain ⟨_, _, _, _, c0, c1, f0, f1⟩ := HHE.out.cells
      have HW := Lib.hid hW
      clear hW hb5 hN
      go_wp2
      refine bodyPost_ret (results_held rfl rfl rfl HHE.out) rfl ?_
      exact HW.out.seth HHE.out (by omega) _ _
    · have H2 := Lib.hid h2
      rw [decide_eq_false h2]
      clear h1 h2
      go_wp2
      refine bodyPost_ret (results_WO2 rfl rfl rfl (heap_kept (heap_kept (heap_third _ _ _ _) _) _)) rfl ?_
      exact ⟨((((Below.refl _ _).alloc (Nat.le_refl _) _).alloc (by simp) _).alloc (by simp <;> omega) _).alloc (by simp <;> omega) _ |>.alloc (by simp <;> omega) _, false, none, 0, 3, [], rfl, own64_nil _ _, .inl ⟨fun h => H2.out h.2, rfl, rfl, rfl⟩⟩
  · have H1 := Lib.hid h1
    rw [decide_eq_false h1]
    clear h1
    go_wp2
    refine bodyPost_ret (results_WO2 rfl rfl rfl (heap_kept (heap_third _ _ _ _) _)) rfl ?_
    exact ⟨(((Below.refl _ _).alloc (Nat.le_refl _) _).alloc (by simp) _).alloc (by simp <;> omega) _ |>.alloc (by simp <;> omega) _, false, none, 0, 3, [], rfl, own64_nil _ _, .inl ⟨fun h => H1.out h.1, rfl, rfl, rfl⟩⟩

set_option maxHeartbeats 1000000 in
theorem bit_three (a : Option Addr) (c : Nat) (i : Int) (w : World) (hr : Rd .u64 w a [3]) (hi : i = 0 ∨ i = 1) :
    Calls Tryz.prog 65 #[.slice a 1 c, .int .i64 i] w fun e w' => e = .returned (.bool true) ∧ w' = w := by
  obtain ⟨b, off, rfl⟩ := hr.isAt (by decide)
  have hc := hr.cell (i := 0) (by decide)
  rw [Nat.add_zero, show at0 [3] 0 = 3 from rfl] at hc
  clear hr
  rcases hi with rfl | rfl
  all_goals
    go_enter Tryz.func65, Tryz.ntmps65
    go_wp2
    go_ret
    exact ⟨rfl, rfl⟩
theorem bits_two {n k : Nat} (h : BitsIs n k) (hn : n = 2 ∨ n = 3) : k = 2 := by
  rcases h with ⟨h, _⟩ | ⟨h0, h1, h2⟩
  · omega
  · have : k < 3 := Nat.lt_of_not_le fun h => by
      have : 2 ^ 2 ≤ 2 ^ (k - 1) := Nat.pow_le_pow_right (by decide) (by omega)
      omega
    have : k ≠ 1 := fun h => by rw [h] at h2; omega
    omega
theorem lim_one {x : Nat} (h : x < 18446744073709551616) : x < LIM := Nat.lt_of_lt_of_le h (by unfold LIM; exact Nat.pow_le_pow_right (n := 18446744073709551616) (i := 1) (by decide) (by decide))
theorem fl_one (x : Nat) : fl [x] ≤ 1 := (fl_spec [x]).1
theorem num_one {x : Nat} (h : x < 18446744073709551616) (h0 : 0 < x) : Num [x] x := ⟨Bd.nil.cons h, fun _ => by show x ≠ 0; omega, val_one x⟩
set_option maxRecDepth 100000 in
theorem wmul_one (n m s : Bool) (a b : Option Addr) (ca cb x y r : Nat) (w : World) (hca : 1 ≤ ca) (hcb : 1 ≤ cb) (hra : Rd .u64 w a [x]) (hrb : Rd .u64 w b [y]) (ht : Tabs w) (hx : x < 18446744073709551616) (hy : y < 18446744073709551616) (hr : x * y = r) (h0 : 0 < r) (hr2 : r < 18446744073709551616) (hs : decide (wv n [x] * wv m [y] < 0) = s) :
    Calls Tryz.prog 17 #[.agg #[.bool n, .slice a 1 ca], .agg #[.bool m, .slice b 1 cb]] w (WTold (fun k p zs => k = 0 ∧ p = s ∧ zs = [r]) w) := by
  have bx : Bd [x] := Bd.nil.cons hx
  have bY : Bd [y] := Bd.nil.cons hy
  refine (wmul_of n m a b 1 ca 1 cb [x] [y] w rfl rfl (by decide) (by decide) hca hcb hra hrb bx bY ht (fun W hb => mul_small a b 1 1 ca cb [x] [y] W rfl rfl (by decide) (by decide) hca hcb (hra.below hb) (hrb.below hb) bx bY (.inl (Nat.lt_of_le_of_lt (fl_one x) (by decide))))).mono ?_
  rintro e w' ⟨hb, p, a', c', k, zs, rfl, ho, hQ⟩
  have hab : (wv n [x] * wv m [y]).natAbs = r := by rw [Int.natAbs_mul, wv_abs, wv_abs, val_one, val_one]; exact hr
  refine ⟨hb, p, a', c', k, zs, rfl, ho, ?_⟩
  rcases hQ with ⟨h, _⟩ | ⟨_, _, rfl, rfl, hN⟩
  · exact absurd ⟨⟨by rw [val_one]; exact lim_one hx, by rw [val_one]; exact lim_one hy⟩, by rw [hab]; exact lim_one hr2⟩ h
  · rw [hab] at hN
    exact ⟨rfl, hs, hN.unique (num_one hr2 h0)⟩
/-- What Pow's loop holds: the two numbers, the result's block, the power and its block. -/
structure PW (n : Bool) (a : Option Addr) (la ca : Nat) (m : Bool) (b : Option Addr) (lb cb g : Nat) (w : World) (p : Bool) (pa : Option Addr) (zs : List Nat) (pc : Nat) (W : World) : Prop where
  bx : Bx w.heap.size n a la ca m b lb cb w W
  blk : W.heap[g]? = some (WO p pa zs.length pc)
  own : own64 W w.heap.size (.slice pa zs.length pc) zs
  gt : w.heap.size + 1 + 1 < g
theorem PW.below {n : Bool} {a : Option Addr} {la ca : Nat} {m : Bool} {b : Option Addr} {lb cb g : Nat} {w : World} {p : Bool} {pa : Option Addr} {zs : List Nat} {pc : Nat} {W W' : World}
    (h : PW n a la ca m b lb cb g w p pa zs pc W) (hb : Below W.heap.size W W') : PW n a la ca m b lb cb g w p pa zs pc W' :=
  ⟨h.bx.below rfl hb, by rw [hb.block g (lt_of_block h.blk)]; exact h.blk, own64.under h.own hb, h.gt⟩
theorem PW.cells {n : Bool} {a : Option Addr} {la ca : Nat} {m : Bool} {b : Option Addr} {lb cb g : Nat} {w : World} {p : Bool} {pa : Option Addr} {zs : List Nat} {pc : Nat} {W : World}
    (h : PW n a la ca m b lb cb g w p pa zs pc W) : W.cell? ⟨g, 0, none⟩ = some (.bool p) ∧ W.cell? ⟨g, 1, none⟩ = some (.slice pa zs.length pc) ∧ W.frozen? ⟨g, 0, none⟩ = false ∧ W.frozen? ⟨g, 1, none⟩ = false := by
  have h2 := h.blk
  unfold WO at h2
  refine ⟨?_, ?_, ?_, ?_⟩ <;> simp [World.cell?, World.frozen?, h2]
theorem Bx.aside {B : Nat} {n : Bool} {a : Option Addr} {la ca : Nat} {m : Bool} {b : Option Addr} {lb cb g : Nat} {w W : World} (h : Bx B n a la ca m b lb cb w W) (hg : B + 1 + 1 < g) (u0 u1 : Value) :
    Bx B n a la ca m b lb cb w ((W.setCell ⟨g, 0, none⟩ u0).setCell ⟨g, 1, none⟩ u1) := by
  have hb : Below g W ((W.setCell ⟨g, 0, none⟩ u0).setCell ⟨g, 1, none⟩ u1) := ((Below.refl _ _).setCell (p := ⟨g, 0, none⟩) (Nat.le_refl g) u0).setCell (p := ⟨g, 1, none⟩) (Nat.le_refl g) u1
  obtain ⟨n', a', l', c', h5⟩ := h.held
  exact ⟨by rw [bcell2 hb _ _ (by omega)]; exact h.a0, by rw [bcell2 hb _ _ (by omega)]; exact h.a1, by rw [bcell2 hb _ _ (by omega)]; exact h.b0, by rw [bcell2 hb _ _ (by omega)]; exact h.b1, ⟨n', a', l', c', by rw [hb.block _ hg]; exact h5⟩, h.bel.trans (hb.mono (by omega))⟩
/-- The power is written anew. -/
theorem PW.step {n : Bool} {a : Option Addr} {la ca : Nat} {m : Bool} {b : Option Addr} {lb cb g : Nat} {w : World} {p : Bool} {pa : Option Addr} {zs : List Nat} {pc : Nat} {W W' : World}
    (h : PW n a la ca m b lb cb g w p pa zs pc W) {Q : Int → Bool → List Nat → Prop} {e : Ending} (hW : WTold Q W e W') :
    ∃ p' pa' zs' pc' k, e = .returned (.tuple #[.agg #[.bool p', .slice pa' zs'.length pc'], .int .i64 k]) ∧ Q k p' zs' ∧ PW n a la ca m b lb cb g w p' pa' zs' pc' ((W'.setCell ⟨g, 0, none⟩ (.bool p')).setCell ⟨g, 1, none⟩ (.slice pa' zs'.length pc')) := by
  obtain ⟨h0, p', pa', pc', k, zs', he, ho, hQ⟩ := hW
  have h1 := h.below h0
  refine ⟨p', pa', zs', pc', k, he, hQ, h1.bx.aside h.gt _ _, ?_, ?_, h.gt⟩
  · have g1 := heap_setCell_same W' g 0 _ _ (.bool p') h1.blk
    exact heap_setCell_same _ g 1 _ _ (.slice pa' zs'.length pc') g1
  · refine (((Chg.refl (fun k => k = g) _).setCell (p := ⟨g, 0, none⟩) rfl _).setCell (p := ⟨g, 1, none⟩) rfl _).owns (owns_base ho h.bx.bel.size) fun k hk he => own64.not_held ho ⟨_, _, _, _, h1.blk⟩ hk he

set_option maxHeartbeats 1000000 in
set_option maxRecDepth 100000 in
theorem pow_works (a b : Option Addr) (ca cb : Nat) (w : World) (hca : 1 ≤ ca) (hcb : 1 ≤ cb) (hra : Rd .u64 w a [2]) (hrb : Rd .u64 w b [3]) (ht : Tabs w) :
    Calls Tryz.prog 8 #[.agg #[.bool true, .slice a 1 ca], .agg #[.bool false, .slice b 1 cb]] w (WTold (fun k m zs => k = 0 ∧ m = true ∧ zs = [8]) w) := by
  have HA := Lib.hid (fun (W : World) (h : Below w.heap.size w W) => hra.below h)
  have HB := Lib.hid (fun (W : World) (h : Below w.heap.size w W) => hrb.below h)
  have HT := Lib.hid (fun (W : World) (h : Below w.heap.size w W) => ht.below h)
  have HBX := Lib.hid (bd_of (xs := [2]) (by decide))
  have HBY := Lib.hid (bd_of (xs := [3]) (by decide))
  have d2 : decide (val [2] < LIM) = true := decide_eq_true (Nat.lt_of_lt_of_le (by decide : val [2] < 18446744073709551616 ^ 1) (by unfold LIM; exact Nat.pow_le_pow_right (by decide) (by decide)))
  have d3 : decide (val [3] < LIM) = true := decide_eq_true (Nat.lt_of_lt_of_le (by decide : val [3] < 18446744073709551616 ^ 1) (by unfold LIM; exact Nat.pow_le_pow_right (by decide) (by decide)))
  have D2 := Lib.hid d2
  have D3 := Lib.hid d3
  clear hra hrb ht d2 d3
  go_enter Tryz.func8, Tryz.ntmps8
  go_wp2_with fail
  refine (wfits_any true a 1 ca [2] _ rfl (by decide) hca (HA.out _ ((((Below.refl _ _).alloc (Nat.le_refl _) _).alloc (by simp) _).alloc (by simp; omega) _)) HBX.out).mono ?_
  rintro e w1 ⟨rfl, rfl⟩
  rw [D2.out]
  go_wp2_with fail
  refine (wfits_any false b 1 cb [3] _ rfl (by decide) hcb (HB.out _ (((((Below.refl _ _).alloc (Nat.le_refl _) _).alloc (by simp) _).alloc (by simp; omega) _).alloc (by simp; omega) _)) HBY.out).mono ?_
  rintro e w1 ⟨rfl, rfl⟩
  rw [D3.out]
  have HX0 := Lib.hid (bx0 true a 1 ca false b 1 cb w)
  go_wp2_with fail
  refine (wsign_any false b 1 cb [3] _ rfl (by decide) hcb (HB.out _ HX0.out.bel) HBY.out).mono ?_
  rintro e w1 ⟨rfl, rfl⟩
  rw [show sg (wv false [3]) = 1 from rfl]
  have HX1 := Lib.hid (HX0.out.below rfl ((Below.refl _ _).alloc (Nat.le_refl _) (WO false b 1 cb)))
  obtain ⟨a0, a1, b0, b1, _, _⟩ := HX1.out
  go_wp2_with fail
  refine (bits_any a 1 ca [2] _ rfl (by decide) hca (HA.out _ HX1.out.bel) HBX.out).mono ?_
  rintro e w1 ⟨⟨k, rfl, hk, _⟩, rfl⟩
  obtain rfl := bits_two hk (.inl rfl)
  clear a0 a1 b0 b1
  go_wp2_with fail
  refine (int_any 1 _ (by decide) (by decide)).mono ?_
  rintro e w2 ⟨hb2, pa, pc, zs, rfl, ho, hN⟩
  obtain rfl : zs = [1] := Num.unique hN (num_of (by decide) (by decide) (by decide))
  rw [show decide ((1 : Int) < 0) = false from rfl]
  have hx2 := HX1.out.below rfl hb2
  have hP : PW true a 1 ca false b 1 cb w2.heap.size w false pa [1] pc (w2.alloc (.cells #[.bool false, .slice pa 1 pc] 24)) :=
    ⟨hx2.below rfl ((Below.refl _ _).alloc (Nat.le_refl _) _), heap_new _ _, own64.under (owns_base ho HX1.out.bel.size) ((Below.refl _ _).alloc (Nat.le_refl _) _), by have h1 := hb2.size; have h2 := HX1.out.bel.size; simp at h1; omega⟩
  have HP := Lib.hid hP
  clear hP hx2 ho hN hb2 hk HX0 HX1
  obtain ⟨_, _, b0, b1, _, _⟩ := HP.out.bx
  go_wp2_with fail
  refine (bits_any b 1 cb [3] _ rfl (by decide) hcb (HB.out _ HP.out.bx.bel) HBY.out).mono ?_
  rintro e w1 ⟨⟨k, rfl, hk, _⟩, rfl⟩
  obtain rfl := bits_two hk (.inr rfl)
  clear hk b0 b1
  go_wp2_with fail
  refine wp_loop_rounds 3 ?_
  rw [rounds_succ]
  generalize w2.alloc (.cells #[.bool false, .slice pa 1 pc] 24) = W0 at *
  generalize w2.heap.size = g at *
-- LOOP
  have HPC := Lib.hid (show 1 ≤ pc from (own64.room HP.out.own).1)
  have HRP := Lib.hid (own64.rd HP.out.own).2
  obtain ⟨c0, c1, f0, f1⟩ := HP.out.cells
  obtain ⟨a0, a1, b0, b1, h5, h6⟩ := HP.out.bx
  clear h5 h6
  go_wp2_with fail
  refine (wmul_one false false false pa pa pc pc 1 1 1 _ HPC.out HPC.out HRP.out HRP.out (HT.out _ HP.out.bx.bel) (by decide) (by decide) rfl (by decide) (by decide) (by decide)).mono ?_
  intro e w3 hW
  have HP3 := Lib.hid (HP.out.below hW.1)
  obtain ⟨p', pa', zs', pc', k', rfl, ⟨rfl, rfl, rfl⟩, hP'⟩ := HP.out.step hW
  have hP' : PW true a 1 ca false b 1 cb g w false pa' [1] pc' ((w3.setCell ⟨g, 0, none⟩ (.bool false)).setCell ⟨g, 1, none⟩ (.slice pa' 1 pc')) := hP'
  have HP' := Lib.hid hP'
  clear hW hP' HP HPC HRP c0 c1 f0 f1 a0 a1 b0 b1
  obtain ⟨c0, c1, f0, f1⟩ := HP3.out.cells
  obtain ⟨a0, a1, b0, b1, h5, h6⟩ := HP'.out.bx
  clear h5 h6
  go_wp2_with fail
  refine (bit_three b cb 1 _ (HB.out _ HP'.out.bx.bel) (.inr rfl)).mono ?_
  rintro e w1 ⟨rfl, rfl⟩
  clear c0 c1 f0 f1 a0 a1 b0 b1 HP3
  generalize (w3.setCell ⟨g, 0, none⟩ (.bool false)).setCell ⟨g, 1, none⟩ (.slice pa' 1 pc') = W at *
  have HP : Hid (PW true a 1 ca false b 1 cb g w false pa' [1] pc' W) := HP'
  clear HP'
  generalize pa' = pa at *
  generalize pc' = pc at *
  have HPC := Lib.hid (show 1 ≤ pc from (own64.room HP.out.own).1)
  have HRP := Lib.hid (own64.rd HP.out.own).2
  obtain ⟨c0, c1, f0, f1⟩ := HP.out.cells
  obtain ⟨a0, a1, b0, b1, h5, h6⟩ := HP.out.bx
  clear h5 h6
  go_wp2_with fail
  refine (wmul_one false true true pa a pc ca 1 2 2 _ HPC.out hca HRP.out (HA.out _ HP.out.bx.bel) (HT.out _ HP.out.bx.bel) (by decide) (by decide) rfl (by decide) (by decide) (by decide)).mono ?_
  intro e w3 hW
  have HP3 := Lib.hid (HP.out.below hW.1)
  obtain ⟨p', pa', zs', pc', k', rfl, ⟨rfl, rfl, rfl⟩, hP'⟩ := HP.out.step hW
  have hP' : PW true a 1 ca false b 1 cb g w true pa' [2] pc' ((w3.setCell ⟨g, 0, none⟩ (.bool true)).setCell ⟨g, 1, none⟩ (.slice pa' 1 pc')) := hP'
  have HP' := Lib.hid hP'
  clear hW hP' HP HPC HRP c0 c1 f0 f1 a0 a1 b0 b1
  obtain ⟨c0, c1, f0, f1⟩ := HP3.out.cells
  obtain ⟨a0, a1, b0, b1, h5, h6⟩ := HP'.out.bx
  clear h5 h6
  go_wp2_with fail
  rw [rounds_succ]
  clear c0 c1 f0 f1 a0 a1 b0 b1 HP3
  generalize (w3.setCell ⟨g, 0, none⟩ (.bool true)).setCell ⟨g, 1, none⟩ (.slice pa' 1 pc') = W at *
  have HP : Hid (PW true a 1 ca false b 1 cb g w true pa' [2] pc' W) := HP'
  clear HP'
  generalize pa' = pa at *
  generalize pc' = pc at *
  have HPC := Lib.hid (show 1 ≤ pc from (own64.room HP.out.own).1)
  have HRP := Lib.hid (own64.rd HP.out.own).2
  obtain ⟨c0, c1, f0, f1⟩ := HP.out.cells
  obtain ⟨a0, a1, b0, b1, h5, h6⟩ := HP.out.bx
  clear h5 h6
  go_wp2_with fail
  refine (wmul_one true true false pa pa pc pc 2 2 4 _ HPC.out HPC.out HRP.out HRP.out (HT.out _ HP.out.bx.bel) (by decide) (by decide) rfl (by decide) (by decide) (by decide)).mono ?_
  intro e w3 hW
  have HP3 := Lib.hid (HP.out.below hW.1)
  obtain ⟨p', pa', zs', pc', k', rfl, ⟨rfl, rfl, rfl⟩, hP'⟩ := HP.out.step hW
  have hP' : PW true a 1 ca false b 1 cb g w false pa' [4] pc' ((w3.setCell ⟨g, 0, none⟩ (.bool false)).setCell ⟨g, 1, none⟩ (.slice pa' 1 pc')) := hP'
  have HP' := Lib.hid hP'
  clear hW hP' HP HPC HRP c0 c1 f0 f1 a0 a1 b0 b1
  obtain ⟨c0, c1, f0, f1⟩ := HP3.out.cells
  obtain ⟨a0, a1, b0, b1, h5, h6⟩ := HP'.out.bx
  clear h5 h6
  go_wp2_with fail
  refine (bit_three b cb 0 _ (HB.out _ HP'.out.bx.bel) (.inl rfl)).mono ?_
  rintro e w1 ⟨rfl, rfl⟩
  clear c0 c1 f0 f1 a0 a1 b0 b1 HP3
  generalize (w3.setCell ⟨g, 0, none⟩ (.bool false)).setCell ⟨g, 1, none⟩ (.slice pa' 1 pc') = W at *
  have HP : Hid (PW true a 1 ca false b 1 cb g w false pa' [4] pc' W) := HP'
  clear HP'
  generalize pa' = pa at *
  generalize pc' = pc at *
  have HPC := Lib.hid (show 1 ≤ pc from (own64.room HP.out.own).1)
  have HRP := Lib.hid (own64.rd HP.out.own).2
  obtain ⟨c0, c1, f0, f1⟩ := HP.out.cells
  obtain ⟨a0, a1, b0, b1, h5, h6⟩ := HP.out.bx
  clear h5 h6
  go_wp2_with fail
  refine (wmul_one false true true pa a pc ca 4 2 8 _ HPC.out hca HRP.out (HA.out _ HP.out.bx.bel) (HT.out _ HP.out.bx.bel) (by decide) (by decide) rfl (by decide) (by decide) (by decide)).mono ?_
  intro e w3 hW
  have HP3 := Lib.hid (HP.out.below hW.1)
  obtain ⟨p', pa', zs', pc', k', rfl, ⟨rfl, rfl, rfl⟩, hP'⟩ := HP.out.step hW
  have hP' : PW true a 1 ca false b 1 cb g w true pa' [8] pc' ((w3.setCell ⟨g, 0, none⟩ (.bool true)).setCell ⟨g, 1, none⟩ (.slice pa' 1 pc')) := hP'
  have HP' := Lib.hid hP'
  clear hW hP' HP HPC HRP c0 c1 f0 f1 a0 a1 b0 b1
  obtain ⟨c0, c1, f0, f1⟩ := HP3.out.cells
  obtain ⟨a0, a1, b0, b1, h5, h6⟩ := HP'.out.bx
  clear h5 h6
  go_wp2_with fail
  rw [rounds_succ]
  clear c0 c1 f0 f1 a0 a1 b0 b1 HP3
  generalize (w3.setCell ⟨g, 0, none⟩ (.bool true)).setCell ⟨g, 1, none⟩ (.slice pa' 1 pc') = W at *
  have HP : Hid (PW true a 1 ca false b 1 cb g w true pa' [8] pc' W) := HP'
  clear HP'
  generalize pa' = pa at *
  generalize pc' = pc at *
  obtain ⟨c0, c1, f0, f1⟩ := HP.out.cells
  have HHE := Lib.hid HP.out.bx.held
  obtain ⟨_, _, _, _, d0, d1, e0, e1⟩ := HHE.out.cells
  have HO := Lib.hid HP.out.own
  have HBEL := Lib.hid HP.out.bx.bel
  clear HP
  go_wp2
  refine bodyPost_ret (results_held rfl rfl rfl HHE.out) rfl ?_
  exact WTold.seth (Q := fun k m zs => k = 0 ∧ m = true ∧ zs = [8]) ⟨HBEL.out, true, pa, pc, 0, [8], rfl, HO.out, rfl, rfl, rfl⟩ HHE.out (by omega) _ _

theorem sg_diff (z1 z2 : Int) (i j : Nat) (hi : sg z1 + 1 = (i : Int)) (hj : sg z2 + 1 = (j : Int)) (hne : i ≠ j) : sg ((i : Int) - (j : Int)) = sg (z1 - z2) := by
  have e : (i : Int) - (j : Int) = sg z1 - sg z2 := by omega
  rw [e]
  unfold sg at *
  repeat' split
  all_goals (try split at hi) <;> (try split at hj) <;> omega
theorem sg_cmp (n m : Bool) (xs ys : List Nat) (h : sg (wv n xs) = sg (wv m ys)) : sg (wv n xs) * cmpI (val xs) (val ys) = sg (wv n xs - wv m ys) := by
  have hx : val xs = (wv n xs).natAbs := (wv_abs n xs).symm
  have hy : val ys = (wv m ys).natAbs := (wv_abs m ys).symm
  generalize wv n xs = z1 at *
  generalize wv m ys = z2 at *
  rw [hx, hy]
  have h3 : sg z1 = -1 ∨ sg z1 = 0 ∨ sg z1 = 1 := by have := sg_le z1; omega
  rcases h3 with h3 | h3 | h3
  · rw [h3] at h ⊢
    have a1 : z1 < 0 := by unfold sg at h3; (repeat' split at h3) <;> omega
    have a2 : z2 < 0 := by unfold sg at h; (repeat' split at h) <;> omega
    unfold cmpI sg; (repeat' split) <;> omega
  · rw [h3] at h ⊢
    have a1 : z1 = 0 := by unfold sg at h3; (repeat' split at h3) <;> omega
    have a2 : z2 = 0 := by unfold sg at h; (repeat' split at h) <;> omega
    subst a1 a2; rfl
  · rw [h3] at h ⊢
    have a1 : 0 < z1 := by unfold sg at h3; (repeat' split at h3) <;> omega
    have a2 : 0 < z2 := by unfold sg at h; (repeat' split at h) <;> omega
    unfold cmpI sg; (repeat' split) <;> omega

set_option maxHeartbeats 1000000 in
set_option maxRecDepth 100000 in
theorem wcmp_any (n m : Bool) (a b : Option Addr) (la ca lb cb : Nat) (xs ys : List Nat) (w : World) (hla : xs.length = la) (hlb : ys.length = lb) (hba : la ≤ 1048576) (hbb : lb ≤ 1048576) (hca : la ≤ ca) (hcb : lb ≤ cb)
    (hra : Rd .u64 w a xs) (hrb : Rd .u64 w b ys) (bx : Bd xs) (bY : Bd ys) (ht : Tabs w) :
    Calls Tryz.prog 31 #[.agg #[.bool n, .slice a la ca], .agg #[.bool m, .slice b lb cb]] w fun e w' => e = .returned (.int .i64 (sg (wv n xs - wv m ys))) ∧ Below w.heap.size w w' := by
  have HA := Lib.hid (fun (W : World) (h : Below w.heap.size w W) => hra.below h)
  have HB := Lib.hid (fun (W : World) (h : Below w.heap.size w W) => hrb.below h)
  have HT := Lib.hid (fun (W : World) (h : Below w.heap.size w W) => ht.below h)
  have HBX := Lib.hid bx
  have HBY := Lib.hid bY
  have HS0 := Lib.hid (boxes0 n a la ca m b lb cb w)
  clear hra hrb bx bY ht
  go_enter Tryz.func31, Tryz.ntmps31
  go_wp2_with fail
  refine (places_any n m a b la ca lb cb xs ys _ hla hlb hba hbb hca hcb (HA.out _ (((Below.refl _ _).alloc (Nat.le_refl _) _).alloc (by simp) _)) (HB.out _ (((Below.refl _ _).alloc (Nat.le_refl _) _).alloc (by simp) _)) HBX.out HBY.out).mono ?_
  rintro e w2 ⟨rfl, hb2⟩
  obtain ⟨i, hi, ei⟩ := sg_at (wv n xs)
  obtain ⟨j, hj, ej⟩ := sg_at (wv m ys)
  rw [ei, ej]
  have HEI := Lib.hid ei
  have HEJ := Lib.hid ej
  have hi3 : (i : Int) < 3 := by omega
  have hj3 : (j : Int) < 3 := by omega
  have hbx : Boxes w.heap.size n a la ca m b lb cb w w2 := by
    have h0 := HS0.out
    have c := below_cell (w := (w.alloc (WO n a la ca)).alloc (WO m b lb cb)) hb2
    exact ⟨c _ _ h0.1, c _ _ h0.2.1, c _ _ h0.2.2.1, c _ _ h0.2.2.2.1, (((Below.refl _ _).alloc (Nat.le_refl _) _).alloc (by simp) _).trans (hb2.mono (by simp <;> omega))⟩
  have htab := (HT.out _ hbx.2.2.2.2).ords i j hi hj
  have HX := Lib.hid hbx
  clear ei ej hb2 hbx
  by_cases hij : i = j
  · subst hij
    rw [show sg ((i : Int) - (i : Int)) = 0 by rw [Int.sub_self]; rfl] at htab
    have hse : sg (wv n xs) = sg (wv m ys) := by have h1 := HEI.out; have h2 := HEJ.out; omega
    have HC := Lib.hid (sg_cmp n m xs ys hse)
    have hS0 : Hid (Boxes w.heap.size n a la ca m b lb cb w w2.drew) := by
      have h0 := HX.out
      exact ⟨h0.1, h0.2.1, h0.2.2.1, h0.2.2.2.1, h0.2.2.2.2.drew⟩
    have hBl : Hid (∀ W, Boxes w.heap.size n a la ca m b lb cb w W → Below w.heap.size w W) := fun W h => h.2.2.2.2
    have hKp : Hid (∀ W o, Boxes w.heap.size n a la ca m b lb cb w W → Boxes w.heap.size n a la ca m b lb cb w (W.alloc o)) := fun W o h => boxes_alloc h rfl o
    have hKd : Hid (∀ W k, Boxes w.heap.size n a la ca m b lb cb w (World.drew W) → Boxes w.heap.size n a la ca m b lb cb w (W.drewN k)) := fun W k h => ⟨h.1, h.2.1, h.2.2.1, h.2.2.2.1, ⟨h.2.2.2.2.os, h.2.2.2.2.tape, h.2.2.2.2.output, h.2.2.2.2.size, h.2.2.2.2.block⟩⟩
    obtain ⟨cv, hcv⟩ : ∃ cv, cv = cmpI (val xs) (val ys) := ⟨_, rfl⟩
    have hwr : IntKind.i64.wrap (sg (wv n xs) * cv) = sg (wv n xs - wv m ys) := by
      rw [hcv, HC.out]
      have := sg_le (wv n xs - wv m ys)
      have h : sg (wv n xs - wv m ys) = -1 ∨ sg (wv n xs - wv m ys) = 0 ∨ sg (wv n xs - wv m ys) = 1 := by omega
      rcases h with h | h | h <;> rw [h] <;> decide
    have HCV := Lib.hid hcv
    clear hse hcv
    go_wp2_with fail
    go_region_held3 (fun W => W.cell? ⟨w.heap.size, 0, none⟩ = some (.bool n) ∧ W.cell? ⟨w.heap.size, 1, none⟩ = some (.slice a la ca) ∧ W.cell? ⟨w.heap.size + 1, 0, none⟩ = some (.bool m) ∧ W.cell? ⟨w.heap.size + 1, 1, none⟩ = some (.slice b lb cb) ∧ Below w.heap.size w W)
      (first | exact hS0.out | exact hKp.out _ _ (by assumption) | exact hKd.out _ _ (by assumption))
      (first
      | (go_at_call 33; (with_reducible refine (wsign_any n a la ca xs _ hla hba hca ?ha HBX.out).mono ?_); (case ha => exact HA.out _ (hBl.out _ (by assumption))); rintro e w3 ⟨rfl, rfl⟩)
      | (go_at_call 58; (refine (cmp_any a b la lb ca cb xs ys _ hla hlb (by omega) (by omega) hca hcb (HA.out _ (hBl.out _ (by assumption))) (HB.out _ (hBl.out _ (by assumption))) HBX.out HBY.out).mono ?_); rintro e w3 ⟨rfl, nd, rfl⟩; rw [← HCV.out]))
    have HBB := Lib.hid (hBl.out _ (by assumption))
    go_wp2
    go_ret
    exact ⟨rfl, HBB.out⟩
  · have hs : sg ((i : Int) - (j : Int)) = sg (wv n xs - wv m ys) := sg_diff _ _ i j HEI.out HEJ.out hij
    have hne : (sg ((i : Int) - (j : Int)) != 0) = true := by
      rw [bne_iff_ne]
      unfold sg
      (repeat' split) <;> omega
    rw [hs] at htab hne
    have HBB := Lib.hid HX.out.2.2.2.2
    clear hs hij
    go_wp2
    go_ret
    exact ⟨rfl, HBB.out⟩

/-- A whole number that lies in the call's first block. -/
def Box1 (n : Bool) (a : Option Addr) (la ca : Nat) (w W : World) : Prop :=
  W.cell? ⟨w.heap.size, 0, none⟩ = some (.bool n) ∧ W.cell? ⟨w.heap.size, 1, none⟩ = some (.slice a la ca) ∧ Below w.heap.size w W
theorem box1_0 (n : Bool) (a : Option Addr) (la ca : Nat) (w : World) : Box1 n a la ca w (w.alloc (WO n a la ca)) := by
  have d := World.cell?_alloc_mark w #[.bool n, .slice a la ca] 24 (0, 0)
  exact ⟨(d 0).trans rfl, (d 1).trans rfl, (Below.refl _ _).alloc (Nat.le_refl _) _⟩
theorem Box1.below {n : Bool} {a : Option Addr} {la ca : Nat} {w W W' : World} (h : Box1 n a la ca w W) (hb : Below W.heap.size W W') : Box1 n a la ca w W' :=
  ⟨below_cell hb _ _ h.1, below_cell hb _ _ h.2.1, h.2.2.trans (hb.mono h.2.2.size)⟩
theorem wv_int {z : Int} {zs : List Nat} (h : Num zs z.natAbs) : wv (decide (z < 0)) zs = z := by
  unfold wv; rw [h.vl]
  by_cases hz : z < 0
  · rw [decide_eq_true hz]; simp only [if_true]; omega
  · rw [decide_eq_false hz]; simp only [Bool.false_eq_true, if_false]; omega
theorem at0_low {xs : List Nat} (h : val xs < 18446744073709551616) : at0 xs 0 = val xs := by
  cases xs with
  | nil => rfl
  | cons x xs => rw [val_cons] at h ⊢; rw [at0_cons_zero]; omega
theorem len_pos {xs : List Nat} (h : 0 < val xs) : 0 < xs.length := by
  cases xs with
  | nil => simp [val] at h
  | cons x xs => simp
theorem int64_back (n : Bool) (v : Nat) (z : Int) (hz : z = if n then -(v : Int) else (v : Int)) (h0 : 0 < v) (h1 : -9223372036854775808 ≤ z) (h2 : z ≤ 9223372036854775807) :
    IntKind.i64.wrap ((if n then -1 else 1) * IntKind.i64.wrap (v : Int)) = z := by
  subst hz
  cases n
  · simp only [Bool.false_eq_true, if_false] at *
    rw [Int.one_mul, IntWalk.i64_in (v : Int) (by omega), IntWalk.i64_in _ (by omega)]
  · simp only [if_true] at *
    by_cases hv : v = 9223372036854775808
    · subst hv; decide
    · rw [IntWalk.i64_in (v : Int) (by omega), Int.neg_one_mul, IntWalk.i64_in _ (by omega)]

set_option maxHeartbeats 1000000 in
set_option maxRecDepth 100000 in
theorem int64_some (n : Bool) (a : Option Addr) (la ca : Nat) (xs : List Nat) (w : World) (hla : xs.length = la) (hba : la ≤ 1048576) (hca : la ≤ ca) (hra : Rd .u64 w a xs) (bx : Bd xs) (ht : Tabs w)
    (h0 : wv n xs ≠ 0) (h1 : -9223372036854775808 ≤ wv n xs) (h2 : wv n xs ≤ 9223372036854775807) :
    Calls Tryz.prog 22 #[.agg #[.bool n, .slice a la ca]] w fun e w' => e = .returned (.tuple #[.int .i64 (wv n xs), .bool true]) ∧ Below w.heap.size w w' := by
  have hv : val xs = (wv n xs).natAbs := (wv_abs n xs).symm
  have hpos : 0 < val xs := by omega
  have hlen := len_pos hpos
  obtain ⟨ba, oa, rfl⟩ := hra.isAt hlen
  have hlimb := hra.cell (i := 0) hlen
  rw [Nat.add_zero, at0_low (by omega)] at hlimb
  have HLM := Lib.hid (fun (W : World) (h : Below w.heap.size w W) => below_cell h _ _ hlimb)
  have HA := Lib.hid (fun (W : World) (h : Below w.heap.size w W) => hra.below h)
  have HT := Lib.hid (fun (W : World) (h : Below w.heap.size w W) => ht.below h)
  have HBX := Lib.hid bx
  have hback : IntKind.i64.wrap (sg (wv n xs) * IntKind.i64.wrap (val xs : Int)) = wv n xs := by
    rw [sg_wv n xs hpos]; exact int64_back n (val xs) _ rfl hpos h1 h2
  have hsg0 : (sg (wv n xs) == 0) = false := by
    rw [beq_eq_false_iff_ne, sg_wv n xs hpos]; cases n <;> decide
  have HS0 : Hid (Box1 n (some ⟨ba, oa, none⟩) la ca w ((w.alloc (WO n (some ⟨ba, oa, none⟩) la ca)).drew)) := ⟨(box1_0 n _ la ca w).1, (box1_0 n _ la ca w).2.1, (box1_0 n _ la ca w).2.2.drew⟩
  have HKB : Hid (∀ W W', Box1 n (some ⟨ba, oa, none⟩) la ca w W → Below W.heap.size W W' → Box1 n (some ⟨ba, oa, none⟩) la ca w W') := fun W W' h hb => h.below hb
  have HKW : Hid (∀ W, Box1 n (some ⟨ba, oa, none⟩) la ca w W → Below w.heap.size w W) := fun W h => h.2.2
  have HR : Hid (-9223372036854775808 ≤ wv n xs ∧ wv n xs ≤ 9223372036854775807) := ⟨h1, h2⟩
  have HVP : Hid (0 < val xs) := hpos
  obtain ⟨z, hz⟩ : ∃ z, z = wv n xs := ⟨_, rfl⟩
  clear hra bx ht hlimb h0 h1 h2 hv hpos
  go_enter Tryz.func22, Tryz.ntmps22
  go_wp2_with fail
  go_region_held3 (fun W => W.cell? ⟨w.heap.size, 0, none⟩ = some (.bool n) ∧ W.cell? ⟨w.heap.size, 1, none⟩ = some (.slice (some ⟨ba, oa, none⟩) la ca) ∧ Below w.heap.size w W)
    (first | exact HS0.out | exact HKB.out _ _ (by assumption) hb3)
    (first
    | (go_at_call 37; (with_reducible refine (int_any (-9223372036854775808) _ (by decide) (by decide)).mono ?_); rintro e w3 ⟨hb3, ai, ci, zi, rfl, hoi, hNi⟩
       have hzi := Lib.hid (wv_int hNi)
       have HOI := Lib.hid hoi
       have HNI := Lib.hid hNi
       have hli : zi.length ≤ 1048576 := by have := (hNi.len_le (k := 1)).2 (by decide); omega
       have hqi : Hid (∀ r, r = sg (wv n xs - wv (decide ((-9223372036854775808 : Int) < 0)) zi) → decide (r < 0) = false) := by
         intro r hr
         rw [hzi.out] at hr
         rw [decide_eq_false_iff_not, hr]
         have := HR.out.1
         unfold sg; (repeat' split) <;> omega
       generalize decide ((-9223372036854775808 : Int) < 0) = bi at *
       clear hoi hNi)
    | (go_at_call 37; (with_reducible refine (int_any 9223372036854775807 _ (by decide) (by decide)).mono ?_); rintro e w3 ⟨hb3, ai, ci, zi, rfl, hoi, hNi⟩
       have hzi := Lib.hid (wv_int hNi)
       have HOI := Lib.hid hoi
       have HNI := Lib.hid hNi
       have hli : zi.length ≤ 1048576 := by have := (hNi.len_le (k := 1)).2 (by decide); omega
       have hqi : Hid (∀ r, r = sg (wv n xs - wv (decide ((9223372036854775807 : Int) < 0)) zi) → decide (0 < r) = false) := by
         intro r hr
         rw [hzi.out] at hr
         rw [decide_eq_false_iff_not, hr]
         have := HR.out.2
         unfold sg; (repeat' split) <;> omega
       generalize decide ((9223372036854775807 : Int) < 0) = bi at *
       clear hoi hNi)
    | (go_at_call 31; (refine (wcmp_any n bi (some ⟨ba, oa, none⟩) ai la ca zi.length ci xs zi _ hla rfl hba hli hca (own64.room HOI.out).1 (HA.out _ (HKW.out _ (by assumption))) (own64.rd HOI.out).2 HBX.out HNI.out.bd (HT.out _ (HKW.out _ (by assumption)))).mono ?_); rintro e w4 ⟨rfl, hb3⟩
       obtain ⟨r, hr⟩ : ∃ r, r = sg (wv n xs - wv bi zi) := ⟨_, rfl⟩
       rw [← hr]
       have hqr := hqi.out r hr
       have HRR := Lib.hid hr
       clear hr))
  have HX := Lib.hid (show Box1 n (some ⟨ba, oa, none⟩) la ca w w4 from by assumption)
  clear hz z hb3 HOI HNI
  obtain ⟨c0, c1, _⟩ := HX.out
  go_wp2_with fail
  refine (wsign_any n (some ⟨ba, oa, none⟩) la ca xs _ hla hba hca (HA.out _ HX.out.2.2) HBX.out).mono ?_
  rintro e w5 ⟨rfl, rfl⟩
  have HX5 := Lib.hid (HX.out.below ((Below.refl _ _).alloc (Nat.le_refl _) (WO n (some ⟨ba, oa, none⟩) la ca)))
  have hl3 : (0 : Int) < (la : Int) := by omega
  have hl4 : 0 < la := by omega
  have hl5 : ¬ la = 0 := by omega
  obtain ⟨v, hvv⟩ : ∃ v, v = val xs := ⟨_, rfl⟩
  rw [← hvv] at hback HLM
  obtain ⟨u, huu⟩ : ∃ u, u = IntKind.i64.wrap (v : Int) := ⟨_, rfl⟩
  have HUU := Lib.hid huu
  have HVV := Lib.hid hvv
  clear c0 c1 hvv huu
  have HKM : Hid (∀ W W', (W.cell? ⟨w.heap.size, 0, none⟩ = some (.bool n) ∧ W.cell? ⟨w.heap.size, 1, none⟩ = some (.slice (some ⟨ba, oa, none⟩) la ca) ∧ W.cell? ⟨ba, oa, none⟩ = some (.int .u64 (v : Int)) ∧ Below w.heap.size w W) → Below W.heap.size W W' → (W'.cell? ⟨w.heap.size, 0, none⟩ = some (.bool n) ∧ W'.cell? ⟨w.heap.size, 1, none⟩ = some (.slice (some ⟨ba, oa, none⟩) la ca) ∧ W'.cell? ⟨ba, oa, none⟩ = some (.int .u64 (v : Int)) ∧ Below w.heap.size w W')) :=
    fun W W' h hb => ⟨below_cell hb _ _ h.1, below_cell hb _ _ h.2.1, below_cell hb _ _ h.2.2.1, h.2.2.2.trans (hb.mono h.2.2.2.size)⟩
  have HS5 : Hid ((w4.alloc (WO n (some ⟨ba, oa, none⟩) la ca)).drew.cell? ⟨w.heap.size, 0, none⟩ = some (.bool n) ∧ (w4.alloc (WO n (some ⟨ba, oa, none⟩) la ca)).drew.cell? ⟨w.heap.size, 1, none⟩ = some (.slice (some ⟨ba, oa, none⟩) la ca) ∧ (w4.alloc (WO n (some ⟨ba, oa, none⟩) la ca)).drew.cell? ⟨ba, oa, none⟩ = some (.int .u64 (v : Int)) ∧ Below w.heap.size w (w4.alloc (WO n (some ⟨ba, oa, none⟩) la ca)).drew) :=
    ⟨HX5.out.1, HX5.out.2.1, HLM.out _ HX5.out.2.2.drew, HX5.out.2.2.drew⟩
  go_wp2_with fail
  go_region_held3 (fun W => W.cell? ⟨w.heap.size, 0, none⟩ = some (.bool n) ∧ W.cell? ⟨w.heap.size, 1, none⟩ = some (.slice (some ⟨ba, oa, none⟩) la ca) ∧ W.cell? ⟨ba, oa, none⟩ = some (.int .u64 (v : Int)) ∧ Below w.heap.size w W)
    (first | exact HS5.out | exact HKM.out _ _ (by assumption) ((Below.refl _ _).alloc (Nat.le_refl _) _))
    (first
    | (go_at_call 33; (with_reducible refine (wsign_any n (some ⟨ba, oa, none⟩) la ca xs _ hla hba hca ?ha HBX.out).mono ?_); (case ha => exact HA.out _ (And.right (And.right (And.right (by assumption))))); rintro e w6 ⟨rfl, rfl⟩))
  have HBB := Lib.hid (show Below w.heap.size w _ from And.right (And.right (And.right (by assumption))))
  go_wp2
  go_ret2
  exact ⟨by rw [← hback]; rfl, HBB.out⟩

/-- A whole number's block, kept. -/
structure Keep (B g : Nat) (n : Bool) (a : Option Addr) (zs : List Nat) (c : Nat) (W : World) : Prop where
  blk : W.heap[g]? = some (WO n a zs.length c)
  own : own64 W B (.slice a zs.length c) zs
theorem Keep.below {B g : Nat} {n : Bool} {a : Option Addr} {zs : List Nat} {c : Nat} {W W' : World} (h : Keep B g n a zs c W) (hb : Below W.heap.size W W') : Keep B g n a zs c W' :=
  ⟨by rw [hb.block g (lt_of_block h.blk)]; exact h.blk, own64.under h.own hb⟩
theorem Keep.cells {B g : Nat} {n : Bool} {a : Option Addr} {zs : List Nat} {c : Nat} {W : World} (h : Keep B g n a zs c W) : W.cell? ⟨g, 0, none⟩ = some (.bool n) ∧ W.cell? ⟨g, 1, none⟩ = some (.slice a zs.length c) := by
  have h2 := h.blk
  unfold WO at h2
  refine ⟨?_, ?_⟩ <;> simp [World.cell?, h2]
theorem Keep.new {B : Nat} {n : Bool} {a : Option Addr} {zs : List Nat} {c : Nat} {W : World} (h : own64 W B (.slice a zs.length c) zs) : Keep B W.heap.size n a zs c (W.alloc (.cells #[.bool n, .slice a zs.length c] 24)) :=
  ⟨heap_new _ _, own64.under h ((Below.refl _ _).alloc (Nat.le_refl _) _)⟩
theorem wquo_small (n m : Bool) (a b : Option Addr) (ca lb cb x : Nat) (ys : List Nat) (w : World) (hca : 1 ≤ ca) (hlb : ys.length = lb) (hl : lb ≤ 1) (hcb : lb ≤ cb) (hra : Rd .u64 w a [x]) (hrb : Rd .u64 w b ys) (hx : x < 18446744073709551616) (bY : Bd ys) (hy : val ys < LIM) (ht : Tabs w) (ha : a = none → ca = 0) :
    Calls Tryz.prog 18 #[.agg #[.bool n, .slice a 1 ca], .agg #[.bool m, .slice b lb cb]] w (WTold (fun k p zs => (val ys = 0 ∧ k = 11 ∧ p = false ∧ zs = []) ∨ (0 < val ys ∧ k = 0 ∧ p = decide (Int.tdiv (wv n [x]) (wv m ys) < 0) ∧ Num zs (x / val ys))) w) := by
  have bx : Bd [x] := Bd.nil.cons hx
  have hfl : fl ys ≤ 1 := Nat.le_trans (fl_spec ys).1 (by omega)
  refine (wquo_of n m a b 1 ca lb cb [x] ys w rfl hlb (Nat.le_of_lt (by omega)) (by omega) hca hcb hra hrb bx bY ht (fun W hb => quo_one a b 1 lb ca cb [x] ys W rfl hlb (Nat.le_of_lt (by omega)) (by omega) hca hcb ha (hra.below hb) (hrb.below hb) bx bY hfl)).mono ?_
  rintro e w' ⟨hb, p, a', c', k, zs, rfl, ho, hQ⟩
  refine ⟨hb, p, a', c', k, zs, rfl, ho, ?_⟩
  rcases hQ with ⟨h, _⟩ | ⟨_, h1, rfl, rfl, rfl⟩ | ⟨_, h1, rfl, rfl, hN⟩
  · exact absurd ⟨by rw [val_one]; exact lim_one hx, hy⟩ h
  · exact .inl ⟨h1, rfl, rfl, rfl⟩
  · rw [tdiv_abs, val_one] at hN
    exact .inr ⟨h1, rfl, rfl, hN⟩
theorem wrem_small (n m : Bool) (a b : Option Addr) (ca cb x y : Nat) (w : World) (hca : 1 ≤ ca) (hcb : 1 ≤ cb) (hra : Rd .u64 w a [x]) (hrb : Rd .u64 w b [y]) (hx : x < 18446744073709551616) (hy : y < 18446744073709551616) (h0 : 0 < y) (ha : a = none → ca = 0) :
    Calls Tryz.prog 19 #[.agg #[.bool n, .slice a 1 ca], .agg #[.bool m, .slice b 1 cb]] w (WTold (fun k p zs => k = 0 ∧ p = decide (Int.tmod (wv n [x]) (wv m [y]) < 0) ∧ Num zs (x % y)) w) := by
  have bx : Bd [x] := Bd.nil.cons hx
  have bY : Bd [y] := Bd.nil.cons hy
  refine (wrem_of n m a b 1 ca 1 cb [x] [y] w rfl rfl (Nat.le_of_lt (by omega)) (Nat.le_of_lt (by omega)) hca hcb hra hrb bx bY (fun W hb => quo_one a b 1 1 ca cb [x] [y] W rfl rfl (Nat.le_of_lt (by omega)) (Nat.le_of_lt (by omega)) hca hcb ha (hra.below hb) (hrb.below hb) bx bY (fl_one y))).mono ?_
  rintro e w' ⟨hb, p, a', c', k, zs, rfl, ho, hQ⟩
  refine ⟨hb, p, a', c', k, zs, rfl, ho, ?_⟩
  rcases hQ with ⟨h, _⟩ | ⟨_, h1, _⟩ | ⟨_, h1, rfl, rfl, hN⟩
  · exact absurd ⟨by rw [val_one]; exact lim_one hx, by rw [val_one]; exact lim_one hy⟩ h
  · rw [val_one] at h1; omega
  · rw [tmod_abs, val_one, val_one] at hN
    exact ⟨rfl, rfl, hN⟩
theorem own64.none {w : World} {B : Nat} {a : Option Addr} {n c : Nat} {zs : List Nat} (h : own64 w B (.slice a n c) zs) : a = none → c = 0 := (own64.room h).2
theorem dec_eight {l : List UInt8} (h : IsDec l 8) : l = [56] := h.unique ⟨by decide, by decide, by simp, fun h => absurd h (by decide)⟩

set_option maxHeartbeats 2000000 in
set_option maxRecDepth 100000 in
theorem wworks_any (w : World) (ht : Tabs w) :
    Calls Tryz.prog 14 #[] w fun e w' => e = .returned (.bool true) ∧ Below w.heap.size w w' := by
  have HT := Lib.hid (fun (W : World) (h : Below w.heap.size w W) => ht.below h)
  clear ht
  go_enter Tryz.func14, Tryz.ntmps14
  go_wp2_with fail
  refine (int_any (-7) _ (by decide) (by decide)).mono ?_
  rintro e w1 ⟨hb1, aa, ca, zs, rfl, hoa, hN⟩
  obtain rfl : zs = [7] := Num.unique hN (num_of (by decide) (by decide) (by decide))
  rw [show decide ((-7 : Int) < 0) = true from rfl]
  have HB1 := Lib.hid hb1
  have HOA := Lib.hid hoa
  clear hoa hN hb1
  go_wp2_with fail
  refine (int_any 2 _ (by decide) (by decide)).mono ?_
  rintro e w2 ⟨hb2, ab, cb, zs, rfl, hob, hN⟩
  obtain rfl : zs = [2] := Num.unique hN (num_of (by decide) (by decide) (by decide))
  rw [show decide ((2 : Int) < 0) = false from rfl]
  have hb12 := HB1.out.trans (hb2.mono HB1.out.size)
  have KA := Lib.hid ((Keep.new (n := true) (own64.under HOA.out hb2)).below ((Below.refl _ _).alloc (Nat.le_refl _) (.cells #[.bool false, .slice ab 1 cb] 24)))
  have hkb := Keep.new (n := false) (own64.under (owns_base hob HB1.out.size) ((Below.refl _ _).alloc (Nat.le_refl _) (.cells #[.bool true, .slice aa 1 ca] 24)))
  rw [show (w2.alloc (.cells #[.bool true, .slice aa 1 ca] 24)).heap.size = w2.heap.size + 1 by simp] at hkb
  have KB := Lib.hid hkb
  have HB := Lib.hid ((hb12.alloc hb12.size (.cells #[.bool true, .slice aa 1 ca] 24)).alloc (by have := hb12.size; simp <;> omega) (.cells #[.bool false, .slice ab 1 cb] 24))
  clear hob hN hb2 HB1 HOA hkb hb12
  have g0 := KA.out.cells
  obtain ⟨x0, y0⟩ := g0
  have g1 := KB.out.cells
  obtain ⟨x1, y1⟩ := g1
  go_wp2_with fail
  refine (wquo_small true false aa ab ca 1 cb 7 [2] _ (own64.room KA.out.own).1 rfl (by decide) (own64.room KB.out.own).1 (own64.rd KA.out.own).2 (own64.rd KB.out.own).2 (by decide) (bd_of (by decide)) (by rw [val_one]; exact lim_one (by decide)) (HT.out _ HB.out) (own64.none KA.out.own)).mono ?_
  rintro e w3 ⟨hb, p', aq, cq, k', zs, rfl, ho, hQ⟩
  obtain ⟨rfl, rfl, rfl⟩ : k' = 0 ∧ p' = true ∧ zs = [3] := by
    rcases hQ with ⟨h, _⟩ | ⟨_, h1, h2, h3⟩
    · exact absurd h (by decide)
    · exact ⟨h1, by rw [h2]; decide, h3.unique (num_one (by decide) (by decide))⟩
  clear x0 y0 x1 y1
  have KA := Lib.hid (KA.out.below hb)
  have KB := Lib.hid (KB.out.below hb)
  have ho := owns_base ho HB.out.size
  have HB := Lib.hid (HB.out.trans (hb.mono HB.out.size))
  clear hQ hb
  have KQ := Lib.hid (Keep.new (n := true) ho)
  have hal : Below w3.heap.size w3 (w3.alloc (.cells #[.bool true, .slice aq 1 cq] 24)) := (Below.refl _ _).alloc (Nat.le_refl _) _
  have KA := Lib.hid (KA.out.below hal)
  have KB := Lib.hid (KB.out.below hal)
  have HB := Lib.hid (HB.out.alloc HB.out.size (.cells #[.bool true, .slice aq 1 cq] 24))
  clear hal
  clear ho
  have g0 := KA.out.cells
  obtain ⟨x0, y0⟩ := g0
  have g1 := KB.out.cells
  obtain ⟨x1, y1⟩ := g1
  have g2 := KQ.out.cells
  obtain ⟨x2, y2⟩ := g2
  go_wp2_with fail
  refine (wrem_small true false aa ab ca cb 7 2 _ (own64.room KA.out.own).1 (own64.room KB.out.own).1 (own64.rd KA.out.own).2 (own64.rd KB.out.own).2 (by decide) (by decide) (by decide) (own64.none KA.out.own)).mono ?_
  rintro e w4 ⟨hb, p', ar, cr, k', zs, rfl, ho, hQ⟩
  obtain ⟨rfl, rfl, rfl⟩ : k' = 0 ∧ p' = true ∧ zs = [1] := by
    obtain ⟨h1, h2, h3⟩ := hQ
    exact ⟨h1, by rw [h2]; decide, h3.unique (num_one (by decide) (by decide))⟩
  clear x0 y0 x1 y1 x2 y2
  have KA := Lib.hid (KA.out.below hb)
  have KB := Lib.hid (KB.out.below hb)
  have KQ := Lib.hid (KQ.out.below hb)
  have ho := owns_base ho HB.out.size
  have HB := Lib.hid (HB.out.trans (hb.mono HB.out.size))
  clear hQ hb
  have KR := Lib.hid (Keep.new (n := true) ho)
  have hal : Below w4.heap.size w4 (w4.alloc (.cells #[.bool true, .slice ar 1 cr] 24)) := (Below.refl _ _).alloc (Nat.le_refl _) _
  have KA := Lib.hid (KA.out.below hal)
  have KB := Lib.hid (KB.out.below hal)
  have KQ := Lib.hid (KQ.out.below hal)
  have HB := Lib.hid (HB.out.alloc HB.out.size (.cells #[.bool true, .slice ar 1 cr] 24))
  clear hal
  clear ho
  go_wp2_with fail
  refine (int_any (-2) _ (by decide) (by decide)).mono ?_
  rintro e w5 ⟨hb, aU, cU, zs, rfl, ho, hN⟩
  obtain rfl : zs = [2] := Num.unique hN (num_one (by decide) (by decide))
  rw [show decide ((-2 : Int) < 0) = true from rfl]
  have KA := Lib.hid (KA.out.below hb)
  have KB := Lib.hid (KB.out.below hb)
  have KQ := Lib.hid (KQ.out.below hb)
  have KR := Lib.hid (KR.out.below hb)
  have HOU := Lib.hid (owns_base ho HB.out.size)
  have HB := Lib.hid (HB.out.trans (hb.mono HB.out.size))
  clear hN hb ho
  go_wp2_with fail
  refine (int_any (3) _ (by decide) (by decide)).mono ?_
  rintro e w6 ⟨hb, aV, cV, zs, rfl, ho, hN⟩
  obtain rfl : zs = [3] := Num.unique hN (num_one (by decide) (by decide))
  rw [show decide ((3 : Int) < 0) = false from rfl]
  have KA := Lib.hid (KA.out.below hb)
  have KB := Lib.hid (KB.out.below hb)
  have KQ := Lib.hid (KQ.out.below hb)
  have KR := Lib.hid (KR.out.below hb)
  have HOU := Lib.hid (own64.under HOU.out hb)
  have HOV := Lib.hid (owns_base ho HB.out.size)
  have HB := Lib.hid (HB.out.trans (hb.mono HB.out.size))
  clear hN hb ho
  go_wp2_with fail
  refine (pow_works aU aV cU cV _ (own64.room HOU.out).1 (own64.room HOV.out).1 (own64.rd HOU.out).2 (own64.rd HOV.out).2 (HT.out _ HB.out)).mono ?_
  rintro e w7 ⟨hb, p', ap, cp, k', zs, rfl, ho, rfl, rfl, rfl⟩
  have KA := Lib.hid (KA.out.below hb)
  have KB := Lib.hid (KB.out.below hb)
  have KQ := Lib.hid (KQ.out.below hb)
  have KR := Lib.hid (KR.out.below hb)
  have ho := owns_base ho HB.out.size
  have HB := Lib.hid (HB.out.trans (hb.mono HB.out.size))
  clear hb
  have KP := Lib.hid (Keep.new (n := true) ho)
  have hal : Below w7.heap.size w7 (w7.alloc (.cells #[.bool true, .slice ap 1 cp] 24)) := (Below.refl _ _).alloc (Nat.le_refl _) _
  have KA := Lib.hid (KA.out.below hal)
  have KB := Lib.hid (KB.out.below hal)
  have KQ := Lib.hid (KQ.out.below hal)
  have KR := Lib.hid (KR.out.below hal)
  have HB := Lib.hid (HB.out.alloc HB.out.size (.cells #[.bool true, .slice ap 1 cp] 24))
  clear hal
  clear ho HOU HOV
  have g0 := KA.out.cells
  obtain ⟨x0, y0⟩ := g0
  have g1 := KB.out.cells
  obtain ⟨x1, y1⟩ := g1
  have g2 := KQ.out.cells
  obtain ⟨x2, y2⟩ := g2
  have g3 := KR.out.cells
  obtain ⟨x3, y3⟩ := g3
  have g4 := KP.out.cells
  obtain ⟨x4, y4⟩ := g4
  go_wp2_with fail
  refine (wtext_any true ap 1 cp [8] _ rfl (by decide) (own64.room KP.out.own).1 (own64.none KP.out.own) (own64.rd KP.out.own).2 (bd_of (by decide))).mono ?_
  rintro e w8 ⟨hb, hQ⟩
  obtain rfl : e = .returned (.tuple #[.string ⟨#[45, 56]⟩, .int .i64 0]) := by
    rcases hQ with ⟨h, _⟩ | ⟨_, l, hd, rfl⟩
    · exact absurd h (Nat.not_le.2 (by rw [val_one]; exact lim_one (by decide)))
    · rw [val_one] at hd
      rw [dec_eight hd]; rfl
  clear x0 y0 x1 y1 x2 y2 x3 y3 x4 y4
  have KA := Lib.hid (KA.out.below hb)
  have KB := Lib.hid (KB.out.below hb)
  have KQ := Lib.hid (KQ.out.below hb)
  have KR := Lib.hid (KR.out.below hb)
  have KP := Lib.hid (KP.out.below hb)
  have HB := Lib.hid (HB.out.trans (hb.mono HB.out.size))
  clear hQ hb
  have g0 := KA.out.cells
  obtain ⟨x0, y0⟩ := g0
  have g1 := KB.out.cells
  obtain ⟨x1, y1⟩ := g1
  have g2 := KQ.out.cells
  obtain ⟨x2, y2⟩ := g2
  have g3 := KR.out.cells
  obtain ⟨x3, y3⟩ := g3
  have g4 := KP.out.cells
  obtain ⟨x4, y4⟩ := g4
  go_wp2_with fail
  refine (wquo_small true false aa none ca 0 0 7 [] _ (own64.room KA.out.own).1 rfl (by decide) (by decide) (own64.rd KA.out.own).2 (Rd.nil _ _ _) (by decide) Bd.nil (Nat.lt_of_lt_of_le (by decide) (Nat.succ_le_of_lt (lim_one (x := 0) (by decide)))) (HT.out _ HB.out) (own64.none KA.out.own)).mono ?_
  rintro e w9 ⟨hb, p', az, cz, k', zs, rfl, ho, hQ⟩
  obtain ⟨rfl, rfl, rfl⟩ : k' = 11 ∧ p' = false ∧ zs = [] := by
    rcases hQ with ⟨_, h1, h2, h3⟩ | ⟨h, _⟩
    · exact ⟨h1, h2, h3⟩
    · exact absurd h (by decide)
  clear x0 y0 x1 y1 x2 y2 x3 y3 x4 y4
  have KA := Lib.hid (KA.out.below hb)
  have KB := Lib.hid (KB.out.below hb)
  have KQ := Lib.hid (KQ.out.below hb)
  have KR := Lib.hid (KR.out.below hb)
  have KP := Lib.hid (KP.out.below hb)
  have HB := Lib.hid (HB.out.trans (hb.mono HB.out.size))
  have hal : Below w9.heap.size w9 (w9.alloc (.cells #[.bool false, .slice az 0 cz] 24)) := (Below.refl _ _).alloc (Nat.le_refl _) _
  have KA := Lib.hid (KA.out.below hal)
  have KB := Lib.hid (KB.out.below hal)
  have KQ := Lib.hid (KQ.out.below hal)
  have KR := Lib.hid (KR.out.below hal)
  have KP := Lib.hid (KP.out.below hal)
  have HB := Lib.hid (HB.out.alloc HB.out.size (.cells #[.bool false, .slice az 0 cz] 24))
  clear hQ hb ho hal
  have g0 := KA.out.cells
  obtain ⟨x0, y0⟩ := g0
  have g1 := KB.out.cells
  obtain ⟨x1, y1⟩ := g1
  have g2 := KQ.out.cells
  obtain ⟨x2, y2⟩ := g2
  have g3 := KR.out.cells
  obtain ⟨x3, y3⟩ := g3
  have g4 := KP.out.cells
  obtain ⟨x4, y4⟩ := g4
  go_wp2_with fail
  refine (int64_some true aq 1 cq [3] _ rfl (by decide) (own64.room KQ.out.own).1 (own64.rd KQ.out.own).2 (bd_of (by decide)) (HT.out _ HB.out) (by decide) (by decide) (by decide)).mono ?_
  rintro e w10 ⟨rfl, hb⟩
  rw [show wv true [3] = (-3 : Int) from rfl]
  clear x0 y0 x1 y1 x2 y2 x3 y3 x4 y4
  have KA := Lib.hid (KA.out.below hb)
  have KB := Lib.hid (KB.out.below hb)
  have KQ := Lib.hid (KQ.out.below hb)
  have KR := Lib.hid (KR.out.below hb)
  have KP := Lib.hid (KP.out.below hb)
  have HB := Lib.hid (HB.out.trans (hb.mono HB.out.size))
  clear hb
  have g0 := KA.out.cells
  obtain ⟨x0, y0⟩ := g0
  have g1 := KB.out.cells
  obtain ⟨x1, y1⟩ := g1
  have g2 := KQ.out.cells
  obtain ⟨x2, y2⟩ := g2
  have g3 := KR.out.cells
  obtain ⟨x3, y3⟩ := g3
  have g4 := KP.out.cells
  obtain ⟨x4, y4⟩ := g4
  go_wp2_with fail
  refine (int64_some true ar 1 cr [1] _ rfl (by decide) (own64.room KR.out.own).1 (own64.rd KR.out.own).2 (bd_of (by decide)) (HT.out _ HB.out) (by decide) (by decide) (by decide)).mono ?_
  rintro e w11 ⟨rfl, hb⟩
  rw [show wv true [1] = (-1 : Int) from rfl]
  clear x0 y0 x1 y1 x2 y2 x3 y3 x4 y4
  have KA := Lib.hid (KA.out.below hb)
  have KB := Lib.hid (KB.out.below hb)
  have KQ := Lib.hid (KQ.out.below hb)
  have KR := Lib.hid (KR.out.below hb)
  have KP := Lib.hid (KP.out.below hb)
  have HB := Lib.hid (HB.out.trans (hb.mono HB.out.size))
  clear hb
  clear HT KA KB KQ KR KP
  go_wp2
  go_ret
  exact ⟨rfl, HB.out⟩
end Go.Proofs.YtfjhmnbbjknflaaGreatDoor
