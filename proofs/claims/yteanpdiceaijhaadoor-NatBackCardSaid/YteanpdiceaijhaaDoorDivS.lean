import Derived.Test.YteanpdiceaijhaaDoorMulS
namespace Go.Proofs.YteanpdiceaijhaaDoor
open Go.RowKit

def DividePost (xs ys : List Nat) (w : World) (e : Ending) (w' : World) : Prop :=
  ∃ q r qs rs, e = .returned (.tuple #[q, r]) ∧ own64 w' w.heap.size q qs ∧ own64 w' w.heap.size r rs ∧ Bd qs ∧ Bd rs ∧ val xs = val ys * val qs + val rs ∧ val rs < val ys ∧
    (∀ k, q.ownBlock = some k → r.ownBlock ≠ some k) ∧ Below w.heap.size w w' ∧ qs.length ≤ xs.length + 1 ∧ rs.length ≤ xs.length + ys.length + 1
def DivideFor (xs ys : List Nat) : Prop :=
  ∀ (a b : Option Addr) (ca cb : Nat) (w : World), Rd .u64 w a xs → Rd .u64 w b ys → xs.length ≤ ca → ys.length ≤ cb → (a = none → ca = 0) →
    Calls Tryd.prog 73 #[.slice a xs.length ca, .slice b ys.length cb] w (DividePost xs ys w)

theorem cmpI_neg {a b : Nat} : (cmpI a b < 0) ↔ a < b := by
  unfold cmpI
  by_cases h : a < b
  · simp [h]
  · rw [if_neg h]
    by_cases e : a = b
    · simp [e]
    · simp [e, h]

set_option maxHeartbeats 1000000 in
set_option maxRecDepth 100000 in
theorem divide_one {xs ys : List Nat} (bx : Bd xs) (bY : Bd ys) (hl : ys.length = 1) (hp : 0 < val ys) (hbx : xs.length ≤ 1048576) : DivideFor xs ys := by
  intro a b ca cb w hra hrb hca hcb hnone
  have HNO := Lib.hid hnone
  clear hnone
  obtain ⟨n, hn⟩ : ∃ n, n = xs.length := ⟨_, rfl⟩
  rw [← hn] at hbx hca ⊢
  rw [hl] at hcb ⊢
  have HNL := Lib.hid hn
  have HYL := Lib.hid hl
  go_enter Tryd.func73, Tryd.ntmps73
  clear hn hl
  go_wp2_with fail
  refine (cmp_any a b n 1 ca cb xs ys _ HNL.out.symm HYL.out (by omega) (by omega) hca hcb hra hrb bx bY).mono ?_
  rintro e w1 ⟨rfl, nd, rfl⟩
  have hra1 : Rd .u64 (w.drewN nd) a xs := hra
  have hrb1 : Rd .u64 (w.drewN nd) b ys := hrb
  by_cases hlt : val xs < val ys
  · have hc := Lib.hid (cmpI_of_lt hlt)
    rw [hc.out]
    have HLT := Lib.hid hlt
    clear hlt
    go_wp2_with fail
    refine (copied_any a n ca xs _ HNL.out.symm (by omega) (fun _ h => HNO.out h) hra1).mono ?_
    rintro e w2 ⟨v, rfl, hown, hbl, _⟩
    have HO := Lib.hid hown
    have HB : Hid (Below w.heap.size w w2) := (Chg.below (Chg.drewM (Chg.refl (fun _ => False) w) nd) (Nat.le_refl _) (fun _ h => h.elim)).trans hbl
    clear hown hbl
    go_wp2
    go_ret2
    exact ⟨_, _, [], xs, rfl, own64_nil _ _, HO.out, Bd.nil, bx, by simp [val], HLT.out, (fun k hk => by cases hk), HB.out, by simp, by omega⟩
  · have hge : ¬ cmpI (val xs) (val ys) < 0 := fun h => hlt (cmpI_neg.1 h)
    have HGE : Hid (val ys ≤ val xs) := by show _ ≤ _; omega
    have hx0 : 0 < n := by
      rw [HNL.out]
      refine Nat.pos_of_ne_zero fun h0 => ?_
      have : xs = [] := List.eq_nil_of_length_eq_zero h0
      rw [this] at hlt
      simp [val] at hlt
      omega
    generalize cmpI (val xs) (val ys) = cc at hge
    have hq : decide (cc < 0) = false := by simp; omega
    clear hlt hge
    go_wp2_with fail
    refine (copied_any a n ca xs _ HNL.out.symm (by omega) (fun _ h => HNO.out h) hra1).mono ?_
    rintro e w2 ⟨v, rfl, hown, hbl, _⟩
    obtain ⟨g, cv, rfl, hBg, hgl⟩ := own64.isAt hown (by rw [← HNL.out]; exact hx0)
    obtain ⟨G, cur, hg, -, -, hblk, hnc, hcm, hcs, hsg⟩ := own64.blk hown
    cases hg
    obtain ⟨bb, ob, rfl⟩ := hrb.isAt (by rw [HYL.out]; decide)
    have hc1 := below_cell hbl _ _ (hrb1.cell (i := 0) (by rw [HYL.out]; decide))
    rw [Nat.add_zero] at hc1
    have hd64 := bY.at0 0
    have HD : Hid (val ys = at0 ys 0) := by
      have h1 := val_at ys 0 (by rw [HYL.out]; decide)
      rw [List.drop_of_length_le (by rw [HYL.out]; decide)] at h1
      simp [val] at h1
      exact h1
    generalize at0 ys 0 = d at *
    have hd0 : 0 < d := by rw [← HD.out]; exact hp
    have HBL : Hid (Below w.heap.size w w2) := (Chg.below (Chg.drewM (Chg.refl (fun _ => False) w) nd) (Nat.le_refl _) (fun _ h => h.elim)).trans hbl
    have HBK := Lib.hid hblk
    have HSG := Lib.hid hsg
    have HCS := Lib.hid hcs
    have hlx : Hid (xs.length = n) := HNL.out.symm
    have hBg2 : w.heap.size ≤ g := hBg
    rw [hlx.out] at hnc ⊢
    clear hblk hsg hcs hown hbl hra hrb hra1 hrb1 hBg
    go_wp2_with fail
    refine (divideShort_any g 0 n cv cur xs d _ HBK.out HSG.out hlx.out (by omega) bx hd0 hd64).mono ?_
    rintro e w3 ⟨r, qs, rfl, hql, hqb, hrd, hval, hbk3, hC3⟩
    have hown3 := own64_of_blk (B := w.heap.size) (zs := qs) (c := cv) hbk3 hBg2 (by omega) hcm (by rw [putL_size (by have := HSG.out.1; have := hlx.out; omega)]; exact HCS.out) (putL_sg (by have := HSG.out.1; have := hlx.out; omega))
    rw [hql] at hown3
    have HO3 := Lib.hid hown3
    have HB3 : Hid (Below w.heap.size w w3) := HBL.out.trans (hC3.below (by have := HBL.out.size; omega) (fun k hk => by omega))
    have hsz3 := HB3.out.size
    have HV := Lib.hid hval
    have HQL := Lib.hid hql
    have HQB := Lib.hid hqb
    have hg3 : g < w3.heap.size := hbk3.lt
    clear hown3 hval hql hqb hbk3 hC3
    go_wp2
    go_ret2
    refine ⟨_, _, qs, [r], rfl, HO3.out.alloc _, ?_, HQB.out, Bd.nil.cons (by omega), by simp only [val, Nat.mul_zero, Nat.add_zero]; rw [HD.out]; exact HV.out, by simp only [val, Nat.mul_zero, Nat.add_zero]; rw [HD.out]; exact hrd, ?_, HB3.out.alloc (by omega) _, by have := HQL.out; have := hlx.out; omega, by have := HYL.out; simp⟩
    · have := World.ownsRow_lit (base := w.heap.size) (size := 1) (e := 55) w3 #[.int .u64 (r : Nat)] 1 hsz3 (by decide) rfl
      exact this
    · intro k hk
      simp [Value.ownBlock] at hk ⊢
      omega

/-- What Div answers. -/
def QuoPost (xs ys : List Nat) (w : World) (e : Ending) (w' : World) : Prop :=
  Below w.heap.size w w' ∧
  (((128 < fl xs ∨ 128 < fl ys) ∧ e = .returned (.tuple #[.slice none 0 0, .slice none 0 0, .int .i64 3])) ∨
   (fl xs ≤ 128 ∧ fl ys ≤ 128 ∧ val ys = 0 ∧ e = .returned (.tuple #[.slice none 0 0, .slice none 0 0, .int .i64 11])) ∨
   (fl xs ≤ 128 ∧ fl ys ≤ 128 ∧ 0 < val ys ∧ ∃ q r qs rs, e = .returned (.tuple #[q, r, .int .i64 0]) ∧ own64 w' w.heap.size q qs ∧ own64 w' w.heap.size r rs ∧
      Num qs (val xs / val ys) ∧ Num rs (val xs % val ys) ∧ (∀ k, q.ownBlock = some k → r.ownBlock ≠ some k)))

theorem own_form {a : Option Addr} {n c : Nat} {a' : Option Addr} {c' n' k : Nat} (h : Value.ownBlock (.slice a' n' c') = some k) (g1 : 0 < n' → a' = a ∧ c' = c) (g2 : n' = 0 → a' = none ∧ c' = 0) : Value.ownBlock (.slice a n c) = some k := by
  rcases Nat.eq_zero_or_pos n' with rfl | hp
  · obtain ⟨rfl, rfl⟩ := g2 rfl
    simp [Value.ownBlock] at h
  · obtain ⟨rfl, rfl⟩ := g1 hp
    cases a' with
    | none => exact h
    | some p => exact h
set_option maxHeartbeats 1000000 in
set_option maxRecDepth 100000 in
theorem quo_any (a b : Option Addr) (la lb ca cb : Nat) (xs ys : List Nat) (w : World) (hla : xs.length = la) (hlb : ys.length = lb) (hba : la ≤ 1048576) (hbb : lb ≤ 1048576) (hca : la ≤ ca) (hcb : lb ≤ cb) (hna : a = none → ca = 0)
    (hra : Rd .u64 w a xs) (hrb : Rd .u64 w b ys) (bY : Bd ys) (hd : 0 < val ys → DivideFor (fm xs) (fm ys)) :
    Calls Tryd.prog 32 #[.slice a la ca, .slice b lb cb] w (QuoPost xs ys w) := by
  have hfa := (fl_spec xs).1
  have hfb := (fl_spec ys).1
  go_enter Tryd.func32, Tryd.ntmps32
  go_wp2_with fail
  refine (both_any a b la lb ca cb xs ys _ hla hlb (by omega) (by omega) hca hcb hra hrb).mono ?_
  rintro e w1 ⟨hor, rfl⟩
  rcases hor with ⟨h1, h2, a', c', b', d', rfl, fa, fb⟩ | ⟨h1, rfl⟩
  · have hra' := fa.rd hra hfa
    have hrb' := fb.rd hrb hfb
    have hca' := (fa.cap hca (by omega)).1
    have hna' : Hid (a' = none → c' = 0) := fun h => ((fa.cap hca (by omega)).2 h).elim id (fun h2 => by
      rcases Nat.eq_zero_or_pos (fl xs) with h0 | hp
      · exact (fa.2 h0).2
      · rw [(fa.1 hp).2]; exact hna h2)
    have hcb' := (fb.cap hcb (by omega)).1
    have V1 : Hid (val (xs.take (fl xs)) = val xs) := fm_val xs
    have V2 : Hid (val (ys.take (fl ys)) = val ys) := fm_val ys
    have e1 : Hid ((xs.take (fl xs)).length = fl xs) := fm_length xs
    have e2 : Hid ((ys.take (fl ys)).length = fl ys) := fm_length ys
    clear fa fb hra hrb hna
    by_cases h0 : fl ys = 0
    · have hq : ((fl ys : Int) == 0) = true := by simp; omega
      have H0 : Hid (val ys = 0) := by show _ = _; rw [← V2.out, h0]; rfl
      clear h0
      go_wp2
      go_ret3
      exact ⟨Below.refl _ _, .inr (.inl ⟨h1, h2, H0.out, rfl⟩)⟩
    · have hq : ((fl ys : Int) == 0) = false := by simp; omega
      have HP : Hid (0 < val ys) := by
        show _ < _
        refine Nat.pos_of_ne_zero fun hz => h0 ?_
        have := num_fm bY
        rw [hz] at this
        have h3 := Num.unique this Num.nil
        rw [← fm_length, h3]; rfl
      have HD := Lib.hid (hd HP.out a' b' c' d')
      clear hd
      go_wp2_with fail
      have hD := HD.out _ hra' hrb' (by rw [show (fm xs).length = fl xs from e1.out]; exact hca') (by rw [show (fm ys).length = fl ys from e2.out]; exact hcb') hna'.out
      rw [show (fm xs).length = fl xs from e1.out, show (fm ys).length = fl ys from e2.out] at hD
      refine hD.mono ?_
      rintro e w1 ⟨q, r, qs, rs, rfl, oq, or, bq, br, hval, hlt, hdis, hbl, hlq, hlr⟩
      rw [show val (fm xs) = val xs from V1.out, show val (fm ys) = val ys from V2.out] at hval
      rw [show val (fm ys) = val ys from V2.out] at hlt
      rw [show (fm xs).length = fl xs from e1.out] at hlq hlr
      rw [show (fm ys).length = fl ys from e2.out] at hlr
      obtain ⟨aq, cq, rfl, hrq⟩ := own64.form oq
      obtain ⟨ar, cr, rfl, hrr⟩ := own64.form or
      have hroomq := (own64.room oq).1
      have hroomr := (own64.room or).1
      have OQ := Lib.hid oq
      have OR := Lib.hid or
      have HV := Lib.hid hval
      have HLT := Lib.hid hlt
      have DIS := Lib.hid hdis
      have BQ := Lib.hid bq
      have BR := Lib.hid br
      clear oq or hval hlt hdis bq br
      go_wp2_with fail
      refine (form_any aq qs.length cq qs _ rfl (by omega) hroomq hrq).mono ?_
      rintro e w2 ⟨⟨aq', cq', rfl, g1, g2⟩, rfl⟩
      have G1 := Lib.hid g1
      have G2 := Lib.hid g2
      clear g1 g2
      go_wp2_with fail
      refine (form_any ar rs.length cr rs _ rfl (by omega) hroomr hrr).mono ?_
      rintro e w2 ⟨⟨ar', cr', rfl, k1, k2⟩, rfl⟩
      have K1 := Lib.hid k1
      have K2 := Lib.hid k2
      clear k1 k2
      go_wp2
      go_ret3
      have hnq := num_fm BQ.out
      have hnr := num_fm BR.out
      obtain ⟨hdv, hmd⟩ : val qs = val xs / val ys ∧ val rs = val xs % val ys := by
        have h1 := HV.out
        have h2 := HLT.out
        rw [h1]
        constructor
        · rw [Nat.mul_add_div HP.out, Nat.div_eq_of_lt h2, Nat.add_zero]
        · rw [Nat.mul_add_mod, Nat.mod_eq_of_lt h2]
      rw [hdv] at hnq
      rw [hmd] at hnr
      refine ⟨hbl, .inr (.inr ⟨h1, h2, HP.out, _, _, fm qs, fm rs, rfl, own64_take OQ.out (fl_spec qs).1 G1.out G2.out, own64_take OR.out (fl_spec rs).1 K1.out K2.out, hnq, hnr, ?_⟩)⟩
      intro k h3 h4
      exact DIS.out k (own_form h3 G1.out G2.out) (own_form h4 K1.out K2.out)
  · go_wp2
    go_ret3
    exact ⟨Below.refl _ _, .inl ⟨by omega, rfl⟩⟩

theorem quo_one (a b : Option Addr) (la lb ca cb : Nat) (xs ys : List Nat) (w : World) (hla : xs.length = la) (hlb : ys.length = lb) (hba : la ≤ 1048576) (hbb : lb ≤ 1048576) (hca : la ≤ ca) (hcb : lb ≤ cb) (hna : a = none → ca = 0)
    (hra : Rd .u64 w a xs) (hrb : Rd .u64 w b ys) (bx : Bd xs) (bY : Bd ys) (hone : fl ys ≤ 1) :
    Calls Tryd.prog 32 #[.slice a la ca, .slice b lb cb] w (QuoPost xs ys w) := by
  have hfa := (fl_spec xs).1
  refine quo_any a b la lb ca cb xs ys w hla hlb hba hbb hca hcb hna hra hrb bY fun hp => divide_one (fm_bd bx) (fm_bd bY) ?_ (by rw [fm_val]; exact hp) (by rw [fm_length]; omega)
  rw [fm_length]
  have : fl ys ≠ 0 := fun h => by rw [← fm_val, fm, h] at hp; simp [val] at hp
  omega
end Go.Proofs.YteanpdiceaijhaaDoor
