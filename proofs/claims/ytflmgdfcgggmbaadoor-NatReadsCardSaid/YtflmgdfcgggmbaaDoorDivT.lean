import Derived.Test.YtflmgdfcgggmbaaDoorDivS
namespace Go.Proofs.YtflmgdfcgggmbaaDoor
open Go.RowKit

/-- What Div answers. -/
def QuoPost (xs ys : List Nat) (w : World) (e : Ending) (w' : World) : Prop :=
  Below w.heap.size w w' ∧
  (((128 < fl xs ∨ 128 < fl ys) ∧ e = .returned (.tuple #[.slice none 0 0, .slice none 0 0, .int .i64 3])) ∨
   (fl xs ≤ 128 ∧ fl ys ≤ 128 ∧ val ys = 0 ∧ e = .returned (.tuple #[.slice none 0 0, .slice none 0 0, .int .i64 11])) ∨
   (fl xs ≤ 128 ∧ fl ys ≤ 128 ∧ 0 < val ys ∧ ∃ q r qs rs, e = .returned (.tuple #[q, r, .int .i64 0]) ∧ own64 w' w.heap.size q qs ∧ own64 w' w.heap.size r rs ∧
      Num qs (val xs / val ys) ∧ Num rs (val xs % val ys) ∧ (∀ k, q.ownBlock = some k → r.ownBlock ≠ some k)))

theorem own_form {a : Option Addr} {n c : Nat} {a' : Option Addr} {c' n' k : Nat} (h : Value.ownBlock (.slice a' n' c') = some k) (g1 : 0 < n' → a' = a ∧ c' = c) (g2 : n' = 0 → a' = none ∧ c' = 0) : Value.ownBlock (.slice a n c) = some k := by
  rcases Nat.eq_zero_or_pos n' with rfl | hp
  · obtain ⟨rfl, rfl⟩ := g2 rfl
    simp [Value.ownBlock] at h
  · obtain ⟨rfl, rfl⟩ := g1 hp
    cases a' with
    | none => exact h
    | some p => exact h
set_option maxHeartbeats 1000000 in
set_option maxRecDepth 100000 in
theorem quo_any (a b : Option Addr) (la lb ca cb : Nat) (xs ys : List Nat) (w : World) (hla : xs.length = la) (hlb : ys.length = lb) (hba : la ≤ 1048576) (hbb : lb ≤ 1048576) (hca : la ≤ ca) (hcb : lb ≤ cb) (hna : a = none → ca = 0)
    (hra : Rd .u64 w a xs) (hrb : Rd .u64 w b ys) (bx : Bd xs) (bY : Bd ys) (hd : 0 < val ys → DivideFor (fm xs) (fm ys)) :
    Calls Tryd.prog 36 #[.slice a la ca, .slice b lb cb] w (QuoPost xs ys w) := by
  have hfa := (fl_spec xs).1
  have hfb := (fl_spec ys).1
  go_enter Tryd.func36, Tryd.ntmps36
  go_wp2_with fail
  refine (both_any a b la lb ca cb xs ys _ hla hlb (by omega) (by omega) hca hcb hra hrb).mono ?_
  rintro e w1 ⟨hor, rfl⟩
  rcases hor with ⟨h1, h2, a', c', b', d', rfl, fa, fb⟩ | ⟨h1, rfl⟩
  · have hra' := fa.rd hra hfa
    have hrb' := fb.rd hrb hfb
    have hca' := (fa.cap hca (by omega)).1
    have hna' : Hid (a' = none → c' = 0) := fun h => ((fa.cap hca (by omega)).2 h).elim id (fun h2 => by
      rcases Nat.eq_zero_or_pos (fl xs) with h0 | hp
      · exact (fa.2 h0).2
      · rw [(fa.1 hp).2]; exact hna h2)
    have hcb' := (fb.cap hcb (by omega)).1
    have V1 : Hid (val (xs.take (fl xs)) = val xs) := fm_val xs
    have V2 : Hid (val (ys.take (fl ys)) = val ys) := fm_val ys
    have e1 : Hid ((xs.take (fl xs)).length = fl xs) := fm_length xs
    have e2 : Hid ((ys.take (fl ys)).length = fl ys) := fm_length ys
    clear fa fb hra hrb hna
    by_cases h0 : fl ys = 0
    · have hq : ((fl ys : Int) == 0) = true := by simp; omega
      have H0 : Hid (val ys = 0) := by show _ = _; rw [← V2.out, h0]; rfl
      clear h0
      go_wp2
      go_ret3
      exact ⟨Below.refl _ _, .inr (.inl ⟨h1, h2, H0.out, rfl⟩)⟩
    · have hq : ((fl ys : Int) == 0) = false := by simp; omega
      have HP : Hid (0 < val ys) := by
        show _ < _
        refine Nat.pos_of_ne_zero fun hz => h0 ?_
        have := num_fm bY
        rw [hz] at this
        have h3 := Num.unique this Num.nil
        rw [← fm_length, h3]; rfl
      have HD := Lib.hid (hd HP.out a' b' c' d')
      clear hd
      go_wp2_with fail
      have hD := HD.out _ hra' hrb' (by rw [show (fm xs).length = fl xs from e1.out]; exact hca') (by rw [show (fm ys).length = fl ys from e2.out]; exact hcb') hna'.out
      rw [show (fm xs).length = fl xs from e1.out, show (fm ys).length = fl ys from e2.out] at hD
      refine hD.mono ?_
      rintro e w1 ⟨q, r, qs, rs, rfl, oq, or, bq, br, hval, hlt, hdis, hbl, hlq, hlr⟩
      rw [show val (fm xs) = val xs from V1.out, show val (fm ys) = val ys from V2.out] at hval
      rw [show val (fm ys) = val ys from V2.out] at hlt
      rw [show (fm xs).length = fl xs from e1.out] at hlq hlr
      rw [show (fm ys).length = fl ys from e2.out] at hlr
      obtain ⟨aq, cq, rfl, hrq⟩ := own64.form oq
      obtain ⟨ar, cr, rfl, hrr⟩ := own64.form or
      have hroomq := (own64.room oq).1
      have hroomr := (own64.room or).1
      have OQ := Lib.hid oq
      have OR := Lib.hid or
      have HV := Lib.hid hval
      have HLT := Lib.hid hlt
      have DIS := Lib.hid hdis
      have BQ := Lib.hid bq
      have BR := Lib.hid br
      clear oq or hval hlt hdis bq br
      go_wp2_with fail
      refine (form_any aq qs.length cq qs _ rfl (by omega) hroomq hrq).mono ?_
      rintro e w2 ⟨⟨aq', cq', rfl, g1, g2⟩, rfl⟩
      have G1 := Lib.hid g1
      have G2 := Lib.hid g2
      clear g1 g2
      go_wp2_with fail
      refine (form_any ar rs.length cr rs _ rfl (by omega) hroomr hrr).mono ?_
      rintro e w2 ⟨⟨ar', cr', rfl, k1, k2⟩, rfl⟩
      have K1 := Lib.hid k1
      have K2 := Lib.hid k2
      clear k1 k2
      go_wp2
      go_ret3
      have hnq := num_fm BQ.out
      have hnr := num_fm BR.out
      obtain ⟨hdv, hmd⟩ : val qs = val xs / val ys ∧ val rs = val xs % val ys := by
        have h1 := HV.out
        have h2 := HLT.out
        rw [h1]
        constructor
        · rw [Nat.mul_add_div HP.out, Nat.div_eq_of_lt h2, Nat.add_zero]
        · rw [Nat.mul_add_mod, Nat.mod_eq_of_lt h2]
      rw [hdv] at hnq
      rw [hmd] at hnr
      refine ⟨hbl, .inr (.inr ⟨h1, h2, HP.out, _, _, fm qs, fm rs, rfl, own64_take OQ.out (fl_spec qs).1 G1.out G2.out, own64_take OR.out (fl_spec rs).1 K1.out K2.out, hnq, hnr, ?_⟩)⟩
      intro k h3 h4
      exact DIS.out k (own_form h3 G1.out G2.out) (own_form h4 K1.out K2.out)
  · go_wp2
    go_ret3
    exact ⟨Below.refl _ _, .inl ⟨by omega, rfl⟩⟩

theorem quo_one (a b : Option Addr) (la lb ca cb : Nat) (xs ys : List Nat) (w : World) (hla : xs.length = la) (hlb : ys.length = lb) (hba : la ≤ 1048576) (hbb : lb ≤ 1048576) (hca : la ≤ ca) (hcb : lb ≤ cb) (hna : a = none → ca = 0)
    (hra : Rd .u64 w a xs) (hrb : Rd .u64 w b ys) (bx : Bd xs) (bY : Bd ys) (hone : fl ys ≤ 1) :
    Calls Tryd.prog 36 #[.slice a la ca, .slice b lb cb] w (QuoPost xs ys w) := by
  have hfa := (fl_spec xs).1
  refine quo_any a b la lb ca cb xs ys w hla hlb hba hbb hca hcb hna hra hrb bx bY fun hp => divide_one (fm_bd bx) (fm_bd bY) ?_ (by rw [fm_val]; exact hp) (by rw [fm_length]; omega)
  rw [fm_length]
  have : fl ys ≠ 0 := fun h => by rw [← fm_val, fm, h] at hp; simp [val] at hp
  omega
end Go.Proofs.YtflmgdfcgggmbaaDoor
