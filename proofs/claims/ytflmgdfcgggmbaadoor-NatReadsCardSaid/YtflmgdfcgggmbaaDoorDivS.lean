import Derived.Test.YtflmgdfcgggmbaaDoorMulT
namespace Go.Proofs.YtflmgdfcgggmbaaDoor
open Go.RowKit

def DividePost (xs ys : List Nat) (w : World) (e : Ending) (w' : World) : Prop :=
  ∃ q r qs rs, e = .returned (.tuple #[q, r]) ∧ own64 w' w.heap.size q qs ∧ own64 w' w.heap.size r rs ∧ Bd qs ∧ Bd rs ∧ val xs = val ys * val qs + val rs ∧ val rs < val ys ∧
    (∀ k, q.ownBlock = some k → r.ownBlock ≠ some k) ∧ Below w.heap.size w w' ∧ qs.length ≤ xs.length + 1 ∧ rs.length ≤ xs.length + ys.length + 1
def DivideFor (xs ys : List Nat) : Prop :=
  ∀ (a b : Option Addr) (ca cb : Nat) (w : World), Rd .u64 w a xs → Rd .u64 w b ys → xs.length ≤ ca → ys.length ≤ cb → (a = none → ca = 0) →
    Calls Tryd.prog 66 #[.slice a xs.length ca, .slice b ys.length cb] w (DividePost xs ys w)

theorem cmpI_neg {a b : Nat} : (cmpI a b < 0) ↔ a < b := by
  unfold cmpI
  by_cases h : a < b
  · simp [h]
  · rw [if_neg h]
    by_cases e : a = b
    · simp [e]
    · simp [e, h]

set_option maxHeartbeats 1000000 in
set_option maxRecDepth 100000 in
theorem divide_one {xs ys : List Nat} (bx : Bd xs) (bY : Bd ys) (hl : ys.length = 1) (hp : 0 < val ys) (hbx : xs.length ≤ 1048576) : DivideFor xs ys := by
  intro a b ca cb w hra hrb hca hcb hnone
  have HNO := Lib.hid hnone
  clear hnone
  obtain ⟨n, hn⟩ : ∃ n, n = xs.length := ⟨_, rfl⟩
  rw [← hn] at hbx hca ⊢
  rw [hl] at hcb ⊢
  have HNL := Lib.hid hn
  have HYL := Lib.hid hl
  go_enter Tryd.func66, Tryd.ntmps66
  clear hn hl
  go_wp2_with fail
  refine (cmp_any a b n 1 ca cb xs ys _ HNL.out.symm HYL.out (by omega) (by omega) hca hcb hra hrb bx bY).mono ?_
  rintro e w1 ⟨rfl, nd, rfl⟩
  have hra1 : Rd .u64 (w.drewN nd) a xs := hra
  have hrb1 : Rd .u64 (w.drewN nd) b ys := hrb
  by_cases hlt : val xs < val ys
  · have hc := Lib.hid (cmpI_of_lt hlt)
    rw [hc.out]
    have HLT := Lib.hid hlt
    clear hlt
    go_wp2_with fail
    refine (copied_any a n ca xs _ HNL.out.symm (by omega) (fun _ h => HNO.out h) hra1).mono ?_
    rintro e w2 ⟨v, rfl, hown, hbl, _⟩
    have HO := Lib.hid hown
    have HB : Hid (Below w.heap.size w w2) := (Chg.below (Chg.drewM (Chg.refl (fun _ => False) w) nd) (Nat.le_refl _) (fun _ h => h.elim)).trans hbl
    clear hown hbl
    go_wp2
    go_ret2
    exact ⟨_, _, [], xs, rfl, own64_nil _ _, HO.out, Bd.nil, bx, by simp [val], HLT.out, (fun k hk => by cases hk), HB.out, by simp, by omega⟩
  · have hge : ¬ cmpI (val xs) (val ys) < 0 := fun h => hlt (cmpI_neg.1 h)
    have HGE : Hid (val ys ≤ val xs) := by show _ ≤ _; omega
    have hx0 : 0 < n := by
      rw [HNL.out]
      refine Nat.pos_of_ne_zero fun h0 => ?_
      have : xs = [] := List.eq_nil_of_length_eq_zero h0
      rw [this] at hlt
      simp [val] at hlt
      omega
    generalize cmpI (val xs) (val ys) = cc at hge
    have hq : decide (cc < 0) = false := by simp; omega
    clear hlt hge
    go_wp2_with fail
    refine (copied_any a n ca xs _ HNL.out.symm (by omega) (fun _ h => HNO.out h) hra1).mono ?_
    rintro e w2 ⟨v, rfl, hown, hbl, _⟩
    obtain ⟨g, cv, rfl, hBg, hgl⟩ := own64.isAt hown (by rw [← HNL.out]; exact hx0)
    obtain ⟨G, cur, hg, -, -, hblk, hnc, hcm, hcs, hsg⟩ := own64.blk hown
    cases hg
    obtain ⟨bb, ob, rfl⟩ := hrb.isAt (by rw [HYL.out]; decide)
    have hc1 := below_cell hbl _ _ (hrb1.cell (i := 0) (by rw [HYL.out]; decide))
    rw [Nat.add_zero] at hc1
    have hd64 := bY.at0 0
    have HD : Hid (val ys = at0 ys 0) := by
      have h1 := val_at ys 0 (by rw [HYL.out]; decide)
      rw [List.drop_of_length_le (by rw [HYL.out]; decide)] at h1
      simp [val] at h1
      exact h1
    generalize at0 ys 0 = d at *
    have hd0 : 0 < d := by rw [← HD.out]; exact hp
    have HBL : Hid (Below w.heap.size w w2) := (Chg.below (Chg.drewM (Chg.refl (fun _ => False) w) nd) (Nat.le_refl _) (fun _ h => h.elim)).trans hbl
    have HBK := Lib.hid hblk
    have HSG := Lib.hid hsg
    have HCS := Lib.hid hcs
    have hlx : Hid (xs.length = n) := HNL.out.symm
    have hBg2 : w.heap.size ≤ g := hBg
    rw [hlx.out] at hnc ⊢
    clear hblk hsg hcs hown hbl hra hrb hra1 hrb1 hBg
    go_wp2_with fail
    refine (divideShort_any g 0 n cv cur xs d _ HBK.out HSG.out hlx.out (by omega) bx hd0 hd64).mono ?_
    rintro e w3 ⟨r, qs, rfl, hql, hqb, hrd, hval, hbk3, hC3⟩
    have hown3 := own64_of_blk (B := w.heap.size) (zs := qs) (c := cv) hbk3 hBg2 (by omega) hcm (by rw [putL_size (by have := HSG.out.1; have := hlx.out; omega)]; exact HCS.out) (putL_sg (by have := HSG.out.1; have := hlx.out; omega))
    rw [hql] at hown3
    have HO3 := Lib.hid hown3
    have HB3 : Hid (Below w.heap.size w w3) := HBL.out.trans (hC3.below (by have := HBL.out.size; omega) (fun k hk => by omega))
    have hsz3 := HB3.out.size
    have HV := Lib.hid hval
    have HQL := Lib.hid hql
    have HQB := Lib.hid hqb
    have hg3 : g < w3.heap.size := hbk3.lt
    clear hown3 hval hql hqb hbk3 hC3
    go_wp2
    go_ret2
    refine ⟨_, _, qs, [r], rfl, HO3.out.alloc _, ?_, HQB.out, Bd.nil.cons (by omega), by simp only [val, Nat.mul_zero, Nat.add_zero]; rw [HD.out]; exact HV.out, by simp only [val, Nat.mul_zero, Nat.add_zero]; rw [HD.out]; exact hrd, ?_, HB3.out.alloc (by omega) _, by have := HQL.out; have := hlx.out; omega, by have := HYL.out; simp⟩
    · have := World.ownsRow_lit (base := w.heap.size) (size := 1) (e := 57) w3 #[.int .u64 (r : Nat)] 1 hsz3 (by decide) rfl
      exact this
    · intro k hk
      simp [Value.ownBlock] at hk ⊢
      omega
end Go.Proofs.YtflmgdfcgggmbaaDoor
