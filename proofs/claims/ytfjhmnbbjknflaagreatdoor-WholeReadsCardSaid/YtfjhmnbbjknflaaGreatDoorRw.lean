import Derived.Test.YtfjhmnbbjknflaaGreatDoorWholeT
import Derived.Test.YtfjhmnbbjknflaaGreatDoorRc
import Derived.Test.YtfjhmnbbjknflaaGreatDoorRe
import Derived.Test.YtfjhmnbbjknflaaGreatDoorWb
namespace Go.Proofs.YtfjhmnbbjknflaaGreatDoor
open Go.RowKit

/-- The reference's layer 2: fits. -/
theorem r2fits_any (n : Bool) (a : Option Addr) (la ca : Nat) (xs : List Nat) (w : World) (hla : xs.length = la) (hba : la ≤ 1048576) (hra : Rd .u64 w a xs) (bx : Bd xs) :
    Calls Tryz.prog 66 #[.agg #[.bool n, .slice a la ca]] w fun e w' => e = .returned (.bool (decide (val xs < LIM))) ∧ Below w.heap.size w w' := by
  have HB := Lib.hid bx
  go_enter Tryz.func66, Tryz.ntmps66
  go_wp2_with fail
  refine (rlength_any a la ca xs _ hla hba (hra.alloc _) HB.out).mono ?_
  rintro e w1 ⟨k, rfl, hk, hb1⟩
  have hb0 := Lib.hid (show Below w.heap.size w w1 from ((Below.refl _ _).alloc (Nat.le_refl _) _).trans (hb1.mono (by simp)))
  have hq : Hid (decide ((k : Int) ≤ 4096) = decide (val xs < LIM)) := by
    show _ = _
    rw [decide_eq_decide, ← lim_bits hk]; omega
  clear hk hb1
  go_wp2
  go_ret
  refine ⟨?_, hb0.out⟩
  first | exact congrArg (fun q => Ending.returned (.bool q)) hq.out | (rw [← hq.out]; simp)

set_option maxHeartbeats 1000000 in
theorem r2form_any (n : Bool) (a : Option Addr) (la ca : Nat) (xs : List Nat) (w : World) (hla : xs.length = la) (hba : la ≤ 1048576) (hra : Rd .u64 w a xs) (bx : Bd xs) :
    Calls Tryz.prog 67 #[.agg #[.bool n, .slice a la ca]] w (IPost (wv n xs) w) := by
  have HBX := Lib.hid bx
  have HA := Lib.hid (fun (W : World) (h : Below w.heap.size w W) => hra.below h)
  clear hra bx
  go_enter Tryz.func67, Tryz.ntmps67
  have hb0 : Below w.heap.size w ((w.alloc (WO n a la ca)).alloc (WO false none 0 0)) := ((Below.refl _ _).alloc (Nat.le_refl _) _).alloc (by simp) _
  have HB0 := Lib.hid hb0
  have hx0 := Lib.hid (heap_kept (heap_new w (WO n a la ca)) (WO false none 0 0))
  have hx1 := Lib.hid (show ((w.alloc (WO n a la ca)).alloc (WO false none 0 0)).heap[w.heap.size + 1]? = some (WO false none 0 0) by have := heap_new (w.alloc (WO n a la ca)) (WO false none 0 0); simpa using this)
  clear hb0
  go_wp2_with fail
  refine (rform_any a la ca xs _ hla hba (HA.out _ HB0.out) HBX.out).mono ?_
  rintro e w2 ⟨v, zs, rfl, ho, hN, hb2⟩
  obtain ⟨a2, c2, rfl, hr2⟩ := own64.form ho
  have hrb : RBlk w2 (w.heap.size + 1) := RBlk.below (rblk hx1.out) hb2
  have hbb : w2.heap[w.heap.size]? = some (WO n a la ca) := by rw [hb2.block _ (lt_of_block hx0.out)]; exact hx0.out
  have hB2 : Below w.heap.size w w2 := HB0.out.trans (hb2.mono HB0.out.size)
  have ho2 : own64 w2 w.heap.size (.slice a2 zs.length c2) zs := owns_base ho HB0.out.size
  have hz : zs.length = 0 ↔ val xs = 0 := by
    have := hN.len_le (k := 0)
    constructor
    · intro h; have := this.1 (by omega); omega
    · intro h; have := this.2 (by rw [h]; decide); omega
  have hzl : zs.length ≤ la := by
    have := hN.len_le (k := la)
    exact this.2 (by have := val_lt HBX.out; rw [hla] at this; exact this)
  have hpost : IPost (wv n xs) w (.returned (.agg #[.bool (decide (wv n xs < 0)), .slice a2 zs.length c2])) w2 := ⟨hB2, a2, c2, zs, rfl, ho2, by rw [wv_abs]; exact hN⟩
  have HP := Lib.hid hpost
  have HRB := Lib.hid hrb
  obtain ⟨_, c0, c1, f0, f1⟩ := hrb
  obtain ⟨d0, d1, -, -⟩ := wo_cells hbb
  have hl2 : zs.length ≤ 1048576 := by omega
  clear ho hN hb2 hr2 hbb hB2 ho2 hzl hpost
  cases n
  · have hd : decide (wv false xs < 0) = false := by rw [decide_eq_false_iff_not]; unfold wv; simp
    have HD := Lib.hid hd
    have HZ := Lib.hid hz
    clear hd hz
    generalize zs.length = l at *
    go_wp2
    refine bodyPost_ret (results_WOset1 rfl rfl HRB.out) rfl ?_
    have h := HP.out.set HRB.out (Nat.le_succ _) (.bool false) (.slice a2 l c2)
    rw [HD.out] at h
    exact h
  · by_cases h0 : zs.length = 0
    · have hd : decide (wv true xs < 0) = false := by rw [decide_eq_false_iff_not]; unfold wv; rw [hz.1 h0]; simp
      have HD := Lib.hid hd
      clear hd hz
      rw [h0] at HP ⊢
      clear h0
      go_wp2
      refine bodyPost_ret (results_WOset1 rfl rfl HRB.out) rfl ?_
      have h := HP.out.set HRB.out (Nat.le_succ _) (.bool false) (.slice a2 0 c2)
      rw [HD.out] at h
      exact h
    · have hd : decide (wv true xs < 0) = true := by rw [decide_eq_true_iff]; unfold wv; have := fun h => h0 (hz.2 h); simp; omega
      have HD := Lib.hid hd
      have hq : decide ((zs.length : Int) > 0) = true := by rw [decide_eq_true_iff]; omega
      have hq2 : decide ((0 : Int) < (zs.length : Int)) = true := by rw [decide_eq_true_iff]; omega
      have hq3 : decide (0 < zs.length) = true := by rw [decide_eq_true_iff]; omega
      clear hd hz h0
      generalize zs.length = l at *
      go_wp2
      refine bodyPost_ret (results_WOset1 rfl rfl HRB.out) rfl ?_
      have h := HP.out.set HRB.out (Nat.le_succ _) (.bool true) (.slice a2 l c2)
      rw [HD.out] at h
      exact h

/-- Two numbers in their boxes, a third box for what is answered. -/
structure Bx2 (B : Nat) (n : Bool) (a : Option Addr) (la ca : Nat) (m : Bool) (b : Option Addr) (lb cb : Nat) (W : World) : Prop where
  b0 : W.heap[B]? = some (WO n a la ca)
  b1 : W.heap[B + 1]? = some (WO m b lb cb)
  r : RBlk W (B + 1 + 1)
variable {B : Nat} {n m : Bool} {a b : Option Addr} {la ca lb cb : Nat} {W : World}
theorem Bx2.below (h : Bx2 B n a la ca m b lb cb W) {W' : World} (hb : Below W.heap.size W W') : Bx2 B n a la ca m b lb cb W' :=
  ⟨by rw [hb.block _ (lt_of_block h.b0)]; exact h.b0, by rw [hb.block _ (lt_of_block h.b1)]; exact h.b1, h.r.below hb⟩
theorem Bx2.drew (h : Bx2 B n a la ca m b lb cb W) : Bx2 B n a la ca m b lb cb W.drew := h.below (Below.refl _ _).drew
theorem Bx2.cells (h : Bx2 B n a la ca m b lb cb W) : W.cell? ⟨B, 0, none⟩ = some (.bool n) ∧ W.cell? ⟨B, 1, none⟩ = some (.slice a la ca) ∧ W.cell? ⟨B + 1, 0, none⟩ = some (.bool m) ∧ W.cell? ⟨B + 1, 1, none⟩ = some (.slice b lb cb) :=
  ⟨(wo_cells h.b0).1, (wo_cells h.b0).2.1, (wo_cells h.b1).1, (wo_cells h.b1).2.1⟩
theorem Bx2.kept (h : Bx2 B n a la ca m b lb cb W) (u0 u1 : Value) : ((W.setCell ⟨B + 1 + 1, 0, none⟩ u0).setCell ⟨B + 1 + 1, 1, none⟩ u1).cell? ⟨B, 0, none⟩ = some (.bool n) ∧ ((W.setCell ⟨B + 1 + 1, 0, none⟩ u0).setCell ⟨B + 1 + 1, 1, none⟩ u1).cell? ⟨B, 1, none⟩ = some (.slice a la ca) ∧ ((W.setCell ⟨B + 1 + 1, 0, none⟩ u0).setCell ⟨B + 1 + 1, 1, none⟩ u1).cell? ⟨B + 1, 0, none⟩ = some (.bool m) ∧ ((W.setCell ⟨B + 1 + 1, 0, none⟩ u0).setCell ⟨B + 1 + 1, 1, none⟩ u1).cell? ⟨B + 1, 1, none⟩ = some (.slice b lb cb) := by
  have hc : Chg (fun k => k = B + 1 + 1) W ((W.setCell ⟨B + 1 + 1, 0, none⟩ u0).setCell ⟨B + 1 + 1, 1, none⟩ u1) := ((Chg.refl (fun k => k = B + 1 + 1) _).setCell (p := ⟨B + 1 + 1, 0, none⟩) rfl _).setCell (p := ⟨B + 1 + 1, 1, none⟩) rfl _
  have g0 := (hc.block B (lt_of_block h.b0) (by omega)).trans h.b0
  have g1 := (hc.block (B + 1) (lt_of_block h.b1) (by omega)).trans h.b1
  exact ⟨(wo_cells g0).1, (wo_cells g0).2.1, (wo_cells g1).1, (wo_cells g1).2.1⟩
theorem Bx2.new (w : World) (n m : Bool) (a b : Option Addr) (la ca lb cb : Nat) : Bx2 w.heap.size n a la ca m b lb cb (((w.alloc (WO n a la ca)).alloc (WO m b lb cb)).alloc (WO false none 0 0)) := by
  have e1 : (w.alloc (WO n a la ca)).heap.size = w.heap.size + 1 := by simp
  have h1 := heap_new (w.alloc (WO n a la ca)) (WO m b lb cb)
  rw [e1] at h1
  have e2 : ((w.alloc (WO n a la ca)).alloc (WO m b lb cb)).heap.size = w.heap.size + 1 + 1 := by simp
  have h2 := heap_new ((w.alloc (WO n a la ca)).alloc (WO m b lb cb)) (WO false none 0 0)
  rw [e2] at h2
  exact ⟨heap_kept (heap_kept (heap_new w _) _) _, heap_kept h1 _, rblk h2⟩
theorem below3 (w : World) (o1 o2 o3 : Obj) : Below w.heap.size w (((w.alloc o1).alloc o2).alloc o3) := (((Below.refl _ _).alloc (Nat.le_refl _) _).alloc (by simp) _).alloc (by simp; omega) _

theorem wv_times {n m : Bool} {xs ys zs : List Nat} (h : val zs = val xs * val ys) : wv (n != m) zs = wv n xs * wv m ys := by
  unfold wv
  rw [h]
  cases n <;> cases m <;> simp [Int.natCast_mul, Int.neg_mul, Int.mul_neg]

set_option maxHeartbeats 2000000 in
set_option maxRecDepth 100000 in
theorem r2times_any (n m : Bool) (a b : Option Addr) (la ca lb cb : Nat) (xs ys : List Nat) (w : World) (hla : xs.length = la) (hlb : ys.length = lb) (hba : la ≤ 500000) (hbb : lb ≤ 500000) (hra : Rd .u64 w a xs) (hrb : Rd .u64 w b ys) (bx : Bd xs) (bY : Bd ys) :
    Calls Tryz.prog 68 #[.agg #[.bool n, .slice a la ca], .agg #[.bool m, .slice b lb cb]] w (IPost (wv n xs * wv m ys) w) := by
  have HBX := Lib.hid bx
  have HBY := Lib.hid bY
  have HLA := Lib.hid hla
  have HLB := Lib.hid hlb
  have HA := Lib.hid (fun (W : World) (h : Below w.heap.size w W) => hra.below h)
  have HB := Lib.hid (fun (W : World) (h : Below w.heap.size w W) => hrb.below h)
  clear hra hrb bx bY hla hlb
  go_enter Tryz.func68, Tryz.ntmps68
  have HE := Lib.hid (Bx2.new w n m a b la ca lb cb)
  have HW := Lib.hid (below3 w (WO n a la ca) (WO m b lb cb) (WO false none 0 0))
  go_wp2_with fail
  have HE := Lib.hid HE.out.drew
  have HW := Lib.hid HW.out.drew
  go_region_held3 (fun W => W.cell? ⟨w.heap.size, 0, none⟩ = some (.bool n) ∧ W.cell? ⟨w.heap.size, 1, none⟩ = some (.slice a la ca) ∧ W.cell? ⟨w.heap.size + 1, 0, none⟩ = some (.bool m) ∧ W.cell? ⟨w.heap.size + 1, 1, none⟩ = some (.slice b lb cb))
    (first | exact HE.out.cells | exact HE.out.kept _ _)
    (first
      | (go_at_call 98; (refine (rtimes_any a b la lb ca cb xs ys _ HLA.out HLB.out (by omega) (by omega) (HA.out _ HW.out) (HB.out _ HW.out) HBX.out HBY.out).mono ?_)
         rintro e w1 ⟨v, zs, rfl, hO, hN, hb1⟩
         obtain ⟨a1, c1, rfl, hr1⟩ := own64.form hO
         have hzl : zs.length ≤ la + lb := by
           refine (hN.len_le (k := la + lb)).2 ?_
           have h1 := val_lt HBX.out
           have h2 := val_lt HBY.out
           rw [HLA.out] at h1
           rw [HLB.out] at h2
           rw [Nat.pow_add]
           exact Nat.mul_lt_mul'' h1 h2
         have HZL := Lib.hid hzl
         have HE := Lib.hid (HE.out.below hb1)
         have HW := Lib.hid (HW.out.trans (hb1.mono HW.out.size))
         have HR := Lib.hid hr1
         have HNN := Lib.hid hN
         clear hO hN hr1 hb1 hzl)
      | (go_at_call 67; (refine (r2form_any (n != m) _ _ _ _ _ rfl (by have := HZL.out; omega) HR.out HNN.out.bd).mono ?_)
         rintro e w2 ⟨hb2, a2, c2, qs, rfl, hO, hN⟩
         have HP := Lib.hid (show IPost (wv n xs * wv m ys) w (.returned (.agg #[.bool (decide (wv n xs * wv m ys < 0)), .slice a2 qs.length c2])) w2 from ⟨HW.out.trans (hb2.mono HW.out.size), a2, c2, qs, rfl, owns_base hO HW.out.size, by rw [← wv_times HNN.out.vl]; exact hN⟩)
         rw [wv_times HNN.out.vl]
         have HE := Lib.hid (HE.out.below hb2)
         obtain ⟨_, d0, d1, e0, e1⟩ := HE.out.r
         clear hO hN hb2))
  all_goals
    go_wp2
    refine bodyPost_ret (results_WOset1 rfl rfl HE.out.r) rfl ?_
    exact HP.out.set HE.out.r (by omega) _ _

theorem r1small_any (x : Nat) (w : World) (hx : x < 18446744073709551616) :
    Calls Tryz.prog 83 #[.int .u64 (x : Nat)] w fun e w' => ∃ a c zs, e = .returned (.slice a zs.length c) ∧ own64 w' w.heap.size (.slice a zs.length c) zs ∧ Num zs x ∧ Below w.heap.size w w' := by
  go_enter Tryz.func83, Tryz.ntmps83
  by_cases h0 : x = 0
  · have hq : ((x : Int) == 0) = true := by simp; omega
    have HX := Lib.hid h0
    clear h0
    go_wp2
    go_ret
    exact ⟨none, 0, [], rfl, own64_nil _ _, by rw [HX.out]; exact Num.nil, Below.refl _ _⟩
  · have hq : ((x : Int) == 0) = false := by simp; omega
    have HX := Lib.hid h0
    clear h0
    go_wp2
    go_ret
    refine ⟨_, _, [x], rfl, own64_of_blk (cur := #[.int .u64 (x : Nat)]) (heap_new w _) (Nat.le_refl _) (Nat.le_refl _) (by decide) rfl ⟨by simp, fun i hi => ?_⟩, ⟨Bd.nil.cons hx, fun _ => by unfold at0; simpa using HX.out, val_one x⟩, (Below.refl _ _).alloc (Nat.le_refl _) _⟩
    obtain rfl : i = 0 := by simp at hi; omega
    rfl

set_option maxHeartbeats 1000000 in
theorem r2int_any (z : Int) (w : World) (h1 : -9223372036854775808 ≤ z) (h2 : z ≤ 9223372036854775807) :
    Calls Tryz.prog 41 #[.int .i64 z] w (IPost z w) := by
  obtain ⟨x, hx0⟩ : ∃ x, z.natAbs = x := ⟨_, rfl⟩
  have hx : x < 18446744073709551616 := by omega
  go_enter Tryz.func41, Tryz.ntmps41
  have hr := Lib.hid (heap_new w (WO false none 0 0))
  have HB0 := Lib.hid (show Below w.heap.size w (w.alloc (WO false none 0 0)) from (Below.refl _ _).alloc (Nat.le_refl _) _)
  by_cases hn : z < 0
  · have hq : decide (z < 0) = true := by rw [decide_eq_true_iff]; exact hn
    have hw := neg_u64 z x hx0 hn h1
    have HZ := Lib.hid hx0
    clear hx0 hn
    go_wp2_with fail
    refine (r1small_any x _ hx).mono ?_
    rintro e w1 ⟨a, c, zs, rfl, hO, hN, hb1⟩
    have HR : Hid (RBlk w1 w.heap.size) := (rblk hr.out).below hb1
    have HP := Lib.hid (show IPost z w (.returned (.agg #[.bool (decide (z < 0)), .slice a zs.length c])) w1 from ⟨HB0.out.trans (hb1.mono HB0.out.size), a, c, zs, rfl, owns_base hO HB0.out.size, by rw [HZ.out]; exact hN⟩)
    obtain ⟨_, d0, d1, e0, e1⟩ := HR.out
    rw [hq] at HP
    clear hO hN hb1
    go_wp2
    refine bodyPost_ret (results_WOset1 rfl rfl HR.out) rfl ?_
    exact HP.out.set HR.out (Nat.le_refl _) _ _
  · have hq : decide (z < 0) = false := by rw [decide_eq_false_iff_not]; exact hn
    obtain rfl : z = (x : Int) := by omega
    have hw : IntKind.u64.wrap (x : Int) = (x : Int) := by simp [IntKind.wrap, IntKind.signed, IntKind.bits]; omega
    have HZ := Lib.hid hx0
    clear hx0 hn
    go_wp2_with fail
    refine (r1small_any x _ hx).mono ?_
    rintro e w1 ⟨a, c, zs, rfl, hO, hN, hb1⟩
    have HR : Hid (RBlk w1 w.heap.size) := (rblk hr.out).below hb1
    have HP := Lib.hid (show IPost (x : Int) w (.returned (.agg #[.bool (decide ((x : Int) < 0)), .slice a zs.length c])) w1 from ⟨HB0.out.trans (hb1.mono HB0.out.size), a, c, zs, rfl, owns_base hO HB0.out.size, by rw [HZ.out]; exact hN⟩)
    obtain ⟨_, d0, d1, e0, e1⟩ := HR.out
    rw [hq] at HP
    clear hO hN hb1
    go_wp2
    refine bodyPost_ret (results_WOset1 rfl rfl HR.out) rfl ?_
    exact HP.out.set HR.out (Nat.le_refl _) _ _

theorem wv_plus {n : Bool} {xs ys zs : List Nat} (h : val zs = val xs + val ys) : wv n zs = wv n xs + wv n ys := by
  unfold wv
  rw [h]
  cases n <;> simp <;> omega
theorem wv_less {n m : Bool} {xs ys zs : List Nat} (hnm : ¬ n = m) (hle : val ys ≤ val xs) (h : val zs = val xs - val ys) : wv n zs = wv n xs + wv m ys := by
  unfold wv
  rw [h]
  cases n <;> cases m <;> simp at hnm ⊢ <;> omega
theorem wv_less2 {n m : Bool} {xs ys zs : List Nat} (hnm : ¬ n = m) (hle : val xs ≤ val ys) (h : val zs = val ys - val xs) : wv m zs = wv n xs + wv m ys := by
  unfold wv
  rw [h]
  cases n <;> cases m <;> simp at hnm ⊢ <;> omega

set_option maxHeartbeats 4000000 in
set_option maxRecDepth 100000 in
theorem r2plus_any (n m : Bool) (a b : Option Addr) (la ca lb cb : Nat) (xs ys : List Nat) (w : World) (hla : xs.length = la) (hlb : ys.length = lb) (hba : la ≤ 500000) (hbb : lb ≤ 500000) (hra : Rd .u64 w a xs) (hrb : Rd .u64 w b ys) (bx : Bd xs) (bY : Bd ys) :
    Calls Tryz.prog 73 #[.agg #[.bool n, .slice a la ca], .agg #[.bool m, .slice b lb cb]] w (IPost (wv n xs + wv m ys) w) := by
  have HBX := Lib.hid bx
  have HBY := Lib.hid bY
  have HLA := Lib.hid hla
  have HLB := Lib.hid hlb
  have HA := Lib.hid (fun (W : World) (h : Below w.heap.size w W) => hra.below h)
  have HB := Lib.hid (fun (W : World) (h : Below w.heap.size w W) => hrb.below h)
  clear hra hrb bx bY hla hlb
  go_enter Tryz.func73, Tryz.ntmps73
  have HE := Lib.hid (Bx2.new w n m a b la ca lb cb)
  have HW := Lib.hid (below3 w (WO n a la ca) (WO m b lb cb) (WO false none 0 0))
  by_cases hnm : n = m
  · subst hnm
    have hnn : (n == n) = true := by simp
    have HWV : Hid (∀ zs : List Nat, val zs = val xs + val ys → wv n zs = wv n xs + wv n ys) := fun zs h => wv_plus h
    generalize wv n xs + wv n ys = Zs at *
    go_wp2_with fail
    have HE := Lib.hid HE.out.drew
    have HW := Lib.hid HW.out.drew
    go_region_held3 (fun W => W.cell? ⟨w.heap.size, 0, none⟩ = some (.bool n) ∧ W.cell? ⟨w.heap.size, 1, none⟩ = some (.slice a la ca) ∧ W.cell? ⟨w.heap.size + 1, 0, none⟩ = some (.bool n) ∧ W.cell? ⟨w.heap.size + 1, 1, none⟩ = some (.slice b lb cb))
      (first | exact HE.out.cells | exact HE.out.kept _ _)
      (first
        | (go_at_call 96; (refine (rplus_any a b la ca lb cb xs ys _ HLA.out HLB.out (by omega) (by omega) (HA.out _ HW.out) (HB.out _ HW.out) HBX.out HBY.out).mono ?_)
           rintro e w1 ⟨v, zs, rfl, hO, hN, hb1⟩
           obtain ⟨a1, c1, rfl, hr1⟩ := own64.form hO
           have hzl : zs.length ≤ 1000001 := by
             refine Nat.le_trans ((hN.len_le (k := la + lb + 1)).2 ?_) (by omega)
             have h1 := val_lt HBX.out
             have h2 := val_lt HBY.out
             have p1 : (18446744073709551616 : Nat) ^ xs.length ≤ 18446744073709551616 ^ (la + lb) := Nat.pow_le_pow_right (by decide) (by rw [HLA.out]; omega)
             have p2 : (18446744073709551616 : Nat) ^ ys.length ≤ 18446744073709551616 ^ (la + lb) := Nat.pow_le_pow_right (by decide) (by rw [HLB.out]; omega)
             rw [Nat.pow_succ]
             omega
           have HZL := Lib.hid hzl
           have HE := Lib.hid (HE.out.below hb1)
           have HW := Lib.hid (HW.out.trans (hb1.mono HW.out.size))
           have HR := Lib.hid hr1
           have HNN := Lib.hid hN
           clear hO hN hr1 hb1 hzl)
        | (go_at_call 67; (refine (r2form_any n _ _ _ _ _ rfl (by have := HZL.out; omega) HR.out HNN.out.bd).mono ?_)
           rintro e w2 ⟨hb2, a2, c2, qs, rfl, hO, hN⟩
           rw [HWV.out _ HNN.out.vl] at hN ⊢
           have HP := Lib.hid (show IPost (Zs) w (.returned (.agg #[.bool (decide (Zs < 0)), .slice a2 qs.length c2])) w2 from ⟨HW.out.trans (hb2.mono HW.out.size), a2, c2, qs, rfl, owns_base hO HW.out.size, hN⟩)
           have HE := Lib.hid (HE.out.below hb2)
           obtain ⟨_, d0, d1, e0, e1⟩ := HE.out.r
           clear hO hN hb2))
    all_goals
      go_wp2
      refine bodyPost_ret (results_WOset1 rfl rfl HE.out.r) rfl ?_
      exact HP.out.set HE.out.r (by omega) _ _
  · have hnn : (n == m) = false := by simpa using hnm
    have HNM := Lib.hid hnm
    clear hnm
    go_wp2_with fail
    refine (rcmpW_any a b la ca lb cb xs ys _ HLA.out HLB.out (by omega) (by omega) (HA.out _ HW.out) (HB.out _ HW.out) HBX.out HBY.out).mono ?_
    rintro e w3 ⟨rfl, hb3⟩
    have HE := Lib.hid (HE.out.below hb3)
    have HW := Lib.hid (HW.out.trans (hb3.mono HW.out.size))
    clear hb3
    by_cases hc : val ys ≤ val xs
    · have hq : decide (cmpI (val xs) (val ys) ≥ 0) = true := by rw [decide_eq_true_iff]; unfold cmpI; split <;> (try split) <;> omega
      have hq2 : decide (0 ≤ cmpI (val xs) (val ys)) = true := hq
      have HWV : Hid (∀ zs : List Nat, val zs = val xs - val ys → wv n zs = wv n xs + wv m ys) := fun zs h => wv_less HNM.out hc h
      have HC := Lib.hid hc
      generalize wv n xs + wv m ys = Zs at *
      clear hc
      generalize cmpI (val xs) (val ys) = cz at *
      obtain ⟨x0, x1, x2, x3⟩ := HE.out.cells
      go_wp2_with fail
      clear x0 x1 x2 x3
      have HE := Lib.hid HE.out.drew
      have HW := Lib.hid HW.out.drew
      go_region_held3 (fun W => W.cell? ⟨w.heap.size, 0, none⟩ = some (.bool n) ∧ W.cell? ⟨w.heap.size, 1, none⟩ = some (.slice a la ca) ∧ W.cell? ⟨w.heap.size + 1, 0, none⟩ = some (.bool m) ∧ W.cell? ⟨w.heap.size + 1, 1, none⟩ = some (.slice b lb cb))
        (first | exact HE.out.cells | exact HE.out.kept _ _)
        (first
          | (go_at_call 97; (refine (rminusW_any a b la ca lb cb xs ys _ HLA.out HLB.out (by omega) (by omega) (HA.out _ HW.out) (HB.out _ HW.out) HBX.out HBY.out HC.out).mono ?_)
             rintro e w1 ⟨v, zs, rfl, hO, hN, hb1⟩
             obtain ⟨a1, c1, rfl, hr1⟩ := own64.form hO
             have hzl : zs.length ≤ 1000001 := by
               refine Nat.le_trans ((hN.len_le (k := la)).2 ?_) (by omega)
               have h1 := val_lt HBX.out
               rw [HLA.out] at h1
               omega
             have HZL := Lib.hid hzl
             have HE := Lib.hid (HE.out.below hb1)
             have HW := Lib.hid (HW.out.trans (hb1.mono HW.out.size))
             have HR := Lib.hid hr1
             have HNN := Lib.hid hN
             clear hO hN hr1 hb1 hzl)
          | (go_at_call 67; (refine (r2form_any n _ _ _ _ _ rfl (by have := HZL.out; omega) HR.out HNN.out.bd).mono ?_)
             rintro e w2 ⟨hb2, a2, c2, qs, rfl, hO, hN⟩
             rw [HWV.out _ HNN.out.vl] at hN ⊢
             have HP := Lib.hid (show IPost (Zs) w (.returned (.agg #[.bool (decide (Zs < 0)), .slice a2 qs.length c2])) w2 from ⟨HW.out.trans (hb2.mono HW.out.size), a2, c2, qs, rfl, owns_base hO HW.out.size, hN⟩)
             have HE := Lib.hid (HE.out.below hb2)
             obtain ⟨_, d0, d1, e0, e1⟩ := HE.out.r
             clear hO hN hb2))
      all_goals
        go_wp2
        refine bodyPost_ret (results_WOset1 rfl rfl HE.out.r) rfl ?_
        exact HP.out.set HE.out.r (by omega) _ _
    · have hq : decide (cmpI (val xs) (val ys) ≥ 0) = false := by rw [decide_eq_false_iff_not]; unfold cmpI; split <;> (try split) <;> omega
      have hq2 : decide (0 ≤ cmpI (val xs) (val ys)) = false := hq
      have hc : val xs ≤ val ys := by omega
      have HWV : Hid (∀ zs : List Nat, val zs = val ys - val xs → wv m zs = wv n xs + wv m ys) := fun zs h => wv_less2 HNM.out hc h
      have HC := Lib.hid hc
      generalize wv n xs + wv m ys = Zs at *
      clear hc
      generalize cmpI (val xs) (val ys) = cz at *
      obtain ⟨x0, x1, x2, x3⟩ := HE.out.cells
      go_wp2_with fail
      clear x0 x1 x2 x3
      have HE := Lib.hid HE.out.drew
      have HW := Lib.hid HW.out.drew
      go_region_held3 (fun W => W.cell? ⟨w.heap.size, 0, none⟩ = some (.bool n) ∧ W.cell? ⟨w.heap.size, 1, none⟩ = some (.slice a la ca) ∧ W.cell? ⟨w.heap.size + 1, 0, none⟩ = some (.bool m) ∧ W.cell? ⟨w.heap.size + 1, 1, none⟩ = some (.slice b lb cb))
        (first | exact HE.out.cells | exact HE.out.kept _ _)
        (first
          | (go_at_call 97; (refine (rminusW_any b a lb cb la ca ys xs _ HLB.out HLA.out (by omega) (by omega) (HB.out _ HW.out) (HA.out _ HW.out) HBY.out HBX.out HC.out).mono ?_)
             rintro e w1 ⟨v, zs, rfl, hO, hN, hb1⟩
             obtain ⟨a1, c1, rfl, hr1⟩ := own64.form hO
             have hzl : zs.length ≤ 1000001 := by
               refine Nat.le_trans ((hN.len_le (k := lb)).2 ?_) (by omega)
               have h1 := val_lt HBY.out
               rw [HLB.out] at h1
               omega
             have HZL := Lib.hid hzl
             have HE := Lib.hid (HE.out.below hb1)
             have HW := Lib.hid (HW.out.trans (hb1.mono HW.out.size))
             have HR := Lib.hid hr1
             have HNN := Lib.hid hN
             clear hO hN hr1 hb1 hzl)
          | (go_at_call 67; (refine (r2form_any m _ _ _ _ _ rfl (by have := HZL.out; omega) HR.out HNN.out.bd).mono ?_)
             rintro e w2 ⟨hb2, a2, c2, qs, rfl, hO, hN⟩
             rw [HWV.out _ HNN.out.vl] at hN ⊢
             have HP := Lib.hid (show IPost (Zs) w (.returned (.agg #[.bool (decide (Zs < 0)), .slice a2 qs.length c2])) w2 from ⟨HW.out.trans (hb2.mono HW.out.size), a2, c2, qs, rfl, owns_base hO HW.out.size, hN⟩)
             have HE := Lib.hid (HE.out.below hb2)
             obtain ⟨_, d0, d1, e0, e1⟩ := HE.out.r
             clear hO hN hb2))
      all_goals
        go_wp2
        refine bodyPost_ret (results_WOset1 rfl rfl HE.out.r) rfl ?_
        exact HP.out.set HE.out.r (by omega) _ _

theorem wv_not (n : Bool) (xs : List Nat) : wv (!n) xs = - wv n xs := by unfold wv; cases n <;> simp

set_option maxHeartbeats 1000000 in
theorem r2turned_any (n : Bool) (a : Option Addr) (la ca : Nat) (xs : List Nat) (w : World) (hla : xs.length = la) (hba : la ≤ 1048576) (hra : Rd .u64 w a xs) (bx : Bd xs) :
    Calls Tryz.prog 74 #[.agg #[.bool n, .slice a la ca]] w (IPost (- wv n xs) w) := by
  have HBX := Lib.hid bx
  have HA := Lib.hid (fun (W : World) (h : Below w.heap.size w W) => hra.below h)
  clear hra bx
  go_enter Tryz.func74, Tryz.ntmps74
  have HB0 := Lib.hid (show Below w.heap.size w ((w.alloc (WO n a la ca)).alloc (WO false none 0 0)) from ((Below.refl _ _).alloc (Nat.le_refl _) _).alloc (by simp) _)
  have hx1 := Lib.hid (show ((w.alloc (WO n a la ca)).alloc (WO false none 0 0)).heap[w.heap.size + 1]? = some (WO false none 0 0) by have := heap_new (w.alloc (WO n a la ca)) (WO false none 0 0); simpa using this)
  go_wp2_with fail
  refine (r2form_any (!n) a la ca xs _ hla hba (HA.out _ HB0.out) HBX.out).mono ?_
  rintro e w2 ⟨hb2, a2, c2, qs, rfl, hO, hN⟩
  rw [wv_not] at hN ⊢
  have HR : Hid (RBlk w2 (w.heap.size + 1)) := (rblk hx1.out).below hb2
  have HP := Lib.hid (show IPost (- wv n xs) w (.returned (.agg #[.bool (decide (- wv n xs < 0)), .slice a2 qs.length c2])) w2 from ⟨HB0.out.trans (hb2.mono HB0.out.size), a2, c2, qs, rfl, owns_base hO HB0.out.size, hN⟩)
  obtain ⟨_, d0, d1, e0, e1⟩ := HR.out
  clear hO hN hb2
  generalize - wv n xs = Zs at *
  go_wp2
  refine bodyPost_ret (results_WOset1 rfl rfl HR.out) rfl ?_
  exact HP.out.set HR.out (Nat.le_succ _) _ _

set_option maxHeartbeats 1000000 in
/-- A number, or ErrLimit. -/
theorem r2told_any (n : Bool) (a : Option Addr) (la ca : Nat) (xs : List Nat) (w : World) (hla : xs.length = la) (hba : la ≤ 1048576) (hra : Rd .u64 w a xs) (bx : Bd xs) :
    Calls Tryz.prog 72 #[.agg #[.bool n, .slice a la ca]] w (WPost True (wv n xs) w) := by
  have HBX := Lib.hid bx
  have HA := Lib.hid (fun (W : World) (h : Below w.heap.size w W) => hra.below h)
  clear hra bx
  go_enter Tryz.func72, Tryz.ntmps72
  have HB0 := Lib.hid (show Below w.heap.size w ((w.alloc (WO n a la ca)).alloc (WO false none 0 0)) from ((Below.refl _ _).alloc (Nat.le_refl _) _).alloc (by simp) _)
  have hx0 := Lib.hid (heap_kept (heap_new w (WO n a la ca)) (WO false none 0 0))
  have hx1 := Lib.hid (show ((w.alloc (WO n a la ca)).alloc (WO false none 0 0)).heap[w.heap.size + 1]? = some (WO false none 0 0) by have := heap_new (w.alloc (WO n a la ca)) (WO false none 0 0); simpa using this)
  go_wp2_with fail
  refine (r2fits_any n a la ca xs _ hla hba (HA.out _ HB0.out) HBX.out).mono ?_
  rintro e w2 ⟨rfl, hb2⟩
  have HR : Hid (RBlk w2 (w.heap.size + 1)) := (rblk hx1.out).below hb2
  have hbb : w2.heap[w.heap.size]? = some (WO n a la ca) := by rw [hb2.block _ (lt_of_block hx0.out)]; exact hx0.out
  have HBB := Lib.hid hbb
  have HB2 := Lib.hid (HB0.out.trans (hb2.mono HB0.out.size))
  clear hb2 hbb
  by_cases hf : val xs < LIM
  · rw [decide_eq_true hf]
    have HF := Lib.hid hf
    clear hf
    obtain ⟨c0, c1, -, -⟩ := wo_cells HBB.out
    go_wp2_with fail
    clear c0 c1
    refine (r2form_any n a la ca xs _ hla hba (HA.out _ HB2.out) HBX.out).mono ?_
    rintro e w3 ⟨hb3, a2, c2, qs, rfl, hO, hN⟩
    have HR := Lib.hid (HR.out.below hb3)
    have HP := Lib.hid (show WPost True (wv n xs) w (.returned (.tuple #[.agg #[.bool (decide (wv n xs < 0)), .slice a2 qs.length c2], .int .i64 0])) w3 from ⟨HB2.out.trans (hb3.mono HB2.out.size), .inr ⟨trivial, by rw [wv_abs]; exact HF.out, a2, c2, qs, rfl, owns_base hO HB2.out.size, hN⟩⟩)
    obtain ⟨_, d0, d1, e0, e1⟩ := HR.out
    clear hO hN hb3
    generalize wv n xs = Zs at *
    go_wp2
    refine bodyPost_ret (results_WOset rfl rfl rfl HR.out) rfl ?_
    exact HP.out.set HR.out (Nat.le_succ _) _ _
  · rw [decide_eq_false hf]
    have HP := Lib.hid (show WPost True (wv n xs) w (.returned (.tuple #[.agg #[.bool false, .slice none 0 0], .int .i64 3])) w2 from ⟨HB2.out, .inl ⟨fun h => hf (by have := h.2; rw [wv_abs] at this; exact this), rfl⟩⟩)
    clear hf
    obtain ⟨_, d0, d1, e0, e1⟩ := HR.out
    generalize wv n xs = Zs at *
    go_wp2
    refine bodyPost_ret (results_WOset rfl rfl rfl HR.out) rfl ?_
    exact HP.out.set HR.out (Nat.le_succ _) _ _

set_option maxHeartbeats 1000000 in
theorem r2sign_any (n : Bool) (a : Option Addr) (la ca : Nat) (xs : List Nat) (w : World) (hla : xs.length = la) (hba : la ≤ 1048576) (hra : Rd .u64 w a xs) (bx : Bd xs) :
    Calls Tryz.prog 34 #[.agg #[.bool n, .slice a la ca]] w fun e w' => e = .returned (.int .i64 (sg (wv n xs))) ∧ Below w.heap.size w w' := by
  have HBX := Lib.hid bx
  have HA := Lib.hid (fun (W : World) (h : Below w.heap.size w W) => hra.below h)
  clear hra bx
  obtain ⟨Z, hZ⟩ : ∃ Z, wv n xs = Z := ⟨_, rfl⟩
  rw [hZ]
  have HZE := Lib.hid hZ
  clear hZ
  go_enter Tryz.func34, Tryz.ntmps34
  have HB0 := Lib.hid (show Below w.heap.size w (w.alloc (WO n a la ca)) from (Below.refl _ _).alloc (Nat.le_refl _) _)
  go_wp2_with fail
  refine (r2form_any n a la ca xs _ hla hba (HA.out _ HB0.out) HBX.out).mono ?_
  rw [HZE.out]
  rintro e w2 ⟨hb2, a2, c2, qs, rfl, hO, hN⟩
  have hz : qs.length = 0 ↔ Z = 0 := by
    have := hN.len_le (k := 0)
    constructor
    · intro h; have := this.1 (by omega); omega
    · intro h; have := this.2 (by rw [h]; decide); omega
  have HB2 := Lib.hid (HB0.out.trans (hb2.mono HB0.out.size))
  have HB3 := Lib.hid (HB2.out.alloc HB2.out.size (WO (decide (Z < 0)) a2 qs.length c2))
  clear hO hN hb2
  obtain ⟨l, hl⟩ : ∃ l, qs.length = l := ⟨_, rfl⟩
  rw [hl] at hz HB3 ⊢
  clear hl
  by_cases h0 : Z = 0
  · obtain rfl : l = 0 := hz.2 h0
    subst h0
    clear hz
    go_wp2
    go_ret
    exact ⟨rfl, HB3.out⟩
  · have hl0 : l ≠ 0 := fun h => h0 (hz.1 h)
    have hq : ((l : Int) == 0) = false := by simp; omega
    have HZ0 := Lib.hid h0
    clear hz hl0
    by_cases hn : Z < 0
    · have hs : sg Z = -1 := by unfold sg; rw [if_neg h0, if_pos hn]
      have HS := Lib.hid hs
      rw [decide_eq_true hn] at HB3 ⊢
      clear h0 hn hs
      go_wp2
      go_ret
      exact ⟨by rw [HS.out]; rfl, HB3.out⟩
    · have hs : sg Z = 1 := by unfold sg; rw [if_neg h0, if_neg hn]
      have HS := Lib.hid hs
      rw [decide_eq_false hn] at HB3 ⊢
      clear h0 hn hs
      go_wp2
      go_ret
      exact ⟨by rw [HS.out]; rfl, HB3.out⟩

theorem wv_back {Z : Int} {zs : List Nat} (h : Num zs Z.natAbs) : wv (decide (Z < 0)) zs = Z := by
  unfold wv
  rw [h.vl]
  by_cases hz : Z < 0
  · rw [decide_eq_true hz]; simp only [if_true]; omega
  · rw [decide_eq_false hz]; simp; omega
set_option exponentiation.threshold 300 in
theorem lim_two {x y : Nat} (hx : x < LIM) (hy : y < LIM) : x + y < 18446744073709551616 ^ 200 ∧ x * y < 18446744073709551616 ^ 200 := by
  have h1 : LIM * LIM ≤ 18446744073709551616 ^ 200 := by unfold LIM; rw [← Nat.pow_add]; exact Nat.pow_le_pow_right (by decide) (by decide)
  have h2 : 2 ≤ LIM := by unfold LIM; decide
  have h3 : 2 * LIM ≤ LIM * LIM := Nat.mul_le_mul_right _ h2
  exact ⟨by omega, Nat.lt_of_lt_of_le (Nat.mul_lt_mul'' hx hy) h1⟩
theorem WPost.form {P : Prop} {Z : Int} {w w' : World} {e : Ending} (h : WPost P Z w e w') : ∃ s a l c k, e = .returned (.tuple #[.agg #[.bool s, .slice a l c], .int .i64 k]) := by
  rcases h.2 with ⟨_, rfl⟩ | ⟨_, _, a, c, zs, rfl, _⟩
  · exact ⟨_, _, _, _, _, rfl⟩
  · exact ⟨_, _, _, _, _, rfl⟩
theorem WPost.up {P : Prop} {Z : Int} {w w0 w' : World} {e : Ending} (h : WPost True Z w e w') (hP : P) (hb : Below w0.heap.size w0 w) : WPost P Z w0 e w' := by
  refine ⟨hb.trans (h.1.mono hb.size), ?_⟩
  rcases h.2 with ⟨h1, h2⟩ | ⟨_, h1, a, c, zs, h2, h3, h4⟩
  · exact .inl ⟨fun h => h1 ⟨trivial, h.2⟩, h2⟩
  · exact .inr ⟨hP, h1, a, c, zs, h2, owns_base h3 hb.size, h4⟩

set_option maxHeartbeats 4000000 in
set_option maxRecDepth 100000 in
theorem r2add_any (n m : Bool) (a b : Option Addr) (la ca lb cb : Nat) (xs ys : List Nat) (w : World) (hla : xs.length = la) (hlb : ys.length = lb) (hba : la ≤ 500000) (hbb : lb ≤ 500000) (hra : Rd .u64 w a xs) (hrb : Rd .u64 w b ys) (bx : Bd xs) (bY : Bd ys) :
    Calls Tryz.prog 23 #[.agg #[.bool n, .slice a la ca], .agg #[.bool m, .slice b lb cb]] w (WPost (val xs < LIM ∧ val ys < LIM) (wv n xs + wv m ys) w) := by
  have HBX := Lib.hid bx
  have HBY := Lib.hid bY
  have HLA := Lib.hid hla
  have HLB := Lib.hid hlb
  have HA := Lib.hid (fun (W : World) (h : Below w.heap.size w W) => hra.below h)
  have HB := Lib.hid (fun (W : World) (h : Below w.heap.size w W) => hrb.below h)
  clear hra hrb bx bY hla hlb
  obtain ⟨Zs, hZs⟩ : ∃ Z, wv n xs + wv m ys = Z := ⟨_, rfl⟩
  rw [hZs]
  have HZS := Lib.hid hZs
  clear hZs
  go_enter Tryz.func23, Tryz.ntmps23
  have HE := Lib.hid (Bx2.new w n m a b la ca lb cb)
  have HW := Lib.hid (below3 w (WO n a la ca) (WO m b lb cb) (WO false none 0 0))
  go_wp2_with fail
  refine (r2fits_any n a la ca xs _ HLA.out (by omega) (HA.out _ HW.out) HBX.out).mono ?_
  rintro e w1 ⟨rfl, hb1⟩
  have HE := Lib.hid (HE.out.below hb1)
  have HW := Lib.hid (HW.out.trans (hb1.mono HW.out.size))
  clear hb1
  by_cases h1 : val xs < LIM
  · rw [decide_eq_true h1]
    have H1 := Lib.hid h1
    clear h1
    obtain ⟨x0, x1, x2, x3⟩ := HE.out.cells
    go_wp2_with fail
    clear x0 x1 x2 x3
    refine (r2fits_any m b lb cb ys _ HLB.out (by omega) (HB.out _ HW.out) HBY.out).mono ?_
    rintro e w2 ⟨rfl, hb2⟩
    have HE := Lib.hid (HE.out.below hb2)
    have HW := Lib.hid (HW.out.trans (hb2.mono HW.out.size))
    clear hb2
    by_cases h2 : val ys < LIM
    · rw [decide_eq_true h2]
      have H2 := Lib.hid h2
      clear h2
      obtain ⟨x0, x1, x2, x3⟩ := HE.out.cells
      go_wp2_with fail
      clear x0 x1 x2 x3
      refine (r2plus_any n m a b la ca lb cb xs ys _ HLA.out HLB.out hba hbb (HA.out _ HW.out) (HB.out _ HW.out) HBX.out HBY.out).mono ?_
      rw [HZS.out]
      rintro e w3 ⟨hb3, a3, c3, zs, rfl, hO, hN⟩
      have hzl : zs.length ≤ 200 := (hN.len_le (k := 200)).2 (by have h3 := lim_two H1.out H2.out; rw [← HZS.out]; have := wv_abs n xs; have := wv_abs m ys; omega)
      have HZL := Lib.hid hzl
      have HR := Lib.hid (own64.rd hO).2
      have HNN := Lib.hid hN
      have HE := Lib.hid (HE.out.below hb3)
      have HW := Lib.hid (HW.out.trans (hb3.mono HW.out.size))
      clear hO hN hb3 hzl
      go_wp2_with fail
      refine (r2told_any _ a3 _ c3 zs _ rfl (by have := HZL.out; omega) HR.out HNN.out.bd).mono ?_
      rw [wv_back HNN.out]
      rintro e w4 hp
      obtain ⟨s4, a4, l4, c4, k4, rfl⟩ := hp.form
      have HP := Lib.hid (hp.up (And.intro H1.out H2.out) HW.out)
      have HE := Lib.hid (HE.out.below hp.1)
      clear hp
      obtain ⟨_, d0, d1, e0, e1⟩ := HE.out.r
      go_wp2
      refine bodyPost_ret (results_WOset rfl rfl rfl HE.out.r) rfl ?_
      exact HP.out.set HE.out.r (by omega) _ _
    · rw [decide_eq_false h2]
      have HP := Lib.hid (show WPost (val xs < LIM ∧ val ys < LIM) Zs w (.returned (.tuple #[.agg #[.bool false, .slice none 0 0], .int .i64 3])) w2 from ⟨HW.out, .inl ⟨fun h => h2 h.1.2, rfl⟩⟩)
      obtain ⟨_, d0, d1, e0, e1⟩ := HE.out.r
      clear h2
      go_wp2
      refine bodyPost_ret (results_WOset rfl rfl rfl HE.out.r) rfl ?_
      exact HP.out.set HE.out.r (by omega) _ _
  · rw [decide_eq_false h1]
    have HP := Lib.hid (show WPost (val xs < LIM ∧ val ys < LIM) Zs w (.returned (.tuple #[.agg #[.bool false, .slice none 0 0], .int .i64 3])) w1 from ⟨HW.out, .inl ⟨fun h => h1 h.1.1, rfl⟩⟩)
    obtain ⟨_, d0, d1, e0, e1⟩ := HE.out.r
    clear h1
    go_wp2
    refine bodyPost_ret (results_WOset rfl rfl rfl HE.out.r) rfl ?_
    exact HP.out.set HE.out.r (by omega) _ _

set_option maxHeartbeats 4000000 in
set_option maxRecDepth 100000 in
theorem r2mul_any (n m : Bool) (a b : Option Addr) (la ca lb cb : Nat) (xs ys : List Nat) (w : World) (hla : xs.length = la) (hlb : ys.length = lb) (hba : la ≤ 500000) (hbb : lb ≤ 500000) (hra : Rd .u64 w a xs) (hrb : Rd .u64 w b ys) (bx : Bd xs) (bY : Bd ys) :
    Calls Tryz.prog 25 #[.agg #[.bool n, .slice a la ca], .agg #[.bool m, .slice b lb cb]] w (WPost (val xs < LIM ∧ val ys < LIM) (wv n xs * wv m ys) w) := by
  have HBX := Lib.hid bx
  have HBY := Lib.hid bY
  have HLA := Lib.hid hla
  have HLB := Lib.hid hlb
  have HA := Lib.hid (fun (W : World) (h : Below w.heap.size w W) => hra.below h)
  have HB := Lib.hid (fun (W : World) (h : Below w.heap.size w W) => hrb.below h)
  clear hra hrb bx bY hla hlb
  obtain ⟨Zs, hZs⟩ : ∃ Z, wv n xs * wv m ys = Z := ⟨_, rfl⟩
  rw [hZs]
  have HZS := Lib.hid hZs
  clear hZs
  go_enter Tryz.func25, Tryz.ntmps25
  have HE := Lib.hid (Bx2.new w n m a b la ca lb cb)
  have HW := Lib.hid (below3 w (WO n a la ca) (WO m b lb cb) (WO false none 0 0))
  go_wp2_with fail
  refine (r2fits_any n a la ca xs _ HLA.out (by omega) (HA.out _ HW.out) HBX.out).mono ?_
  rintro e w1 ⟨rfl, hb1⟩
  have HE := Lib.hid (HE.out.below hb1)
  have HW := Lib.hid (HW.out.trans (hb1.mono HW.out.size))
  clear hb1
  by_cases h1 : val xs < LIM
  · rw [decide_eq_true h1]
    have H1 := Lib.hid h1
    clear h1
    obtain ⟨x0, x1, x2, x3⟩ := HE.out.cells
    go_wp2_with fail
    clear x0 x1 x2 x3
    refine (r2fits_any m b lb cb ys _ HLB.out (by omega) (HB.out _ HW.out) HBY.out).mono ?_
    rintro e w2 ⟨rfl, hb2⟩
    have HE := Lib.hid (HE.out.below hb2)
    have HW := Lib.hid (HW.out.trans (hb2.mono HW.out.size))
    clear hb2
    by_cases h2 : val ys < LIM
    · rw [decide_eq_true h2]
      have H2 := Lib.hid h2
      clear h2
      obtain ⟨x0, x1, x2, x3⟩ := HE.out.cells
      go_wp2_with fail
      clear x0 x1 x2 x3
      refine (r2times_any n m a b la ca lb cb xs ys _ HLA.out HLB.out hba hbb (HA.out _ HW.out) (HB.out _ HW.out) HBX.out HBY.out).mono ?_
      rw [HZS.out]
      rintro e w3 ⟨hb3, a3, c3, zs, rfl, hO, hN⟩
      have hzl : zs.length ≤ 200 := (hN.len_le (k := 200)).2 (by have h3 := lim_two H1.out H2.out; rw [← HZS.out]; rw [Int.natAbs_mul, wv_abs, wv_abs]; exact h3.2)
      have HZL := Lib.hid hzl
      have HR := Lib.hid (own64.rd hO).2
      have HNN := Lib.hid hN
      have HE := Lib.hid (HE.out.below hb3)
      have HW := Lib.hid (HW.out.trans (hb3.mono HW.out.size))
      clear hO hN hb3 hzl
      go_wp2_with fail
      refine (r2told_any _ a3 _ c3 zs _ rfl (by have := HZL.out; omega) HR.out HNN.out.bd).mono ?_
      rw [wv_back HNN.out]
      rintro e w4 hp
      obtain ⟨s4, a4, l4, c4, k4, rfl⟩ := hp.form
      have HP := Lib.hid (hp.up (And.intro H1.out H2.out) HW.out)
      have HE := Lib.hid (HE.out.below hp.1)
      clear hp
      obtain ⟨_, d0, d1, e0, e1⟩ := HE.out.r
      go_wp2
      refine bodyPost_ret (results_WOset rfl rfl rfl HE.out.r) rfl ?_
      exact HP.out.set HE.out.r (by omega) _ _
    · rw [decide_eq_false h2]
      have HP := Lib.hid (show WPost (val xs < LIM ∧ val ys < LIM) Zs w (.returned (.tuple #[.agg #[.bool false, .slice none 0 0], .int .i64 3])) w2 from ⟨HW.out, .inl ⟨fun h => h2 h.1.2, rfl⟩⟩)
      obtain ⟨_, d0, d1, e0, e1⟩ := HE.out.r
      clear h2
      go_wp2
      refine bodyPost_ret (results_WOset rfl rfl rfl HE.out.r) rfl ?_
      exact HP.out.set HE.out.r (by omega) _ _
  · rw [decide_eq_false h1]
    have HP := Lib.hid (show WPost (val xs < LIM ∧ val ys < LIM) Zs w (.returned (.tuple #[.agg #[.bool false, .slice none 0 0], .int .i64 3])) w1 from ⟨HW.out, .inl ⟨fun h => h1 h.1.1, rfl⟩⟩)
    obtain ⟨_, d0, d1, e0, e1⟩ := HE.out.r
    clear h1
    go_wp2
    refine bodyPost_ret (results_WOset rfl rfl rfl HE.out.r) rfl ?_
    exact HP.out.set HE.out.r (by omega) _ _

set_option maxHeartbeats 4000000 in
set_option maxRecDepth 100000 in
theorem r2sub_any (n m : Bool) (a b : Option Addr) (la ca lb cb : Nat) (xs ys : List Nat) (w : World) (hla : xs.length = la) (hlb : ys.length = lb) (hba : la ≤ 500000) (hbb : lb ≤ 500000) (hra : Rd .u64 w a xs) (hrb : Rd .u64 w b ys) (bx : Bd xs) (bY : Bd ys) :
    Calls Tryz.prog 24 #[.agg #[.bool n, .slice a la ca], .agg #[.bool m, .slice b lb cb]] w (WPost (val xs < LIM ∧ val ys < LIM) (wv n xs - wv m ys) w) := by
  have HBX := Lib.hid bx
  have HBY := Lib.hid bY
  have HLA := Lib.hid hla
  have HLB := Lib.hid hlb
  have HA := Lib.hid (fun (W : World) (h : Below w.heap.size w W) => hra.below h)
  have HB := Lib.hid (fun (W : World) (h : Below w.heap.size w W) => hrb.below h)
  clear hra hrb bx bY hla hlb
  obtain ⟨Zs, hZs⟩ : ∃ Z, wv n xs - wv m ys = Z := ⟨_, rfl⟩
  rw [hZs]
  have HZS := Lib.hid hZs
  clear hZs
  go_enter Tryz.func24, Tryz.ntmps24
  have HE := Lib.hid (Bx2.new w n m a b la ca lb cb)
  have HW := Lib.hid (below3 w (WO n a la ca) (WO m b lb cb) (WO false none 0 0))
  go_wp2_with fail
  refine (r2fits_any n a la ca xs _ HLA.out (by omega) (HA.out _ HW.out) HBX.out).mono ?_
  rintro e w1 ⟨rfl, hb1⟩
  have HE := Lib.hid (HE.out.below hb1)
  have HW := Lib.hid (HW.out.trans (hb1.mono HW.out.size))
  clear hb1
  by_cases h1 : val xs < LIM
  · rw [decide_eq_true h1]
    have H1 := Lib.hid h1
    clear h1
    obtain ⟨x0, x1, x2, x3⟩ := HE.out.cells
    go_wp2_with fail
    clear x0 x1 x2 x3
    refine (r2fits_any m b lb cb ys _ HLB.out (by omega) (HB.out _ HW.out) HBY.out).mono ?_
    rintro e w2 ⟨rfl, hb2⟩
    have HE := Lib.hid (HE.out.below hb2)
    have HW := Lib.hid (HW.out.trans (hb2.mono HW.out.size))
    clear hb2
    by_cases h2 : val ys < LIM
    · rw [decide_eq_true h2]
      have H2 := Lib.hid h2
      clear h2
      obtain ⟨x0, x1, x2, x3⟩ := HE.out.cells
      go_wp2_with fail
      clear x0 x1 x2 x3
      have HE := Lib.hid HE.out.drew
      have HW := Lib.hid HW.out.drew
      go_region_held3 (fun W => W.cell? ⟨w.heap.size, 0, none⟩ = some (.bool n) ∧ W.cell? ⟨w.heap.size, 1, none⟩ = some (.slice a la ca) ∧ W.cell? ⟨w.heap.size + 1, 0, none⟩ = some (.bool m) ∧ W.cell? ⟨w.heap.size + 1, 1, none⟩ = some (.slice b lb cb))
        (first | exact HE.out.cells | exact HE.out.kept _ _)
        (first
          | (go_at_call 74; (refine (r2turned_any m b lb cb ys _ HLB.out (by omega) (HB.out _ HW.out) HBY.out).mono ?_)
             rintro e w3 ⟨hb3, a3, c3, zs, rfl, hO, hN⟩
             have hzl : zs.length ≤ lb := by
               refine (hN.len_le (k := lb)).2 ?_
               have h1 := val_lt HBY.out
               rw [HLB.out] at h1
               have := wv_abs m ys
               omega
             have HZL := Lib.hid hzl
             have HR := Lib.hid (own64.rd hO).2
             have HNN := Lib.hid hN
             obtain ⟨s3, hs3⟩ : ∃ s, decide (-wv m ys < 0) = s := ⟨_, rfl⟩
             have HWV3 : Hid (wv s3 zs = -wv m ys) := by show _ = _; rw [← hs3]; exact wv_back hN
             rw [hs3]
             have HE := Lib.hid (HE.out.below hb3)
             have HW := Lib.hid (HW.out.trans (hb3.mono HW.out.size))
             clear hO hN hb3 hzl hs3)
          | (go_at_call 73; (refine (r2plus_any n _ a _ la ca _ _ xs _ _ HLA.out rfl hba (Nat.le_trans HZL.out hbb) (HA.out _ HW.out) HR.out HBX.out HNN.out.bd).mono ?_)
             rw [HWV3.out, ← Int.sub_eq_add_neg, HZS.out]
             rintro e w5 ⟨hb3, a3, c3, ss, rfl, hO, hN⟩
             have hzl : ss.length ≤ 200 := (hN.len_le (k := 200)).2 (by have h3 := lim_two H1.out H2.out; rw [← HZS.out]; have := wv_abs n xs; have := wv_abs m ys; omega)
             have HZL2 := Lib.hid hzl
             have HR2 := Lib.hid (own64.rd hO).2
             have HNN2 := Lib.hid hN
             have HE := Lib.hid (HE.out.below hb3)
             have HW := Lib.hid (HW.out.trans (hb3.mono HW.out.size))
             clear hO hN hb3 hzl)
          | (go_at_call 72; (refine (r2told_any _ _ _ _ _ _ rfl (by have := HZL2.out; omega) HR2.out HNN2.out.bd).mono ?_)
             rw [wv_back HNN2.out]
             rintro e w4 hp
             obtain ⟨s4, a4, l4, c4, k4, rfl⟩ := hp.form
             have HP := Lib.hid (hp.up (And.intro H1.out H2.out) HW.out)
             have HE := Lib.hid (HE.out.below hp.1)
             clear hp
             obtain ⟨_, d0, d1, e0, e1⟩ := HE.out.r))
      all_goals
        go_wp2
        refine bodyPost_ret (results_WOset rfl rfl rfl HE.out.r) rfl ?_
        exact HP.out.set HE.out.r (by omega) _ _
    · rw [decide_eq_false h2]
      have HP := Lib.hid (show WPost (val xs < LIM ∧ val ys < LIM) Zs w (.returned (.tuple #[.agg #[.bool false, .slice none 0 0], .int .i64 3])) w2 from ⟨HW.out, .inl ⟨fun h => h2 h.1.2, rfl⟩⟩)
      obtain ⟨_, d0, d1, e0, e1⟩ := HE.out.r
      clear h2
      go_wp2
      refine bodyPost_ret (results_WOset rfl rfl rfl HE.out.r) rfl ?_
      exact HP.out.set HE.out.r (by omega) _ _
  · rw [decide_eq_false h1]
    have HP := Lib.hid (show WPost (val xs < LIM ∧ val ys < LIM) Zs w (.returned (.tuple #[.agg #[.bool false, .slice none 0 0], .int .i64 3])) w1 from ⟨HW.out, .inl ⟨fun h => h1 h.1.1, rfl⟩⟩)
    obtain ⟨_, d0, d1, e0, e1⟩ := HE.out.r
    clear h1
    go_wp2
    refine bodyPost_ret (results_WOset rfl rfl rfl HE.out.r) rfl ?_
    exact HP.out.set HE.out.r (by omega) _ _

theorem wv_over {n m : Bool} {xs ys zs : List Nat} (h : val zs = val xs / val ys) : wv (n != m) zs = (wv n xs).tdiv (wv m ys) := by
  have e : ((val xs / val ys : Nat) : Int) = (val xs : Int).tdiv (val ys : Int) := by first | exact Int.ofNat_tdiv _ _ | exact Int.natCast_tdiv _ _ | simp
  unfold wv
  rw [h, e]
  cases n <;> cases m <;> simp only [bne_self_eq_false, Bool.false_eq_true, if_false, if_true, Bool.not_false, Bool.bne_false, Bool.bne_true, Int.neg_tdiv, Int.tdiv_neg, Int.neg_neg]

set_option maxHeartbeats 4000000 in
set_option maxRecDepth 100000 in
theorem r2quo_any (n m : Bool) (a b : Option Addr) (la ca lb cb : Nat) (xs ys : List Nat) (w : World) (hla : xs.length = la) (hlb : ys.length = lb) (hba : la ≤ 500000) (hbb : lb ≤ 500000) (hra : Rd .u64 w a xs) (hrb : Rd .u64 w b ys) (bx : Bd xs) (bY : Bd ys) :
    Calls Tryz.prog 26 #[.agg #[.bool n, .slice a la ca], .agg #[.bool m, .slice b lb cb]] w (WTold (WQuoTells (val xs < LIM ∧ val ys < LIM) (val ys) (Int.tdiv (wv n xs) (wv m ys))) w) := by
  have HBX := Lib.hid bx
  have HBY := Lib.hid bY
  have HLA := Lib.hid hla
  have HLB := Lib.hid hlb
  have HA := Lib.hid (fun (W : World) (h : Below w.heap.size w W) => hra.below h)
  have HB := Lib.hid (fun (W : World) (h : Below w.heap.size w W) => hrb.below h)
  clear hra hrb bx bY hla hlb
  obtain ⟨Zs, hZs⟩ : ∃ Z, Int.tdiv (wv n xs) (wv m ys) = Z := ⟨_, rfl⟩
  rw [hZs]
  have HZS := Lib.hid hZs
  clear hZs
  go_enter Tryz.func26, Tryz.ntmps26
  have HE := Lib.hid (Bx2.new w n m a b la ca lb cb)
  have HW := Lib.hid (below3 w (WO n a la ca) (WO m b lb cb) (WO false none 0 0))
  go_wp2_with fail
  refine (r2fits_any n a la ca xs _ HLA.out (by omega) (HA.out _ HW.out) HBX.out).mono ?_
  rintro e w1 ⟨rfl, hb1⟩
  have HE := Lib.hid (HE.out.below hb1)
  have HW := Lib.hid (HW.out.trans (hb1.mono HW.out.size))
  clear hb1
  by_cases h1 : val xs < LIM
  · rw [decide_eq_true h1]
    have H1 := Lib.hid h1
    clear h1
    obtain ⟨x0, x1, x2, x3⟩ := HE.out.cells
    go_wp2_with fail
    clear x0 x1 x2 x3
    refine (r2fits_any m b lb cb ys _ HLB.out (by omega) (HB.out _ HW.out) HBY.out).mono ?_
    rintro e w2 ⟨rfl, hb2⟩
    have HE := Lib.hid (HE.out.below hb2)
    have HW := Lib.hid (HW.out.trans (hb2.mono HW.out.size))
    clear hb2
    by_cases h2 : val ys < LIM
    · rw [decide_eq_true h2]
      have H2 := Lib.hid h2
      clear h2
      obtain ⟨x0, x1, x2, x3⟩ := HE.out.cells
      go_wp2_with fail
      clear x0 x1 x2 x3
      refine (rform_any b lb cb ys _ HLB.out (by omega) (HB.out _ HW.out) HBY.out).mono ?_
      rintro e w3 ⟨v, zs, rfl, hO, hN, hb3⟩
      obtain ⟨a3, c3, rfl, -⟩ := own64.form hO
      have hz : zs.length = 0 ↔ val ys = 0 := by
        have := hN.len_le (k := 0)
        constructor
        · intro h; have := this.1 (by omega); omega
        · intro h; have := this.2 (by rw [h]; decide); omega
      have HE := Lib.hid (HE.out.below hb3)
      have HW := Lib.hid (HW.out.trans (hb3.mono HW.out.size))
      clear hO hN hb3
      obtain ⟨l, hl⟩ : ∃ l, zs.length = l := ⟨_, rfl⟩
      rw [hl] at hz ⊢
      clear hl
      by_cases h0 : l = 0
      · subst h0
        have HP := Lib.hid (show WTold (WQuoTells (val xs < LIM ∧ val ys < LIM) (val ys) Zs) w (.returned (.tuple #[.agg #[.bool false, .slice none 0 0], .int .i64 11])) w3 from ⟨HW.out, false, none, 0, 11, [], rfl, own64_nil _ _, .inr (.inl ⟨⟨H1.out, H2.out⟩, hz.1 rfl, rfl, rfl, rfl⟩)⟩)
        obtain ⟨_, d0, d1, e0, e1⟩ := HE.out.r
        clear hz
        go_wp2
        refine bodyPost_ret (results_WOset rfl rfl rfl HE.out.r) rfl ?_
        exact HP.out.set HE.out.r (by omega) _ _
      · have hq : ((l : Int) == 0) = false := by simp; omega
        have H0 : Hid (0 < val ys) := by show _ < _; have : ¬ val ys = 0 := fun h => h0 (hz.2 h); omega
        clear hz h0
        obtain ⟨x0, x1, x2, x3⟩ := HE.out.cells
        go_wp2_with fail
        clear x0 x1 x2 x3
        refine (rover_any a b la lb ca cb xs ys _ HLA.out HLB.out (by omega) (by omega) (HA.out _ HW.out) (HB.out _ HW.out) HBX.out HBY.out H0.out).mono ?_
        rintro e w4 ⟨q, r, qs, rs, rfl, hOq, hOr, hNq, hNr, hb4⟩
        obtain ⟨aq, cq, rfl, hrq⟩ := own64.form hOq
        obtain ⟨ar, cr, rfl, -⟩ := own64.form hOr
        have hql : qs.length ≤ la := (hNq.len_le (k := la)).2 (by have h1 := val_lt HBX.out; rw [HLA.out] at h1; exact Nat.lt_of_le_of_lt (Nat.div_le_self _ _) h1)
        have HQL := Lib.hid hql
        have HRQ := Lib.hid hrq
        have HNQ := Lib.hid hNq
        have HE := Lib.hid (HE.out.below hb4)
        have HW := Lib.hid (HW.out.trans (hb4.mono HW.out.size))
        clear hOq hOr hNq hNr hb4 hql hrq
        obtain ⟨x0, x1, x2, x3⟩ := HE.out.cells
        go_wp2_with fail
        clear x0 x1 x2 x3
        refine (r2form_any (n != m) aq _ cq qs _ rfl (by have := HQL.out; omega) HRQ.out HNQ.out.bd).mono ?_
        rw [wv_over HNQ.out.vl, HZS.out]
        rintro e w5 ⟨hb5, a5, c5, ss, rfl, hO, hN⟩
        have HP := Lib.hid (show WTold (WQuoTells (val xs < LIM ∧ val ys < LIM) (val ys) Zs) w (.returned (.tuple #[.agg #[.bool (decide (Zs < 0)), .slice a5 ss.length c5], .int .i64 0])) w5 from ⟨HW.out.trans (hb5.mono HW.out.size), _, a5, c5, 0, ss, rfl, owns_base hO HW.out.size, .inr (.inr ⟨⟨H1.out, H2.out⟩, H0.out, rfl, rfl, hN⟩)⟩)
        have HE := Lib.hid (HE.out.below hb5)
        clear hO hN hb5
        obtain ⟨_, d0, d1, e0, e1⟩ := HE.out.r
        go_wp2
        refine bodyPost_ret (results_WOset rfl rfl rfl HE.out.r) rfl ?_
        exact HP.out.set HE.out.r (by omega) _ _
    · rw [decide_eq_false h2]
      have HP := Lib.hid (show WTold (WQuoTells (val xs < LIM ∧ val ys < LIM) (val ys) Zs) w (.returned (.tuple #[.agg #[.bool false, .slice none 0 0], .int .i64 3])) w2 from ⟨HW.out, false, none, 0, 3, [], rfl, own64_nil _ _, .inl ⟨fun h => h2 h.2, rfl, rfl, rfl⟩⟩)
      obtain ⟨_, d0, d1, e0, e1⟩ := HE.out.r
      clear h2
      go_wp2
      refine bodyPost_ret (results_WOset rfl rfl rfl HE.out.r) rfl ?_
      exact HP.out.set HE.out.r (by omega) _ _
  · rw [decide_eq_false h1]
    have HP := Lib.hid (show WTold (WQuoTells (val xs < LIM ∧ val ys < LIM) (val ys) Zs) w (.returned (.tuple #[.agg #[.bool false, .slice none 0 0], .int .i64 3])) w1 from ⟨HW.out, false, none, 0, 3, [], rfl, own64_nil _ _, .inl ⟨fun h => h1 h.1, rfl, rfl, rfl⟩⟩)
    obtain ⟨_, d0, d1, e0, e1⟩ := HE.out.r
    clear h1
    go_wp2
    refine bodyPost_ret (results_WOset rfl rfl rfl HE.out.r) rfl ?_
    exact HP.out.set HE.out.r (by omega) _ _

set_option maxHeartbeats 1000000 in
theorem r2make_any (n : Bool) (a : Option Addr) (la ca : Nat) (xs : List Nat) (w : World) (hla : xs.length = la) (hba : la ≤ 1048576) (hra : Rd .u64 w a xs) (bx : Bd xs) :
    Calls Tryz.prog 29 #[.bool n, .slice a la ca] w (WPost True (wv n xs) w) := by
  have HBX := Lib.hid bx
  have HA := Lib.hid (fun (W : World) (h : Below w.heap.size w W) => hra.below h)
  clear hra bx
  obtain ⟨Zs, hZs⟩ : ∃ Z, wv n xs = Z := ⟨_, rfl⟩
  rw [hZs]
  have HZS := Lib.hid hZs
  clear hZs
  go_enter Tryz.func29, Tryz.ntmps29
  have HB0 := Lib.hid (show Below w.heap.size w (w.alloc (WO false none 0 0)) from (Below.refl _ _).alloc (Nat.le_refl _) _)
  have hx0 := Lib.hid (heap_new w (WO false none 0 0))
  go_wp2_with fail
  refine (r2told_any n a la ca xs _ hla hba (HA.out _ HB0.out) HBX.out).mono ?_
  rw [HZS.out]
  rintro e w4 hp
  obtain ⟨s4, a4, l4, c4, k4, rfl⟩ := hp.form
  have HP := Lib.hid (hp.up trivial HB0.out)
  have HR : Hid (RBlk w4 w.heap.size) := (rblk hx0.out).below hp.1
  clear hp
  obtain ⟨_, d0, d1, e0, e1⟩ := HR.out
  go_wp2
  refine bodyPost_ret (results_WOset rfl rfl rfl HR.out) rfl ?_
  exact HP.out.set HR.out (Nat.le_refl _) _ _

set_option maxHeartbeats 1000000 in
theorem r2neg_any (n : Bool) (a : Option Addr) (la ca : Nat) (xs : List Nat) (w : World) (hla : xs.length = la) (hba : la ≤ 1048576) (hra : Rd .u64 w a xs) (bx : Bd xs) :
    Calls Tryz.prog 28 #[.agg #[.bool n, .slice a la ca]] w (WPost (val xs < LIM) (- wv n xs) w) := by
  have HBX := Lib.hid bx
  have HA := Lib.hid (fun (W : World) (h : Below w.heap.size w W) => hra.below h)
  clear hra bx
  obtain ⟨Zs, hZs⟩ : ∃ Z, - wv n xs = Z := ⟨_, rfl⟩
  rw [hZs]
  have HZS := Lib.hid hZs
  clear hZs
  go_enter Tryz.func28, Tryz.ntmps28
  have HB0 := Lib.hid (show Below w.heap.size w ((w.alloc (WO n a la ca)).alloc (WO false none 0 0)) from ((Below.refl _ _).alloc (Nat.le_refl _) _).alloc (by simp) _)
  have hx0 := Lib.hid (heap_kept (heap_new w (WO n a la ca)) (WO false none 0 0))
  have hx1 := Lib.hid (show ((w.alloc (WO n a la ca)).alloc (WO false none 0 0)).heap[w.heap.size + 1]? = some (WO false none 0 0) by have := heap_new (w.alloc (WO n a la ca)) (WO false none 0 0); simpa using this)
  go_wp2_with fail
  refine (r2fits_any n a la ca xs _ hla hba (HA.out _ HB0.out) HBX.out).mono ?_
  rintro e w2 ⟨rfl, hb2⟩
  have HR : Hid (RBlk w2 (w.heap.size + 1)) := (rblk hx1.out).below hb2
  have hbb : w2.heap[w.heap.size]? = some (WO n a la ca) := by rw [hb2.block _ (lt_of_block hx0.out)]; exact hx0.out
  have HBB := Lib.hid hbb
  have HB2 := Lib.hid (HB0.out.trans (hb2.mono HB0.out.size))
  clear hb2 hbb
  by_cases hf : val xs < LIM
  · rw [decide_eq_true hf]
    have HF := Lib.hid hf
    clear hf
    obtain ⟨c0, c1, -, -⟩ := wo_cells HBB.out
    go_wp2_with fail
    clear c0 c1
    refine (r2turned_any n a la ca xs _ hla hba (HA.out _ HB2.out) HBX.out).mono ?_
    rw [HZS.out]
    rintro e w3 ⟨hb3, a2, c2, qs, rfl, hO, hN⟩
    have HR := Lib.hid (HR.out.below hb3)
    have HP := Lib.hid (show WPost (val xs < LIM) Zs w (.returned (.tuple #[.agg #[.bool (decide (Zs < 0)), .slice a2 qs.length c2], .int .i64 0])) w3 from ⟨HB2.out.trans (hb3.mono HB2.out.size), .inr ⟨HF.out, by rw [← HZS.out, Int.natAbs_neg, wv_abs]; exact HF.out, a2, c2, qs, rfl, owns_base hO HB2.out.size, hN⟩⟩)
    obtain ⟨_, d0, d1, e0, e1⟩ := HR.out
    clear hO hN hb3
    go_wp2
    refine bodyPost_ret (results_WOset rfl rfl rfl HR.out) rfl ?_
    exact HP.out.set HR.out (Nat.le_succ _) _ _
  · rw [decide_eq_false hf]
    have HP := Lib.hid (show WPost (val xs < LIM) Zs w (.returned (.tuple #[.agg #[.bool false, .slice none 0 0], .int .i64 3])) w2 from ⟨HB2.out, .inl ⟨fun h => hf h.1, rfl⟩⟩)
    clear hf
    obtain ⟨_, d0, d1, e0, e1⟩ := HR.out
    go_wp2
    refine bodyPost_ret (results_WOset rfl rfl rfl HR.out) rfl ?_
    exact HP.out.set HR.out (Nat.le_succ _) _ _

/-- Two numbers in their boxes. -/
def Bx0 (B : Nat) (n : Bool) (a : Option Addr) (la ca : Nat) (m : Bool) (b : Option Addr) (lb cb : Nat) (W : World) : Prop :=
  W.heap[B]? = some (WO n a la ca) ∧ W.heap[B + 1]? = some (WO m b lb cb)
theorem Bx0.below {B : Nat} {n m : Bool} {a b : Option Addr} {la ca lb cb : Nat} {W W' : World} (h : Bx0 B n a la ca m b lb cb W) (hb : Below W.heap.size W W') : Bx0 B n a la ca m b lb cb W' :=
  ⟨by rw [hb.block _ (lt_of_block h.1)]; exact h.1, by rw [hb.block _ (lt_of_block h.2)]; exact h.2⟩
theorem Bx0.cells {B : Nat} {n m : Bool} {a b : Option Addr} {la ca lb cb : Nat} {W : World} (h : Bx0 B n a la ca m b lb cb W) : W.cell? ⟨B, 0, none⟩ = some (.bool n) ∧ W.cell? ⟨B, 1, none⟩ = some (.slice a la ca) ∧ W.cell? ⟨B + 1, 0, none⟩ = some (.bool m) ∧ W.cell? ⟨B + 1, 1, none⟩ = some (.slice b lb cb) :=
  ⟨(wo_cells h.1).1, (wo_cells h.1).2.1, (wo_cells h.2).1, (wo_cells h.2).2.1⟩
theorem Bx0.new (w : World) (n m : Bool) (a b : Option Addr) (la ca lb cb : Nat) : Bx0 w.heap.size n a la ca m b lb cb ((w.alloc (WO n a la ca)).alloc (WO m b lb cb)) := by
  have e1 : (w.alloc (WO n a la ca)).heap.size = w.heap.size + 1 := by simp
  have h1 := heap_new (w.alloc (WO n a la ca)) (WO m b lb cb)
  rw [e1] at h1
  exact ⟨heap_kept (heap_new w _) _, h1⟩

set_option maxHeartbeats 4000000 in
set_option maxRecDepth 100000 in
theorem r2cmp_any (n m : Bool) (a b : Option Addr) (la ca lb cb : Nat) (xs ys : List Nat) (w : World) (hla : xs.length = la) (hlb : ys.length = lb) (hba : la ≤ 500000) (hbb : lb ≤ 500000) (hra : Rd .u64 w a xs) (hrb : Rd .u64 w b ys) (bx : Bd xs) (bY : Bd ys) :
    Calls Tryz.prog 32 #[.agg #[.bool n, .slice a la ca], .agg #[.bool m, .slice b lb cb]] w fun e w' => e = .returned (.int .i64 (sg (wv n xs - wv m ys))) ∧ Below w.heap.size w w' := by
  have HBX := Lib.hid bx
  have HBY := Lib.hid bY
  have HLA := Lib.hid hla
  have HLB := Lib.hid hlb
  have HA := Lib.hid (fun (W : World) (h : Below w.heap.size w W) => hra.below h)
  have HB := Lib.hid (fun (W : World) (h : Below w.heap.size w W) => hrb.below h)
  clear hra hrb bx bY hla hlb
  obtain ⟨Zs, hZs⟩ : ∃ Z, wv n xs - wv m ys = Z := ⟨_, rfl⟩
  rw [hZs]
  have HZS := Lib.hid hZs
  clear hZs
  go_enter Tryz.func32, Tryz.ntmps32
  have HE := Lib.hid (Bx0.new w n m a b la ca lb cb)
  have HW := Lib.hid (show Below w.heap.size w ((w.alloc (WO n a la ca)).alloc (WO m b lb cb)) from ((Below.refl _ _).alloc (Nat.le_refl _) _).alloc (by simp) _)
  go_wp2_with fail
  have HE := Lib.hid (HE.out.below (Below.refl _ _).drew)
  have HW := Lib.hid HW.out.drew
  go_region_held3 (fun W => W.cell? ⟨w.heap.size, 0, none⟩ = some (.bool n) ∧ W.cell? ⟨w.heap.size, 1, none⟩ = some (.slice a la ca) ∧ W.cell? ⟨w.heap.size + 1, 0, none⟩ = some (.bool m) ∧ W.cell? ⟨w.heap.size + 1, 1, none⟩ = some (.slice b lb cb))
    (exact HE.out.cells)
    (first
      | (go_at_call 74; (refine (r2turned_any m b lb cb ys _ HLB.out (by omega) (HB.out _ HW.out) HBY.out).mono ?_)
         rintro e w3 ⟨hb3, a3, c3, zs, rfl, hO, hN⟩
         have hzl : zs.length ≤ lb := by
           refine (hN.len_le (k := lb)).2 ?_
           have h1 := val_lt HBY.out
           rw [HLB.out] at h1
           have := wv_abs m ys
           omega
         have HZL := Lib.hid hzl
         have HR := Lib.hid (own64.rd hO).2
         have HNN := Lib.hid hN
         obtain ⟨s3, hs3⟩ : ∃ s, decide (-wv m ys < 0) = s := ⟨_, rfl⟩
         have HWV3 : Hid (wv s3 zs = -wv m ys) := by show _ = _; rw [← hs3]; exact wv_back hN
         rw [hs3]
         have HE := Lib.hid (HE.out.below hb3)
         have HW := Lib.hid (HW.out.trans (hb3.mono HW.out.size))
         clear hO hN hb3 hzl hs3)
      | (go_at_call 73; (refine (r2plus_any n _ a _ la ca _ _ xs _ _ HLA.out rfl hba (Nat.le_trans HZL.out hbb) (HA.out _ HW.out) HR.out HBX.out HNN.out.bd).mono ?_)
         rw [HWV3.out, ← Int.sub_eq_add_neg, HZS.out]
         rintro e w5 ⟨hb3, a3, c3, ss, rfl, hO, hN⟩
         have hzl : ss.length ≤ la + lb + 1 := by
           refine (hN.len_le (k := la + lb + 1)).2 ?_
           have h1 := val_lt HBX.out
           have h2 := val_lt HBY.out
           have p1 : (18446744073709551616 : Nat) ^ xs.length ≤ 18446744073709551616 ^ (la + lb) := Nat.pow_le_pow_right (by decide) (by rw [HLA.out]; omega)
           have p2 : (18446744073709551616 : Nat) ^ ys.length ≤ 18446744073709551616 ^ (la + lb) := Nat.pow_le_pow_right (by decide) (by rw [HLB.out]; omega)
           have := wv_abs n xs
           have := wv_abs m ys
           rw [← HZS.out, Nat.pow_succ]
           omega
         have HZL2 := Lib.hid hzl
         have HR2 := Lib.hid (own64.rd hO).2
         have HNN2 := Lib.hid hN
         obtain ⟨s5, hs5⟩ : ∃ s, decide (Zs < 0) = s := ⟨_, rfl⟩
         have HWV5 : Hid (wv s5 ss = Zs) := by show _ = _; rw [← hs5]; exact wv_back hN
         rw [hs5]
         have HE := Lib.hid (HE.out.below hb3)
         have HW := Lib.hid (HW.out.trans (hb3.mono HW.out.size))
         clear hO hN hb3 hzl hs5)
      | (go_at_call 34; (refine (r2sign_any _ _ _ _ _ _ rfl (by have := HZL2.out; omega) HR2.out HNN2.out.bd).mono ?_)
         rw [HWV5.out]
         rintro e w6 ⟨rfl, hb3⟩
         have HE := Lib.hid (HE.out.below hb3)
         have HW := Lib.hid (HW.out.trans (hb3.mono HW.out.size))
         clear hb3))
  all_goals
    go_wp2
    go_ret
    exact ⟨rfl, HW.out⟩

theorem Bx2.six {B g : Nat} {n m p : Bool} {a b q : Option Addr} {la ca lb cb lq cq : Nat} {W : World} (h : Bx2 B n a la ca m b lb cb W) (h2 : W.heap[g]? = some (WO p q lq cq)) : W.cell? ⟨B, 0, none⟩ = some (.bool n) ∧ W.cell? ⟨B, 1, none⟩ = some (.slice a la ca) ∧ W.cell? ⟨B + 1, 0, none⟩ = some (.bool m) ∧ W.cell? ⟨B + 1, 1, none⟩ = some (.slice b lb cb) ∧ W.cell? ⟨g, 0, none⟩ = some (.bool p) ∧ W.cell? ⟨g, 1, none⟩ = some (.slice q lq cq) :=
  ⟨h.cells.1, h.cells.2.1, h.cells.2.2.1, h.cells.2.2.2, (wo_cells h2).1, (wo_cells h2).2.1⟩
theorem Bx2.six' {B g : Nat} {n m p : Bool} {a b q : Option Addr} {la ca lb cb lq cq : Nat} {W : World} (h : Bx2 B n a la ca m b lb cb W) (h2 : W.heap[g]? = some (WO p q lq cq)) (hg : B + 1 + 1 < g) (u0 u1 : Value) : ((W.setCell ⟨B + 1 + 1, 0, none⟩ u0).setCell ⟨B + 1 + 1, 1, none⟩ u1).cell? ⟨B, 0, none⟩ = some (.bool n) ∧ ((W.setCell ⟨B + 1 + 1, 0, none⟩ u0).setCell ⟨B + 1 + 1, 1, none⟩ u1).cell? ⟨B, 1, none⟩ = some (.slice a la ca) ∧ ((W.setCell ⟨B + 1 + 1, 0, none⟩ u0).setCell ⟨B + 1 + 1, 1, none⟩ u1).cell? ⟨B + 1, 0, none⟩ = some (.bool m) ∧ ((W.setCell ⟨B + 1 + 1, 0, none⟩ u0).setCell ⟨B + 1 + 1, 1, none⟩ u1).cell? ⟨B + 1, 1, none⟩ = some (.slice b lb cb) ∧ ((W.setCell ⟨B + 1 + 1, 0, none⟩ u0).setCell ⟨B + 1 + 1, 1, none⟩ u1).cell? ⟨g, 0, none⟩ = some (.bool p) ∧ ((W.setCell ⟨B + 1 + 1, 0, none⟩ u0).setCell ⟨B + 1 + 1, 1, none⟩ u1).cell? ⟨g, 1, none⟩ = some (.slice q lq cq) := by
  have hc : Chg (fun k => k = B + 1 + 1) W ((W.setCell ⟨B + 1 + 1, 0, none⟩ u0).setCell ⟨B + 1 + 1, 1, none⟩ u1) := ((Chg.refl (fun k => k = B + 1 + 1) _).setCell (p := ⟨B + 1 + 1, 0, none⟩) rfl _).setCell (p := ⟨B + 1 + 1, 1, none⟩) rfl _
  have g2 := (hc.block g (lt_of_block h2) (by omega)).trans h2
  have k := h.kept u0 u1
  exact ⟨k.1, k.2.1, k.2.2.1, k.2.2.2, (wo_cells g2).1, (wo_cells g2).2.1⟩

set_option maxHeartbeats 4000000 in
set_option maxRecDepth 100000 in
theorem r2rem_any (n m : Bool) (a b : Option Addr) (la ca lb cb : Nat) (xs ys : List Nat) (w : World) (hla : xs.length = la) (hlb : ys.length = lb) (hba : la ≤ 500000) (hbb : lb ≤ 500000) (hra : Rd .u64 w a xs) (hrb : Rd .u64 w b ys) (bx : Bd xs) (bY : Bd ys) :
    Calls Tryz.prog 27 #[.agg #[.bool n, .slice a la ca], .agg #[.bool m, .slice b lb cb]] w (WTold (WQuoTells (val xs < LIM ∧ val ys < LIM) (val ys) (Int.tmod (wv n xs) (wv m ys))) w) := by
  have HBX := Lib.hid bx
  have HBY := Lib.hid bY
  have HLA := Lib.hid hla
  have HLB := Lib.hid hlb
  have HA := Lib.hid (fun (W : World) (h : Below w.heap.size w W) => hra.below h)
  have HB := Lib.hid (fun (W : World) (h : Below w.heap.size w W) => hrb.below h)
  clear hra hrb bx bY hla hlb
  obtain ⟨Zs, hZs⟩ : ∃ Z, Int.tmod (wv n xs) (wv m ys) = Z := ⟨_, rfl⟩
  rw [hZs]
  have HZS := Lib.hid hZs
  clear hZs
  go_enter Tryz.func27, Tryz.ntmps27
  have HE := Lib.hid (Bx2.new w n m a b la ca lb cb)
  have HW := Lib.hid (below3 w (WO n a la ca) (WO m b lb cb) (WO false none 0 0))
  go_wp2_with fail
  refine (r2quo_any n m a b la ca lb cb xs ys _ HLA.out HLB.out hba hbb (HA.out _ HW.out) (HB.out _ HW.out) HBX.out HBY.out).mono ?_
  rintro e w1 ⟨hb1, p, aq, cq, k, qs, rfl, hO, hT⟩
  have hlt : w.heap.size + 1 + 1 < w1.heap.size := by have := hb1.size; simp at this; omega
  have HLT := Lib.hid hlt
  have hlq : ∃ l, qs.length = l := ⟨_, rfl⟩
  obtain ⟨lq, hlq⟩ := hlq
  have HLQ := Lib.hid hlq
  have HRQ := Lib.hid (own64.rd hO).2
  rw [hlq]
  have HE1 := HE.out.below hb1
  have HW1 := HW.out.trans (hb1.mono HW.out.size)
  have HE := Lib.hid (show Bx2 w.heap.size n a la ca m b lb cb (w1.alloc (.cells #[.bool p, .slice aq lq cq] 24)) from HE1.below ((Below.refl _ _).alloc (Nat.le_refl _) _))
  have HW := Lib.hid (show Below w.heap.size w (w1.alloc (.cells #[.bool p, .slice aq lq cq] 24)) from HW1.alloc HW1.size _)
  have HQ := Lib.hid (show (w1.alloc (.cells #[.bool p, .slice aq lq cq] 24)).heap[w1.heap.size]? = some (WO p aq lq cq) from heap_new w1 _)
  have HT := Lib.hid hT
  have HK : Hid (k = 0 ∨ k ≠ 0) := by show _ ∨ _; omega
  clear hb1 hlt hlq hO hT HE1 HW1
  rcases HK.out with rfl | hk
  · have hT : val xs < LIM ∧ val ys < LIM ∧ 0 < val ys ∧ p = decide (Int.tdiv (wv n xs) (wv m ys) < 0) ∧ Num qs (Int.tdiv (wv n xs) (wv m ys)).natAbs := by
      rcases HT.out with ⟨_, h, _⟩ | ⟨_, _, h, _⟩ | ⟨h1, h2, _, h3, h4⟩
      · cases h
      · cases h
      · exact ⟨h1.1, h1.2, h2, h3, h4⟩
    have HH := Lib.hid hT
    have hdv : (Int.tdiv (wv n xs) (wv m ys)).natAbs ≤ val xs := by rw [Int.natAbs_tdiv, wv_abs, wv_abs]; exact Nat.div_le_self _ _
    have HLQ5 : Hid (lq ≤ la) := by
      show _ ≤ _
      rw [← HLQ.out]
      refine (hT.2.2.2.2.len_le (k := la)).2 ?_
      have h1 := val_lt HBX.out
      rw [HLA.out] at h1
      omega
    have HWQ : Hid (wv p qs = Int.tdiv (wv n xs) (wv m ys)) := by show _ = _; rw [hT.2.2.2.1]; exact wv_back hT.2.2.2.2
    have hmv : (wv m ys * Int.tdiv (wv n xs) (wv m ys)).natAbs ≤ val xs := by rw [Int.natAbs_mul, Int.natAbs_tdiv, wv_abs, wv_abs]; exact Nat.mul_div_le _ _
    have HMV := Lib.hid hmv
    clear hT hdv hmv HT HK
    go_wp2_with fail
    have HE := Lib.hid HE.out.drew
    have HW1 := Lib.hid (show Below w1.heap.size w1 (w1.alloc (.cells #[.bool p, .slice aq lq cq] 24)).drew from ((Below.refl _ _).alloc (Nat.le_refl _) _).drew)
    have HRQ1 := Lib.hid (fun (W : World) (h : Below w1.heap.size w1 W) => HRQ.out.below h)
    have HW := Lib.hid HW.out.drew
    have HQ := Lib.hid (show (w1.alloc (.cells #[.bool p, .slice aq lq cq] 24)).drew.heap[w1.heap.size]? = some (WO p aq lq cq) from HQ.out)
    go_region_held3 (fun W => W.cell? ⟨w.heap.size, 0, none⟩ = some (.bool n) ∧ W.cell? ⟨w.heap.size, 1, none⟩ = some (.slice a la ca) ∧ W.cell? ⟨w.heap.size + 1, 0, none⟩ = some (.bool m) ∧ W.cell? ⟨w.heap.size + 1, 1, none⟩ = some (.slice b lb cb) ∧ W.cell? ⟨w1.heap.size, 0, none⟩ = some (.bool p) ∧ W.cell? ⟨w1.heap.size, 1, none⟩ = some (.slice aq lq cq))
      (first | exact HE.out.six HQ.out | exact HE.out.six' HQ.out HLT.out _ _)
      (first
        | (go_at_call 68; (refine (r2times_any m p b aq lb cb lq cq ys qs _ HLB.out HLQ.out hbb (Nat.le_trans HLQ5.out hba) (HB.out _ HW.out) (HRQ1.out _ HW1.out) HBY.out HH.out.2.2.2.2.bd).mono ?_)
           rw [HWQ.out]
           rintro e w3 ⟨hb3, a3, c3, zs, rfl, hO, hN⟩
           have hzl : zs.length ≤ la := by
             refine (hN.len_le (k := la)).2 ?_
             have h1 := val_lt HBX.out
             rw [HLA.out] at h1
             have := HMV.out
             omega
           have HZL := Lib.hid hzl
           have HR := Lib.hid (own64.rd hO).2
           have HNN := Lib.hid hN
           obtain ⟨s3, hs3⟩ : ∃ s, decide (wv m ys * Int.tdiv (wv n xs) (wv m ys) < 0) = s := ⟨_, rfl⟩
           have HWV3 : Hid (wv s3 zs = wv m ys * Int.tdiv (wv n xs) (wv m ys)) := by show _ = _; rw [← hs3]; exact wv_back hN
           rw [hs3]
           have HQ := Lib.hid (show (w3).heap[w1.heap.size]? = some (WO p aq lq cq) by rw [hb3.block _ (lt_of_block HQ.out)]; exact HQ.out)
           have HE := Lib.hid (HE.out.below hb3)
           have HW := Lib.hid (HW.out.trans (hb3.mono HW.out.size))
           clear hO hN hb3 hzl hs3)
        | (go_at_call 74; (refine (r2turned_any _ _ _ _ _ _ rfl (by have := HZL.out; omega) HR.out HNN.out.bd).mono ?_)
           rw [HWV3.out]
           rintro e w4 ⟨hb3, a3, c3, ts, rfl, hO, hN⟩
           have hzl : ts.length ≤ la := by
             refine (hN.len_le (k := la)).2 ?_
             have h1 := val_lt HBX.out
             rw [HLA.out] at h1
             have := HMV.out
             rw [Int.natAbs_neg]
             omega
           have HZL2 := Lib.hid hzl
           have HR2 := Lib.hid (own64.rd hO).2
           have HNN2 := Lib.hid hN
           obtain ⟨s4, hs4⟩ : ∃ s, decide (-(wv m ys * Int.tdiv (wv n xs) (wv m ys)) < 0) = s := ⟨_, rfl⟩
           have HWV4 : Hid (wv s4 ts = -(wv m ys * Int.tdiv (wv n xs) (wv m ys))) := by show _ = _; rw [← hs4]; exact wv_back hN
           rw [hs4]
           have HQ := Lib.hid (show (w4).heap[w1.heap.size]? = some (WO p aq lq cq) by rw [hb3.block _ (lt_of_block HQ.out)]; exact HQ.out)
           have HE := Lib.hid (HE.out.below hb3)
           have HW := Lib.hid (HW.out.trans (hb3.mono HW.out.size))
           clear hO hN hb3 hzl hs4)
        | (go_at_call 73; (refine (r2plus_any n _ a _ la ca _ _ xs _ _ HLA.out rfl hba (Nat.le_trans HZL2.out hba) (HA.out _ HW.out) HR2.out HBX.out HNN2.out.bd).mono ?_)
           rw [HWV4.out, ← Int.sub_eq_add_neg, ← Int.tmod_def, HZS.out]
           rintro e w5 ⟨hb3, a5, c5, ss, rfl, hO, hN⟩
           have HP := Lib.hid (show WTold (WQuoTells (val xs < LIM ∧ val ys < LIM) (val ys) Zs) w (.returned (.tuple #[.agg #[.bool (decide (Zs < 0)), .slice a5 ss.length c5], .int .i64 0])) w5 from ⟨HW.out.trans (hb3.mono HW.out.size), _, a5, c5, 0, ss, rfl, owns_base hO HW.out.size, .inr (.inr ⟨⟨HH.out.1, HH.out.2.1⟩, HH.out.2.2.1, rfl, rfl, hN⟩)⟩)
           have HQ := Lib.hid (show (w5).heap[w1.heap.size]? = some (WO p aq lq cq) by rw [hb3.block _ (lt_of_block HQ.out)]; exact HQ.out)
           have HE := Lib.hid (HE.out.below hb3)
           have HW := Lib.hid (HW.out.trans (hb3.mono HW.out.size))
           clear hO hN hb3
           obtain ⟨_, d0, d1, e0, e1⟩ := HE.out.r))
    all_goals
      go_wp2
      refine bodyPost_ret (results_WOset rfl rfl rfl HE.out.r) rfl ?_
      exact HP.out.set HE.out.r (by omega) _ _
  · have hT : WTold (WQuoTells (val xs < LIM ∧ val ys < LIM) (val ys) Zs) w (.returned (.tuple #[.agg #[.bool false, .slice none 0 0], .int .i64 k])) (w1.alloc (.cells #[.bool p, .slice aq lq cq] 24)) := by
      rcases HT.out with ⟨h1, rfl, _⟩ | ⟨h1, h2, rfl, _⟩ | ⟨_, _, h, _⟩
      · exact ⟨HW.out, false, none, 0, 3, [], rfl, own64_nil _ _, .inl ⟨h1, rfl, rfl, rfl⟩⟩
      · exact ⟨HW.out, false, none, 0, 11, [], rfl, own64_nil _ _, .inr (.inl ⟨h1, h2, rfl, rfl, rfl⟩)⟩
      · exact absurd h hk
    have HP := Lib.hid hT
    have hq : (k == 0) = false := by simpa using hk
    have hq2 : (k != 0) = true := by simpa using hk
    clear hT HT HK hk
    obtain ⟨_, d0, d1, e0, e1⟩ := HE.out.r
    go_wp2
    refine bodyPost_ret (results_WOset rfl rfl rfl HE.out.r) rfl ?_
    exact HP.out.set HE.out.r (by omega) _ _
end Go.Proofs.YtfjhmnbbjknflaaGreatDoor
