import Derived.Test.YthccccpcjafdcaaDoorWholeW
import Derived.Test.YthccccpcjafdcaaDoorBkW
namespace Go.Proofs.YthccccpcjafdcaaDoor
open Go.RowKit

theorem take_pos (xs : List Nat) (k n : Nat) (h : xs.length = n) (hk : n ≤ k) : xs.take k = xs := List.take_of_length_le (by omega)
theorem own64_as {w : World} {B k : Nat} {v : Value} {zs ys : List Nat} (h : w.ownsRow B 57 1 v k (u64s zs)) (h1 : zs = ys) (h2 : zs.length = k) : own64 w B v ys := by
  subst h1 h2; exact h
/-- The first limbs of a number, as a whole one. -/
def SW (n : Bool) (xs : List Nat) (K : Nat) : Int := wv n (xs.take K)
theorem sw_lim (n : Bool) (xs : List Nat) (K : Nat) (bx : Bd xs) (hK : K ≤ 64) : (SW n xs K).natAbs < LIM := by
  unfold SW; rw [wv_abs]
  have h1 := val_lt (bx.take K)
  have h2 : (18446744073709551616 : Nat) ^ (xs.take K).length ≤ 18446744073709551616 ^ 64 := Nat.pow_le_pow_right (by decide) (by rw [List.length_take]; omega)
  unfold LIM; omega

set_option maxHeartbeats 2000000 in
set_option maxRecDepth 100000 in
theorem wsome_any (n : Bool) (a : Option Addr) (la ca K : Nat) (xs : List Nat) (w : World) (hla : xs.length = la) (hba : la ≤ 9223372036854775807) (hK : K ≤ 64) (hra : Rd .u64 w a xs) (bx : Bd xs) :
    Calls Tryd.prog 21 #[.agg #[.bool n, .slice a la ca], .int .i64 (K : Nat)] w (IPost (SW n xs K) w) := by
  have hlim : Hid ((SW n xs K).natAbs < LIM) := sw_lim n xs K bx hK
  have hSW : Hid (wv n (xs.take K) = SW n xs K) := rfl
  have HBX := Lib.hid bx
  obtain ⟨w0, hw0⟩ : ∃ w0, w0 = (w.alloc (.cells #[.bool n, .slice a la ca] 44)).alloc (.cells #[.bool false, .slice none 0 0] 44) := ⟨_, rfl⟩
  have hb0 : Below w.heap.size w w0 := by rw [hw0]; exact ((Below.refl _ _).alloc (Nat.le_refl _) _).alloc (by simp) _
  have hs0 : w0.heap.size = w.heap.size + 2 := by rw [hw0]; simp
  have hr0 : Rd .u64 w0 a xs := hra.below hb0
  have hx0 : w0.heap[w.heap.size]? = some (WO n a la ca) := by rw [hw0]; exact heap_kept (heap_new _ _) _
  have hres0 : w0.heap[w.heap.size + 1]? = some (WO false none 0 0) := by
    rw [hw0]
    have h := heap_new (w.alloc (.cells #[.bool n, .slice a la ca] 44)) (.cells #[.bool false, .slice none 0 0] 44)
    rw [show (w.alloc (.cells #[.bool n, .slice a la ca] 44)).heap.size = w.heap.size + 1 by simp] at h
    exact h
  have HB0 := Lib.hid hb0
  have HX0 := Lib.hid hx0
  have HRES := Lib.hid hres0
  clear hra bx hb0 hx0 hres0
  go_enter Tryd.func21, Tryd.ntmps21
  go_wp2
  rw [← hw0]
  have HW0 := Lib.hid hw0
  clear hw0
  go_loopw [5, 6] (fun v i wr => ∃ k : Nat, k ≤ la ∧ k ≤ K ∧ i = .int .i64 k ∧ Hid (wr.ownsRow w0.heap.size 57 1 v k (u64s (xs.take k))) ∧ Hid (Below w0.heap.size w0 wr)) (fun _ i _ => K - (intOf i).toNat)
  case atStart => exact ⟨0, Nat.zero_le _, Nat.zero_le _, rfl, World.ownsRow_nil _ _ _ _, Below.refl _ _⟩
  case round =>
    obtain ⟨k, hk, hkK, rfl, HO, HB⟩ := hrel
    have hx1 : wr.heap[w.heap.size]? = some (WO n a la ca) := by rw [HB.out.block _ (by omega)]; exact HX0.out
    have x0 : wr.cell? ⟨w.heap.size, 0, none⟩ = some (.bool n) := by unfold WO at hx1; simp [World.cell?, hx1]
    have x1 : wr.cell? ⟨w.heap.size, 1, none⟩ = some (.slice a la ca) := by unfold WO at hx1; simp [World.cell?, hx1]
    clear hx1
    by_cases hlt : k < la ∧ k < K
    · obtain ⟨hl1, hl2⟩ := hlt
      obtain ⟨b, off, rfl⟩ := hr0.isAt (by omega)
      have hcell : wr.cell? ⟨b, off + k, none⟩ = some (.int .u64 (xs.getD k 0 : Nat)) := below_cell HB.out _ _ (hr0.cell (by omega))
      have hq1 : decide (k < la) = true := by rw [decide_eq_true_iff]; omega
      have hq2 : decide (k < K) = true := by rw [decide_eq_true_iff]; omega
      generalize hxe : xs.getD k 0 = x at hcell
      have hx := Lib.hid hxe
      clear hxe
      have hsz := HB.out.size
      go_wp2_with (at_builtin; refine wpl_app 22 57 Tryd.underlying22 info64 rfl (by decide) rfl _ _ rfl w0.heap.size _ k (u64s (xs.take k)) rfl (World.ownsRow.alloc HO.out _) wr.heap.size _ rfl (World.cell?_alloc_at _ _ _ _ rfl) rfl (by omega) (by simp; omega) ?_; intro g cap' w1 hown1 hg1 hBg _ _; have HO1 := Lib.hid hown1; have HG1 := Lib.hid hg1; clear hown1 hg1)
      go_roundw
      case rel =>
        exact ⟨k + 1, by omega, by omega, by go_num, by show World.ownsRow _ _ _ _ _ _ _; rw [u64s_snoc xs k x (by omega) hx]; exact HO1.out, (HB.out.alloc HB.out.size _).grown HG1.out (by have := HB.out.size; simp; omega) (fun j hj => (World.ownsRow.lt HO.out j hj).1)⟩
      case measure => simp [intOf]; omega
    · have hq : (decide (k < la) = false) ∨ (decide (k < la) = true ∧ decide (k < K) = false) := by
        rw [decide_eq_false_iff_not, decide_eq_true_iff, decide_eq_false_iff_not]; omega
      have htk : Hid (xs.take k = xs.take K ∧ (xs.take k).length = k) := by
        refine ⟨?_, by rw [List.length_take]; omega⟩
        rcases Nat.lt_or_ge k la with h | h
        · rw [show k = K by omega]
        · rw [List.take_of_length_le (by omega), List.take_of_length_le (by omega)]
      have HOW := Lib.hid (own64_as HO.out htk.out.1 htk.out.2)
      have hlen : (xs.take K).length = k := by rw [← htk.out.1]; exact htk.out.2
      clear HO htk hlt
      obtain ⟨av, cv, rfl, hrv⟩ := own64.form HOW.out
      have hcv := own64.room HOW.out
      have HBT := Lib.hid (HBX.out.take K)
      have HL := Lib.hid hlen
      generalize xs.take K = zs at *
      have hrb : RBlk wr (w.heap.size + 1) := rblk (by rw [HB.out.block _ (by omega)]; exact HRES.out)
      have HRB := Lib.hid hrb
      have HRV := Lib.hid hrv
      have HCV := Lib.hid hcv
      have HBW := Lib.hid (HB0.out.trans (HB.out.mono HB0.out.size))
      have hlz : zs.length ≤ 64 := by omega
      clear hrb hrv hcv hlen HB
      rcases hq with hq | ⟨hq, hq2⟩
      all_goals
        go_wp2_with fail
        refine (make_any n av zs.length cv zs _ rfl (by omega) HCV.out.1 HCV.out.2 HRV.out HBT.out).mono ?_
        rintro e w2 ⟨hb2, hor⟩
        rw [hSW.out] at hor
        rcases hor with ⟨h3, _⟩ | ⟨_, _, a', c', zs', rfl, ho, hN⟩
        · exact absurd ⟨trivial, hlim.out⟩ h3
        have hpost : IPost (SW n xs K) w (.returned (.agg #[.bool (decide (SW n xs K < 0)), .slice a' zs'.length c'])) w2 := ⟨HBW.out.trans (hb2.mono HBW.out.size), a', c', zs', rfl, owns_base ho HBW.out.size, hN⟩
        generalize decide (SW n xs K < 0) = sgn at *
        have hrb2 : RBlk (w2.alloc (.cells #[.bool sgn, .slice a' zs'.length c'] 44)) (w.heap.size + 1) := (HRB.out.below hb2).below ((Below.refl _ _).alloc (Nat.le_refl _) _)
        have HP := Lib.hid (hpost.alloc (.cells #[.bool sgn, .slice a' zs'.length c'] 44))
        have HRB2 := Lib.hid hrb2
        obtain ⟨_, c0, c1, f0, f1⟩ := hrb2
        clear ho hN hb2 hpost
        go_wp2
        refine bodyPost_ret (results_WOset1 rfl rfl HRB2.out) rfl ?_
        exact HP.out.set HRB2.out (by omega) _ _

set_option maxHeartbeats 1000000 in
set_option maxRecDepth 100000 in
theorem wsame_any (n : Bool) (a b : Option Addr) (l ca cb : Nat) (zs : List Nat) (w : World) (hl : zs.length = l) (hbl : l ≤ 1048576) (hra : Rd .u64 w a zs) (hrb : Rd .u64 w b zs) :
    Calls Tryd.prog 59 #[.agg #[.bool n, .slice a l ca], .agg #[.bool n, .slice b l cb]] w fun e w' => e = .returned (.bool true) ∧ Below w.heap.size w w' := by
  have hnn : (n == n) = true := by simp
  have HA := Lib.hid (fun (W : World) (h : Below w.heap.size w W) => hra.below h)
  have HB := Lib.hid (fun (W : World) (h : Below w.heap.size w W) => hrb.below h)
  clear hra hrb
  go_enter Tryd.func59, Tryd.ntmps59
  go_wp2_with fail
  have hb0 : Below w.heap.size w ((w.alloc (WO n a l ca)).alloc (WO n b l cb)) := ((Below.refl _ _).alloc (Nat.le_refl _) _).alloc (by simp) _
  refine (words_same a b l ca cb zs _ hl (by omega) (HA.out _ hb0) (HB.out _ hb0)).mono ?_
  rintro e w1 ⟨rfl, nd, rfl⟩
  have HB0 := Lib.hid (Below.drewM hb0 nd)
  clear hb0
  go_wp2
  go_ret
  exact ⟨rfl, HB0.out⟩
set_option maxHeartbeats 1000000 in
theorem wsame2_any (n : Bool) (a b : Option Addr) (l ca cb : Nat) (zs : List Nat) (w : World) (hl : zs.length = l) (hbl : l ≤ 1048576) (hra : Rd .u64 w a zs) (hrb : Rd .u64 w b zs) :
    Calls Tryd.prog 25 #[.agg #[.bool n, .slice a l ca], .agg #[.bool n, .slice b l cb]] w fun e w' => e = .returned (.bool true) ∧ Below w.heap.size w w' := by
  have HA := Lib.hid (fun (W : World) (h : Below w.heap.size w W) => hra.below h)
  have HB := Lib.hid (fun (W : World) (h : Below w.heap.size w W) => hrb.below h)
  clear hra hrb
  go_enter Tryd.func25, Tryd.ntmps25
  go_wp2_with fail
  have hb0 : Below w.heap.size w ((w.alloc (WO n a l ca)).alloc (WO n b l cb)) := ((Below.refl _ _).alloc (Nat.le_refl _) _).alloc (by simp) _
  refine (wsame_any n a b l ca cb zs _ hl hbl (HA.out _ hb0) (HB.out _ hb0)).mono ?_
  rintro e w1 ⟨rfl, hb1⟩
  have HB1 := Lib.hid (hb0.trans (hb1.mono hb0.size))
  clear hb0 hb1
  go_wp2
  go_ret
  exact ⟨rfl, HB1.out⟩
end Go.Proofs.YthccccpcjafdcaaDoor
