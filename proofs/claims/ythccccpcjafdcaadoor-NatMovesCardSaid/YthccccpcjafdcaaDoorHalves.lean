import Derived.Test.YthccccpcjafdcaaDoorBytesW
namespace Go.Proofs.YthccccpcjafdcaaDoor
open Go.RowKit

theorem own64_pre {w : World} {B : Nat} {a : Option Addr} {n c k : Nat} {zs : List Nat} (h : own64 w B (.slice a n c) zs) (hk : k ≤ zs.length) : own64 w B (.slice a k c) (zs.take k) := by
  have hn := (own64.rd h).1
  rcases h.2 with ⟨hv, h0⟩ | ⟨g, c1, cur, hv, hb, hg, hnc, hm, hs, ht⟩
  · cases hv
    obtain rfl : k = 0 := by omega
    rw [List.take_zero]
    exact own64_nil w B
  · cases hv
    obtain ⟨g2, cur2, e1, e2, e3, e4, e5, e6, e7, e8⟩ := own64.blk h
    cases e1
    have h1 : (zs.take k).length = k := by rw [List.length_take]; omega
    have := own64_of_blk (B := B) (zs := zs.take k) (c := c) e4 e3 (by omega) e6 e7 ⟨by rw [h1]; have := e8.1; omega, fun i hi => by rw [h1] at hi; rw [at0_take hi]; exact e8.2 i (by omega)⟩
    rw [h1] at this
    exact this
theorem pair_v32 {hs xs : List Nat} {k x : Nat} (hz : hs.length = 2 * k) (hv : v32 hs = val (xs.take k)) (hk : k < xs.length) (hx : at0 xs k = x) : v32 (hs ++ [x % 4294967296] ++ [x / 4294967296]) = val (xs.take (k + 1)) := by
  rw [v32_snoc, v32_snoc, take_val_snoc hk, hx, hv, List.length_append, List.length_singleton, hz, Nat.pow_succ, pow_pair, Nat.mul_assoc, Nat.add_assoc, ← Nat.mul_add]
  congr 2
  omega

set_option maxHeartbeats 1000000 in
set_option maxRecDepth 100000 in
theorem halves_any (a : Option Addr) (len cap : Nat) (xs : List Nat) (w : World) (hl : xs.length = len) (hbig : len ≤ 1048576) (hr : Rd .u64 w a xs) (bx : Bd xs) :
    Calls Tryd.prog 74 #[.slice a len cap] w fun e w' => ∃ v hs, e = .returned v ∧ own64 w' w.heap.size v hs ∧ Num32 hs (val xs) ∧ Below w.heap.size w w' := by
  go_enter Tryd.func74, Tryd.ntmps74
  go_wp2
  go_loopw [3, 4] (fun v i wr => ∃ (k : Nat) (hs : List Nat), k ≤ len ∧ i = .int .i64 (k : Nat) ∧ Hid (own64 wr w.heap.size v hs) ∧ Hid (hs.length = 2 * k) ∧ Hid (Hd hs) ∧ Hid (v32 hs = val (xs.take k)) ∧ Hid (Below w.heap.size w wr)) (fun _ i _ => len - (intOf i).toNat)
  case atStart => exact ⟨0, [], by omega, rfl, own64_nil _ _, rfl, Hd.nil, by show _ = _; simp [val, v32], Below.refl _ _⟩
  case round =>
    obtain ⟨k, hs, hk, rfl, HO, HZ, HB, HV, hbl⟩ := hrel
    have hsz := hbl.out.size
    by_cases hlt : k < len
    · obtain ⟨b, off, rfl⟩ := hr.isAt (by omega)
      have hc1 := below_cell hbl.out _ _ (hr.cell (i := k) (by omega))
      have hx64 := bx.at0 k
      have hown := HO.out.row HZ.out
      obtain ⟨x, hx⟩ : ∃ x, at0 xs k = x := ⟨_, rfl⟩
      rw [hx] at hc1 hx64
      have e1 := and_low x hx64
      obtain ⟨lo, hlo⟩ : ∃ lo, lo = x % 4294967296 := ⟨_, rfl⟩
      rw [← hlo] at e1
      obtain ⟨hi, hhi⟩ : ∃ hi, hi = x / 4294967296 := ⟨_, rfl⟩
      have e2 : (x : Int) / 4294967296 = (hi : Int) := by omega
      have HX := Lib.hid hx
      have HLO := Lib.hid hlo
      have HHI := Lib.hid hhi
      clear hx hlo hhi
      go_wp2_with (at_builtin; refine wpl_app 22 57 Tryd.underlying22 info64 rfl (by decide) rfl _ _ rfl w.heap.size _ (2 * k) (u64s hs) rfl (hown.alloc _) wr.heap.size _ rfl (World.cell?_alloc_at _ _ _ _ rfl) rfl (by omega) (by simp; omega) ?_)
      intro g cap' w1 hown1 hg1 hBg hgl hgo
      have hbl1 : Below w.heap.size w w1 := (hbl.out.alloc (by omega) _).grown hg1 (by simp; omega) (fun j hj => (hown.lt j hj).1)
      have hO1 := own64_snoc (z := lo) hown1 HZ.out rfl
      have HL1 : Hid ((hs ++ [lo]).length = 2 * k + 1) := by show _ = _; rw [List.length_append, HZ.out]; rfl
      have hown1 := hO1.row HL1.out
      have hsz1 := hbl1.size
      have HBL1 := Lib.hid hbl1
      have hc2 := below_cell hbl1 _ _ (hr.cell (i := k) (by omega))
      rw [HX.out] at hc2
      clear hO1 hg1 hgo hown hbl1
      go_wp2_with (at_builtin; refine wpl_app 22 57 Tryd.underlying22 info64 rfl (by decide) rfl _ _ rfl w.heap.size _ (2 * k + 1) (u64s (hs ++ [lo])) rfl (hown1.alloc _) w1.heap.size _ rfl (World.cell?_alloc_at _ _ _ _ rfl) rfl (by omega) (by simp; omega) ?_)
      intro g2 cap2 w2 hown2 hg2 hBg2 hgl2 hgo2
      have hbl2 : Below w.heap.size w w2 := (HBL1.out.alloc (by omega) _).grown hg2 (by simp; omega) (fun j hj => (hown1.lt j hj).1)
      have hO2 := own64_snoc (z := hi) hown2 HL1.out rfl
      have HO2 := Lib.hid hO2
      have HBL2 := Lib.hid hbl2
      clear hO2 hown2 hg2 hgo2 hown1 hbl2
      go_wp2
      go_roundw
      case rel =>
        refine ⟨k + 1, hs ++ [lo] ++ [hi], by omega, by go_num, HO2.out, by show _ = _; simp [HZ.out]; omega, (HB.out.snoc (by have := HLO.out; omega)).snoc (by have := HHI.out; omega), ?_, HBL2.out⟩
        rw [HLO.out, HHI.out]
        exact pair_v32 HZ.out HV.out (by omega) HX.out
      case measure => simp [intOf]; omega
    · obtain rfl : k = len := by omega
      have hq : decide (k < k) = false := by simp
      obtain ⟨a', c', rfl, hrd⟩ := own64.form HO.out
      obtain ⟨hroom, hnone⟩ := own64.room HO.out
      have HN := Lib.hid hnone
      have hnum := num32_fm HB.out
      have HV2 : Hid (v32 hs = val xs) := by
        show _ = _
        rw [HV.out, List.take_of_length_le (by omega)]
      rw [HV2.out] at hnum
      have hl2 : hs.length ≤ 2097152 := by rw [HZ.out]; omega
      clear hnone
      go_wp2_with fail
      refine (strip_any a' hs.length c' hs _ rfl (by omega) hroom HN.out hrd).mono ?_
      rintro e w' ⟨rfl, rfl⟩
      go_wp2
      go_ret
      exact ⟨_, fm hs, rfl, own64_pre HO.out (fl_spec hs).1, hnum, hbl.out⟩

theorem rform_any (a : Option Addr) (len cap : Nat) (xs : List Nat) (w : World) (hl : xs.length = len) (hbig : len ≤ 1048576) (hr : Rd .u64 w a xs) (bx : Bd xs) :
    Calls Tryd.prog 52 #[.slice a len cap] w fun e w' => ∃ v zs, e = .returned v ∧ own64 w' w.heap.size v zs ∧ Num zs (val xs) ∧ Below w.heap.size w w' := by
  go_enter Tryd.func52, Tryd.ntmps52
  go_wp2_with fail
  refine (halves_any a len cap xs _ hl hbig hr bx).mono ?_
  rintro e w1 ⟨v, hs, rfl, hown, hnum, hb1⟩
  obtain ⟨a1, c1, rfl, hr1⟩ := own64.form hown
  have HN := Lib.hid hnum
  have hl1 : hs.length ≤ 1099511627776 := by
    have h1 := hnum.len_le (k := 2 * len)
    have h2 := val_lt bx
    rw [hl, ← pow_pair] at h2
    have := h1.2 h2
    omega
  clear hown hnum
  go_wp2_with fail
  refine (limbs_any a1 hs.length c1 hs _ rfl hl1 hr1 HN.out.bd).mono ?_
  rintro e w2 ⟨v, zs, rfl, hown, hnum, hb2⟩
  rw [HN.out.vl] at hnum
  have HN2 := Lib.hid hnum
  have HO2 := Lib.hid hown
  clear hnum hown
  go_wp2
  go_ret
  have h1 := hb1.size
  exact ⟨_, zs, rfl, owns_base HO2.out h1, HN2.out, hb1.trans (hb2.mono h1)⟩
theorem rfits_any (a : Option Addr) (len cap : Nat) (xs : List Nat) (w : World) (hl : xs.length = len) (hbig : len ≤ 1048576) (hr : Rd .u64 w a xs) (bx : Bd xs) :
    Calls Tryd.prog 46 #[.slice a len cap] w fun e w' => e = .returned (.bool (decide (fl xs ≤ 128))) ∧ Below w.heap.size w w' := by
  go_enter Tryd.func46, Tryd.ntmps46
  go_wp2_with fail
  refine (rform_any a len cap xs _ hl hbig hr bx).mono ?_
  rintro e w1 ⟨v, zs, rfl, hown, hnum, hb1⟩
  obtain ⟨a1, c1, rfl, hr1⟩ := own64.form hown
  have e1 : zs = fm xs := Num.unique hnum (num_fm bx)
  have e2 : zs.length = fl xs := by rw [e1, fm_length]
  rw [e2]
  clear hown hnum hr1 e1 e2
  go_wp2
  go_ret
  refine ⟨?_, hb1⟩
  have e : decide ((fl xs : Int) ≤ 128) = decide (fl xs ≤ 128) := by simp only [decide_eq_decide]; omega
  rw [← e]; rfl
end Go.Proofs.YthccccpcjafdcaaDoor
