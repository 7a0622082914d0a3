import Derived.Test.YteanpdiceaijhaaDoorParse
import Derived.Test.YteanpdiceaijhaaDoorNum32
namespace Go.Proofs.YteanpdiceaijhaaDoor
open Go.RowKit

set_option maxHeartbeats 400000 in
theorem strip_any (a : Option Addr) (len cap : Nat) (xs : List Nat) (w : World) (hl : xs.length = len) (hbig : len ≤ 1099511627776) (hcap : len ≤ cap) (h0 : a = none → cap = 0) (hr : Rd .u64 w a xs) :
    Calls Tryd.prog 98 #[.slice a len cap] w fun e w' => e = .returned (.slice a (fl xs) cap) ∧ w = w' := by
  go_enter Tryd.func98, Tryd.ntmps98
  go_wp2
  go_loop [3] (fun v => ∃ n : Nat, n ≤ len ∧ v = .int .i64 n ∧ Hid (∀ i, n ≤ i → i < xs.length → at0 xs i = 0)) (fun v => (intOf v).toNat)
  case atStart => exact ⟨len, Nat.le_refl _, rfl, fun i h1 h2 => by omega⟩
  case round =>
    obtain ⟨n, hn, rfl, hz⟩ := hrel
    by_cases h0' : n = 0
    · subst h0'
      have hf := Lib.hid (show 0 = fl xs from fl_unique (Nat.zero_le _) hz.out (fun h => by omega))
      cases a with
      | none =>
        obtain rfl := h0 rfl
        go_wp2
        go_ret
        exact ⟨by rw [← hf.out]; rfl, rfl⟩
      | some p =>
        go_wp2
        go_ret
        exact ⟨by rw [← hf.out]; rfl, rfl⟩
    · obtain ⟨b, off, rfl⟩ := hr.isAt (by omega)
      have hcell := hr.cell (i := n - 1) (by omega)
      obtain ⟨m, rfl⟩ : ∃ m, n = m + 1 := ⟨n - 1, by omega⟩
      rw [Nat.add_sub_cancel] at hcell
      generalize hx0 : at0 xs m = x at hcell
      have hx := Lib.hid hx0
      clear hx0 hr h0
      by_cases hx1 : x = 0
      · subst hx1
        go_wp2
        go_round
        case rel => exact ⟨m, by omega, by go_num, fun i h1 h2 => by rcases Nat.eq_or_lt_of_le h1 with rfl | h; exact hx.out; exact hz.out i h h2⟩
        case measure => simp [intOf]
      · have hf : m + 1 = fl xs := fl_unique (by omega) hz.out (fun _ => by rw [Nat.add_sub_cancel, hx.out]; exact hx1)
        have HF := Lib.hid hf
        clear hf
        go_wp2
        go_ret
        exact ⟨by rw [← HF.out]; rfl, rfl⟩

theorem or32 (x y : Nat) (hx : x < 4294967296) (hy : y < 4294967296) : bits BinOp.or IntKind.u64 (x : Int) ((y : Int) * 4294967296) = ((x + y * 4294967296 : Nat) : Int) := by
  have h1 : (BitVec.ofInt 64 (x : Int)).toNat = x := by
    rw [BitVec.ofInt_natCast, BitVec.toNat_ofNat]; exact Nat.mod_eq_of_lt (by omega)
  have e : (y : Int) * 4294967296 = ((y * 4294967296 : Nat) : Int) := by omega
  have h2 : (BitVec.ofInt 64 ((y * 4294967296 : Nat) : Int)).toNat = y * 4294967296 := by
    rw [BitVec.ofInt_natCast, BitVec.toNat_ofNat]; exact Nat.mod_eq_of_lt (by omega)
  rw [e]
  show IntKind.u64.wrap ((BitVec.ofInt 64 (x : Int) ||| BitVec.ofInt 64 ((y * 4294967296 : Nat) : Int)).toNat : Int) = _
  rw [BitVec.toNat_or, h1, h2, Nat.or_comm, show y * 4294967296 = 2 ^ 32 * y by omega, ← Nat.two_pow_add_eq_or_of_lt (by omega), IntKind.wrap_u64]
  omega
theorem pow_pair (k : Nat) : 4294967296 ^ (2 * k) = 18446744073709551616 ^ k := by rw [Nat.pow_mul]
/-- A row that is read: with room behind it. -/
theorem own64.room {w : World} {B : Nat} {a : Option Addr} {n c : Nat} {zs : List Nat} (h : own64 w B (.slice a n c) zs) : n ≤ c ∧ (a = none → c = 0) := by
  rcases h.2 with ⟨hv, h0⟩ | ⟨g, c1, cur, hv, hb, hg, hn, _⟩
  · simp only [Value.slice.injEq] at hv; exact ⟨by omega, fun _ => hv.2.2⟩
  · simp only [Value.slice.injEq] at hv; exact ⟨by omega, fun h => by rw [h] at hv; simp at hv⟩

theorem own64_snoc {w : World} {B k z : Nat} {v : Value} {A : Int} {zs : List Nat} (h : w.ownsRow B 55 1 v (k + 1) (u64s zs ++ [.int .u64 A])) (hk : zs.length = k) (e : A = (z : Nat)) : own64 w B v (zs ++ [z]) := by
  unfold own64
  rw [u64s_append, List.length_append, hk, ← (show [Value.int .u64 A] = u64s [z] by rw [e]; rfl)]
  exact h
theorem own64.row {w : World} {B k : Nat} {v : Value} {zs : List Nat} (h : own64 w B v zs) (hk : zs.length = k) : w.ownsRow B 55 1 v k (u64s zs) := by
  unfold own64 at h; rw [hk] at h; exact h
theorem val_odd {zs hs : List Nat} {k x : Nat} (hz : zs.length = k) (hv : val zs = v32 (hs.take (2 * k))) (h1 : v32 (hs.take (2 * k + 1)) = v32 (hs.take (2 * k)) + 4294967296 ^ (2 * k) * x)
    (hl : hs.length ≤ 2 * k + 1) (hl2 : hs.length ≤ 2 * (k + 1)) : val (zs ++ [x]) = v32 (hs.take (2 * (k + 1))) := by
  rw [List.take_of_length_le hl] at h1
  rw [List.take_of_length_le hl2, h1, val_snoc, hz, hv, pow_pair]
theorem val_pair {zs hs : List Nat} {k x y : Nat} (hz : zs.length = k) (hv : val zs = v32 (hs.take (2 * k))) (h1 : v32 (hs.take (2 * k + 1)) = v32 (hs.take (2 * k)) + 4294967296 ^ (2 * k) * x)
    (h2 : v32 (hs.take (2 * k + 1 + 1)) = v32 (hs.take (2 * k + 1)) + 4294967296 ^ (2 * k + 1) * y) : val (zs ++ [x + y * 4294967296]) = v32 (hs.take (2 * (k + 1))) := by
  rw [show 2 * (k + 1) = 2 * k + 1 + 1 by omega, h2, h1, val_snoc, hz, hv, Nat.pow_succ, pow_pair, Nat.mul_add]
  rw [show 18446744073709551616 ^ k * (y * 4294967296) = 18446744073709551616 ^ k * 4294967296 * y by rw [Nat.mul_comm y, Nat.mul_assoc]]
  omega

set_option maxHeartbeats 1000000 in
set_option maxRecDepth 100000 in
theorem limbs_any (a : Option Addr) (len cap : Nat) (hs : List Nat) (w : World) (hl : hs.length = len) (hbig : len ≤ 1099511627776) (hr : Rd .u64 w a hs) (hh : Hd hs) :
    Calls Tryd.prog 103 #[.slice a len cap] w fun e w' => ∃ v zs, e = .returned v ∧ own64 w' w.heap.size v zs ∧ Num zs (v32 hs) ∧ Below w.heap.size w w' := by
  go_enter Tryd.func103, Tryd.ntmps103
  go_wp2
  go_loopw [3, 4] (fun v i wr => ∃ (k : Nat) (zs : List Nat), 2 * k ≤ len + 1 ∧ i = .int .i64 ((2 * k : Nat) : Int) ∧ Hid (own64 wr w.heap.size v zs) ∧ zs.length = k ∧ Hid (Bd zs) ∧ Hid (val zs = v32 (hs.take (2 * k))) ∧ Below w.heap.size w wr) (fun _ i _ => len + 2 - (intOf i).toNat)
  case atStart => exact ⟨0, [], by omega, rfl, own64_nil _ _, rfl, Bd.nil, by show _ = _; simp [val, v32], Below.refl _ _⟩
  case round =>
    obtain ⟨k, zs, hk, rfl, HO, hzk, HB, HV, hbl⟩ := hrel
    have hsz := hbl.size
    by_cases hlt : 2 * k < len
    · obtain ⟨b, off, rfl⟩ := hr.isAt (by omega)
      have hc1 := below_cell hbl _ _ (hr.cell (i := 2 * k) (by omega))
      have hb1 : at0 hs (2 * k) < 4294967296 := hh.at0 _
      have HX : Hid (v32 (hs.take (2 * k + 1)) = v32 (hs.take (2 * k)) + 4294967296 ^ (2 * k) * at0 hs (2 * k)) := take_v32_snoc (by omega)
      have hown : wr.ownsRow w.heap.size 55 1 u3 k (u64s zs) := by have := HO.out; unfold own64 at this; rw [hzk] at this; exact this
      have HZ := Lib.hid hzk
      clear hzk
      by_cases hlt2 : 2 * k + 1 < len
      · have hc2 := below_cell hbl _ _ (hr.cell (i := 2 * k + 1) (by omega))
        have hb2 : at0 hs (2 * k + 1) < 4294967296 := hh.at0 _
        have HY : Hid (v32 (hs.take (2 * k + 1 + 1)) = v32 (hs.take (2 * k + 1)) + 4294967296 ^ (2 * k + 1) * at0 hs (2 * k + 1)) := take_v32_snoc (by omega)
        generalize at0 hs (2 * k) = x at *
        generalize at0 hs (2 * k + 1) = y at *
        have ho := or32 x y hb1 hb2
        have hq : decide (2 * (k : Int) + 1 < (len : Int)) = true := by simp; omega
        go_wp2_with (at_builtin; refine wpl_app 22 55 Tryd.underlying22 info64 rfl (by decide) rfl _ _ rfl w.heap.size _ k (u64s zs) rfl (hown.alloc _) wr.heap.size _ rfl (World.cell?_alloc_at _ _ _ _ rfl) rfl (by omega) (by simp; omega) ?_)
        intro g cap' w1 hown1 hg1 hBg hgl hgo
        have HO1 := Lib.hid hown1
        have hbl1 : Below w.heap.size w w1 := (hbl.alloc (by omega) _).grown hg1 (by simp; omega) (fun j hj => (hown.lt j hj).1)
        clear hown1 hg1 hgo hown
        go_wp2
        go_roundw
        case rel =>
          refine ⟨k + 1, zs ++ [x + y * 4294967296], by omega, by go_num, own64_snoc HO1.out HZ.out (by omega), by have := HZ.out; simp; omega, HB.out.snoc (by omega), ?_, hbl1⟩
          exact val_pair HZ.out HV.out HX.out HY.out
        case measure => simp [intOf]; omega
      · generalize at0 hs (2 * k) = x at *
        have hq : decide (2 * (k : Int) + 1 < (len : Int)) = false := by simp; omega
        go_wp2_with (at_builtin; refine wpl_app 22 55 Tryd.underlying22 info64 rfl (by decide) rfl _ _ rfl w.heap.size _ k (u64s zs) rfl (hown.alloc _) wr.heap.size _ rfl (World.cell?_alloc_at _ _ _ _ rfl) rfl (by omega) (by simp; omega) ?_)
        intro g cap' w1 hown1 hg1 hBg hgl hgo
        have HO1 := Lib.hid hown1
        have hbl1 : Below w.heap.size w w1 := (hbl.alloc (by omega) _).grown hg1 (by simp; omega) (fun j hj => (hown.lt j hj).1)
        clear hown1 hg1 hgo hown
        go_wp2
        go_roundw
        case rel =>
          refine ⟨k + 1, zs ++ [x], by omega, by go_num, own64_snoc HO1.out HZ.out rfl, by have := HZ.out; simp; omega, HB.out.snoc (by omega), ?_, hbl1⟩
          exact val_odd HZ.out HV.out HX.out (by omega) (by omega)
        case measure => simp [intOf]; omega
    · obtain ⟨a', c', rfl, hrd⟩ := own64.form HO.out
      obtain ⟨hroom, hnone⟩ := own64.room HO.out
      have HN := Lib.hid hnone
      have hrow := num_fm HB.out
      rw [HV.out, List.take_of_length_le (show hs.length ≤ 2 * k by omega)] at hrow
      have HR := Lib.hid hrow
      clear hnone hrow
      go_wp2_with fail
      refine (strip_any a' k c' zs _ hzk (by omega) (by omega) HN.out hrd).mono ?_
      rintro e w1 ⟨rfl, rfl⟩
      go_wp2
      go_ret
      refine ⟨_, fm zs, rfl, ?_, HR.out, hbl⟩
      have hfl := fl_spec zs
      refine ⟨by rw [u64s_len, fm_length]; omega, ?_⟩
      rcases HO.out.2 with ⟨hv, h0⟩ | ⟨g, c1, cur, hv, hb, hg, hn, hm, hss, ht⟩
      · simp only [Value.slice.injEq] at hv
        obtain ⟨rfl, _, rfl⟩ := hv
        have : fl zs = 0 := by omega
        refine .inl ⟨?_, by rw [fm_length]; exact this⟩
        show Value.slice none (fl zs) 0 = _
        rw [this]
      · simp only [Value.slice.injEq] at hv
        obtain ⟨rfl, _, rfl⟩ := hv
        refine .inr ⟨g, c', cur, by rw [fm_length]; rfl, hb, hg, by rw [fm_length]; omega, hm, hss, ?_⟩
        have h2 : (cur.toList.take (zs.length * 1)).take (fl zs) = (u64s zs).take (fl zs) := by rw [ht]
        rw [List.take_take, Nat.min_eq_left (by omega)] at h2
        rw [fm_length, Nat.mul_one, h2]
        simp [u64s, fm, List.map_take]
end Go.Proofs.YteanpdiceaijhaaDoor
