import Derived.Test.YtflmgdfcgggmbaaDoorMulS
namespace Go.Proofs.YtflmgdfcgggmbaaDoor
open Go.RowKit

/-- What a call answers that tells a number, or that it does not fit. -/
def NumPost (fits : Prop) (n : Nat) (w : World) (e : Ending) (w' : World) : Prop :=
  Below w.heap.size w w' ∧
  ((¬ (fits ∧ n < 18446744073709551616 ^ 128) ∧ e = .returned (.tuple #[.slice none 0 0, .int .i64 3])) ∨
   (fits ∧ n < 18446744073709551616 ^ 128 ∧ ∃ v zs, e = .returned (.tuple #[v, .int .i64 0]) ∧ own64 w' w.heap.size v zs ∧ Num zs n))
theorem old_of_rd {k : IntKind} {w : World} {b : Option Addr} {ys : List Nat} (h : Rd k w b ys) (h0 : 0 < ys.length) : ∀ p, b = some p → p.block < w.heap.size := by
  intro p hp
  obtain ⟨bb, ob, rfl⟩ := h.isAt h0
  cases hp
  exact World.block_lt_of_cell? w _ (h.cell (i := 0) h0)
theorem FormOf.old {k : IntKind} {w : World} {a a' : Option Addr} {cap n c' : Nat} {xs : List Nat} (h : FormOf a cap n a' c') (hr : Rd k w a xs) (hn : n ≤ xs.length) : ∀ p, a' = some p → p.block < w.heap.size := by
  rcases Nat.eq_zero_or_pos n with rfl | hp
  · intro p hp; rw [(h.2 rfl).1] at hp; cases hp
  · rw [(h.1 hp).1]; exact old_of_rd hr (by omega)
set_option exponentiation.threshold 10000 in
theorem bits_big {m n k1 k2 : Nat} (h1 : BitsIs m k1) (h2 : BitsIs n k2) (h : 8193 < k1 + k2) (hk1 : k1 ≤ 8192) (hk2 : k2 ≤ 8192) : 18446744073709551616 ^ 128 ≤ m * n := by
  rcases h1 with ⟨_, rfl⟩ | ⟨p1, l1, _⟩
  · omega
  rcases h2 with ⟨_, rfl⟩ | ⟨p2, l2, _⟩
  · omega
  have h3 := Nat.mul_le_mul l1 l2
  rw [← Nat.pow_add] at h3
  have h4 : 2 ^ 8192 ≤ 2 ^ (k1 - 1 + (k2 - 1)) := Nat.pow_le_pow_right (by decide) (by omega)
  rw [pow_64]
  exact Nat.le_trans h4 h3

set_option exponentiation.threshold 10000 in
set_option maxHeartbeats 1000000 in
set_option maxRecDepth 100000 in
theorem mul_small (a b : Option Addr) (la lb ca cb : Nat) (xs ys : List Nat) (w : World) (hla : xs.length = la) (hlb : ys.length = lb) (hba : la ≤ 1048576) (hbb : lb ≤ 1048576) (hca : la ≤ ca) (hcb : lb ≤ cb)
    (hra : Rd .u64 w a xs) (hrb : Rd .u64 w b ys) (bx : Bd xs) (bY : Bd ys) (hmin : fl xs < 32 ∨ fl ys < 32) :
    Calls Tryd.prog 38 #[.slice a la ca, .slice b lb cb] w (NumPost (fl xs ≤ 128 ∧ fl ys ≤ 128) (val xs * val ys) w) := by
  have hfa := (fl_spec xs).1
  have hfb := (fl_spec ys).1
  go_enter Tryd.func38, Tryd.ntmps38
  go_wp2_with fail
  refine (both_any a b la lb ca cb xs ys _ hla hlb (by omega) (by omega) hca hcb hra hrb).mono ?_
  rintro e w1 ⟨hor, rfl⟩
  rcases hor with ⟨h1, h2, a', c', b', d', rfl, fa, fb⟩ | ⟨h1, rfl⟩
  · have hra' := fa.rd hra hfa
    have hrb' := fb.rd hrb hfb
    have hca' := (fa.cap hca (by omega)).1
    have hcb' := (fb.cap hcb (by omega)).1
    have hold := fb.old hrb hfb
    have HFA := Lib.hid fa
    have HFB := Lib.hid fb
    have HOLD := Lib.hid hold
    clear fa fb hold hra hrb
    have e1 : Hid ((xs.take (fl xs)).length = fl xs) := fm_length xs
    have e2 : Hid ((ys.take (fl ys)).length = fl ys) := fm_length ys
    have V1 : Hid (val (xs.take (fl xs)) = val xs) := fm_val xs
    have V2 : Hid (val (ys.take (fl ys)) = val ys) := fm_val ys
    have F1 : Hid (fl (xs.take (fl xs)) = fl xs) := by show fl (fm xs) = fl xs; rw [fl_of_cn (fm_cn xs), fm_length]
    have F2 : Hid (fl (ys.take (fl ys)) = fl ys) := by show fl (fm ys) = fl ys; rw [fl_of_cn (fm_cn ys), fm_length]
    go_wp2_with fail
    refine (bits_any a' (fl xs) c' (xs.take (fl xs)) _ e1.out (by omega) hca' hra' (bx.take _)).mono ?_
    rintro e w1 ⟨⟨k1, rfl, hk1, hk1b⟩, rfl⟩
    rw [V1.out] at hk1
    rw [F1.out] at hk1b
    have HK1 := Lib.hid hk1
    clear hk1
    go_wp2_with fail
    refine (bits_any b' (fl ys) d' (ys.take (fl ys)) _ e2.out (by omega) hcb' hrb' (bY.take _)).mono ?_
    rintro e w1 ⟨⟨k2, rfl, hk2, hk2b⟩, rfl⟩
    rw [V2.out] at hk2
    rw [F2.out] at hk2b
    have HK2 := Lib.hid hk2
    clear hk2
    by_cases hbig : 8193 < k1 + k2
    · have hq : decide ((8193 : Int) < (k1 : Int) + (k2 : Int)) = true := by simp; omega
      have hge : Hid (18446744073709551616 ^ 128 ≤ val xs * val ys) := bits_big HK1.out HK2.out hbig (by omega) (by omega)
      go_wp2
      go_ret2
      exact ⟨Below.refl _ _, .inl ⟨fun h => by have := hge.out; omega, rfl⟩⟩
    · have hq : decide ((8193 : Int) < (k1 : Int) + (k2 : Int)) = false := by simp; omega
      have hq2 : decide (min (fl xs : Int) (fl ys : Int) < 32) = true := by simp; omega
      go_wp2_with fail
      refine (byRows_any a' b' (fl xs) (fl ys) c' d' (xs.take (fl xs)) (ys.take (fl ys)) _ e1.out e2.out (by omega) (by omega) hra' hrb' (bx.take _) (bY.take _) HOLD.out).mono ?_
      rintro e w1 ⟨v, ws, rfl, hown, hlen, hbw, hval, hbl⟩
      rw [V1.out, V2.out] at hval
      obtain ⟨av, cv, rfl, hrv⟩ := own64.form hown
      have hroom := own64.room hown
      have HL := Lib.hid hlen
      have hl2 : ws.length ≤ 256 := by omega
      have HO := Lib.hid hown
      have HV := Lib.hid hval
      have HBW := Lib.hid hbw
      clear hlen hown hval hbw
      go_wp2_with fail
      refine (one_any av ws.length cv ws _ rfl (by omega) hroom.1 hrv).mono ?_
      rintro e w2 ⟨hor, rfl⟩
      have hnum := num_fm HBW.out
      rw [HV.out] at hnum
      rcases hor with ⟨h3, av', cv', rfl, g1, g2⟩ | ⟨h3, rfl⟩
      · have G1 := Lib.hid g1
        have G2 := Lib.hid g2
        have HNU := Lib.hid hnum
        clear g1 g2 hnum
        go_wp2
        go_ret2
        refine ⟨hbl, .inr ⟨⟨h1, h2⟩, ?_, _, fm ws, rfl, own64_take HO.out (fl_spec ws).1 G1.out G2.out, HNU.out⟩⟩
        rw [← HNU.out.len_le, fm_length]; exact h3
      · have HNU := Lib.hid hnum
        clear hnum
        go_wp2
        go_ret2
        refine ⟨hbl, .inl ⟨fun h => ?_, rfl⟩⟩
        have := HNU.out.len_le.2 h.2
        rw [fm_length] at this
        omega
  · go_wp2
    go_ret2
    exact ⟨Below.refl _ _, .inl ⟨fun h => by omega, rfl⟩⟩
end Go.Proofs.YtflmgdfcgggmbaaDoor
