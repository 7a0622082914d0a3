import Derived.Test.YteanpdiceaijhaaDoorArith
namespace Go.Proofs.YteanpdiceaijhaaDoor
open Go.RowKit

theorem add64_int (x y : Int) (hx : 0 ≤ x) (hy : 0 ≤ y) (w : World) : (callFunc 115 #[.int .u64 x, .int .u64 y, .int .u64 0]).run Tryd.prog w = .ok (.value (.tuple #[.int .u64 ((x + y) % 18446744073709551616), .int .u64 ((x + y) / 18446744073709551616)])) w := by
  obtain ⟨a, rfl⟩ := Int.eq_ofNat_of_zero_le hx
  obtain ⟨b, rfl⟩ := Int.eq_ofNat_of_zero_le hy
  have h := add64_run a b 0 (by omega) w
  rw [Nat.add_zero] at h
  exact h
theorem sub64_q (x y b : Nat) (hx : x < 18446744073709551616) (hy : y < 18446744073709551616) (hb : b ≤ 1) (w : World) : (callFunc 104 #[.int .u64 x, .int .u64 y, .int .u64 b]).run Tryd.prog w =
    .ok (.value (.tuple #[.int .u64 (((x : Int) + 18446744073709551616 - y - b) % 18446744073709551616), .int .u64 (1 - ((x : Int) + 18446744073709551616 - y - b) / 18446744073709551616)])) w := by
  rw [sub64_run x y b hb w, show ((((x + 18446744073709551616 - y - b) % 18446744073709551616 : Nat)) : Int) = ((x : Int) + 18446744073709551616 - y - b) % 18446744073709551616 by omega]
  have e : ((if x < y + b then 1 else 0 : Nat) : Int) = 1 - ((x : Int) + 18446744073709551616 - y - b) / 18446744073709551616 := by
    by_cases h : x < y + b
    · rw [if_pos h]; omega
    · rw [if_neg h]; omega
  rw [e]
theorem sub64_int (x y : Int) (hx : 0 ≤ x) (hx2 : x < 18446744073709551616) (hy : 0 ≤ y) (hy2 : y < 18446744073709551616) (w : World) : (callFunc 104 #[.int .u64 x, .int .u64 y, .int .u64 0]).run Tryd.prog w = .ok (.value (.tuple #[.int .u64 ((x + 18446744073709551616 - y) % 18446744073709551616), .int .u64 (1 - (x + 18446744073709551616 - y) / 18446744073709551616)])) w := by
  obtain ⟨a, rfl⟩ := Int.eq_ofNat_of_zero_le hx
  obtain ⟨b, rfl⟩ := Int.eq_ofNat_of_zero_le hy
  have h := sub64_q a b 0 (by omega) (by omega) (by omega) w
  simp only [Int.natCast_zero, Int.sub_zero] at h
  exact h
theorem Blk.lit {w : World} {p : Addr} {A B : Int} {g : Nat} {cur : Array Value} (h : Blk (w.setCell p (.int .u64 A)) g cur) (e : A = B) : Blk (w.setCell p (.int .u64 B)) g cur := e ▸ h

def MulPost (x y : Nat) (w : World) (e : Ending) (w' : World) : Prop :=
  ∃ h l : Nat, e = .returned (.tuple #[.int .u64 (h : Nat), .int .u64 (l : Nat)]) ∧ Hid (h * 18446744073709551616 + l = x * y) ∧ l < 18446744073709551616 ∧ h * 18446744073709551616 + l ≤ 340282366920938463426481119284349108225 ∧ w = w'
theorem mul64_any (x y : Nat) (hx : x < 18446744073709551616) (hy : y < 18446744073709551616) (w : World) :
    Calls Tryd.prog 117 #[.int .u64 x, .int .u64 y] w (MulPost x y w) :=
  (Tryd.bits_Mul64 x y hx hy w).mono fun e w' ⟨h1, h2⟩ => by
    have hm : x * y ≤ 18446744073709551615 * 18446744073709551615 := Nat.mul_le_mul (by omega) (by omega)
    have hd := Nat.div_add_mod (x * y) 18446744073709551616
    rw [Nat.mul_comm] at hd
    exact ⟨_, _, h1, hd, Nat.mod_lt _ (by decide), by omega, h2.symm⟩

/-- One step of 'a plus b times x'. -/
theorem mul_step {zs : List Nat} {k a x y cy A B s c : Nat} (hl : zs.length = k) (hv : val zs + 18446744073709551616 ^ k * cy = A + x * B) (h : s + 18446744073709551616 * c = a + x * y + cy) :
    val (zs ++ [s]) + 18446744073709551616 ^ (k + 1) * c = (A + 18446744073709551616 ^ k * a) + x * (B + 18446744073709551616 ^ k * y) := by
  rw [val_snoc, hl, Nat.pow_succ]
  generalize 18446744073709551616 ^ k = p at *
  have e : p * s + p * 18446744073709551616 * c = p * (a + x * y + cy) := by rw [Nat.mul_assoc, ← Nat.mul_add, h]
  rw [Nat.mul_add, Nat.mul_add] at e
  rw [Nat.mul_add, show x * (p * y) = p * (x * y) by rw [← Nat.mul_assoc, Nat.mul_comm x p, Nat.mul_assoc]]
  omega

set_option maxHeartbeats 1000000 in
set_option maxRecDepth 100000 in
/-- raiseTimes: b times x is added to the piece; what is carried out is told. -/
theorem raiseTimes_any (g off n c : Nat) (cur : Array Value) (xs : List Nat) (b : Option Addr) (cb : Nat) (ys : List Nat) (x : Nat) (w : World) (hb : Blk w g cur) (hs : Sg cur off xs) (hn : xs.length = n) (hbig : n ≤ 1099511627776) (bx : Bd xs)
    (hr : Rd .u64 w b ys) (hm : ys.length = n) (bY : Bd ys) (hx : x < 18446744073709551616) (hne : ∀ p, b = some p → p.block ≠ g) :
    Calls Tryd.prog 107 #[.slice (some ⟨g, off, none⟩) n c, .slice b n cb, .int .u64 x] w fun e w' => ∃ cy zs, e = .returned (.int .u64 (cy : Nat)) ∧ zs.length = n ∧ Bd zs ∧ cy < 18446744073709551616 ∧
      val zs + 18446744073709551616 ^ n * cy = val xs + x * val ys ∧ Blk w' g (putL cur off zs) ∧ Chg (fun k => k = g) w w' := by
  have hA : ∀ (x y : Nat) (w : World), (callFunc 115 #[.int .u64 x, .int .u64 y, .int .u64 0]).run Tryd.prog w = .ok (.value (.tuple #[.int .u64 (((x + y) % 18446744073709551616 : Nat) : Int), .int .u64 (((x + y) / 18446744073709551616 : Nat) : Int)])) w := fun x y w => add64_run x y 0 (by omega) w
  go_enter Tryd.func107, Tryd.ntmps107
  go_wp2
  go_loopw [7, 15] (fun cv i wr => ∃ (k cy : Nat) (zs : List Nat), k ≤ n ∧ i = .int .i64 k ∧ cv = .int .u64 cy ∧ cy < 18446744073709551616 ∧ Hid (zs.length = k) ∧ Hid (Bd zs) ∧ Hid (val zs + 18446744073709551616 ^ k * cy = val (xs.take k) + x * val (ys.take k)) ∧ Hid (Blk wr g (putL cur off zs)) ∧ Chg (fun k => k = g) w wr) (fun _ i _ => n - (intOf i).toNat)
  case atStart => exact ⟨0, 0, [], Nat.zero_le _, rfl, rfl, by omega, rfl, Bd.nil, by show _ = _; simp [val], by rw [putL_nil]; exact hb, Chg.refl _ _⟩
  case round =>
    obtain ⟨k, cy, zs, hk, rfl, rfl, hcy, HL, HB, HV, HK, hC⟩ := hrel
    by_cases hlt : k < n
    · obtain ⟨bb, ob, rfl⟩ := hr.isAt (by omega)
      have hc2 := hC.cell (hr.cell (i := k) (by omega)) (hne ⟨bb, ob, none⟩ rfl)
      have hz := HL.out
      have hsz := hs.1
      have hc1 : wr.cell? ⟨g, off + k, none⟩ = some (.int .u64 (at0 xs k : Nat)) := by
        rw [Blk.cell HK.out, putL_out (by omega) (by omega)]; exact hs.2 k (by omega)
      have hf1 : wr.frozen? ⟨g, off + k, none⟩ = false := Blk.free HK.out _
      clear hz
      have hb1 := bx.at0 k
      have hb2 := bY.at0 k
      have HX : Hid (val (xs.take (k + 1)) = val (xs.take k) + 18446744073709551616 ^ k * at0 xs k) := take_val_snoc (by omega)
      have HY : Hid (val (ys.take (k + 1)) = val (ys.take k) + 18446744073709551616 ^ k * at0 ys k) := take_val_snoc (by omega)
      generalize at0 xs k = a at *
      generalize at0 ys k = y at *
      go_wp2_with fail
      refine (mul64_any x y hx hb2 _).mono ?_
      rintro e w' ⟨h, l, rfl, HM, hl, hM, rfl⟩
      have hA2 := add64_int a (((l : Int) + cy) % 18446744073709551616) (by omega) (by omega)
      go_wp2
      go_roundw
      case rel =>
        have hz := HL.out
        refine ⟨k + 1, h + (l + cy) / 18446744073709551616 + (a + (l + cy) % 18446744073709551616) / 18446744073709551616, zs ++ [(a + (l + cy) % 18446744073709551616) % 18446744073709551616], by omega, by go_num, lit64 (by omega), by omega, by show (zs ++ [_]).length = k + 1; simp [hz], HB.out.snoc (by omega), ?_, ?_, hC.setCell (p := ⟨g, off + k, none⟩) rfl _⟩
        · have hM2 := HM.out
          have := mul_step (a := a) (x := x) (y := y) (s := (a + (l + cy) % 18446744073709551616) % 18446744073709551616) (c := h + (l + cy) / 18446744073709551616 + (a + (l + cy) % 18446744073709551616) / 18446744073709551616) hz HV.out (by rw [← hM2]; omega)
          rw [← HX.out, ← HY.out] at this
          exact this
        · have := Blk.set HK.out (off + k) (.int .u64 (((a + (l + cy) % 18446744073709551616) % 18446744073709551616 : Nat) : Int))
          rw [← hz, putL_snoc (by omega)] at this
          rw [← hz]
          exact this.lit (by omega)
      case measure => simp [intOf]; omega
    · obtain rfl : n = k := by omega
      go_wp2
      go_ret
      refine ⟨cy, zs, rfl, HL.out, HB.out, hcy, ?_, HK.out, hC⟩
      have h1 := HV.out
      rw [← hn, List.take_length, hn, ← hm, List.take_length, hm] at h1
      exact h1

/-- One step of 'a less b times x'. -/
theorem sub_mul_step {zs : List Nat} {k a x y cy A B s c : Nat} (hl : zs.length = k) (hv : val zs + x * B = A + 18446744073709551616 ^ k * cy) (h : s + (x * y + cy) = a + 18446744073709551616 * c) :
    val (zs ++ [s]) + x * (B + 18446744073709551616 ^ k * y) = (A + 18446744073709551616 ^ k * a) + 18446744073709551616 ^ (k + 1) * c := by
  rw [val_snoc, hl, Nat.pow_succ]
  generalize 18446744073709551616 ^ k = p at *
  have e : p * (s + (x * y + cy)) = p * a + p * 18446744073709551616 * c := by rw [h, Nat.mul_add, Nat.mul_assoc]
  rw [Nat.mul_add, Nat.mul_add] at e
  rw [Nat.mul_add, show x * (p * y) = p * (x * y) by rw [← Nat.mul_assoc, Nat.mul_comm x p, Nat.mul_assoc]]
  omega

set_option maxHeartbeats 1000000 in
set_option maxRecDepth 100000 in
/-- lowerTimes: b times x is taken off the piece; what is still to be taken off is told. -/
theorem lowerTimes_any (g off n c : Nat) (cur : Array Value) (xs : List Nat) (b : Option Addr) (cb : Nat) (ys : List Nat) (x : Nat) (w : World) (hb : Blk w g cur) (hs : Sg cur off xs) (hn : xs.length = n) (hbig : n ≤ 1099511627776) (bx : Bd xs)
    (hr : Rd .u64 w b ys) (hm : ys.length = n) (bY : Bd ys) (hx : x < 18446744073709551616) (hne : ∀ p, b = some p → p.block ≠ g) :
    Calls Tryd.prog 123 #[.slice (some ⟨g, off, none⟩) n c, .slice b n cb, .int .u64 x] w fun e w' => ∃ cy zs, e = .returned (.int .u64 (cy : Nat)) ∧ zs.length = n ∧ Bd zs ∧ cy < 18446744073709551616 ∧
      val zs + x * val ys = val xs + 18446744073709551616 ^ n * cy ∧ Blk w' g (putL cur off zs) ∧ Chg (fun k => k = g) w w' := by
  have hA : ∀ (x y : Nat) (w : World), (callFunc 115 #[.int .u64 x, .int .u64 y, .int .u64 0]).run Tryd.prog w = .ok (.value (.tuple #[.int .u64 (((x + y) % 18446744073709551616 : Nat) : Int), .int .u64 (((x + y) / 18446744073709551616 : Nat) : Int)])) w := fun x y w => add64_run x y 0 (by omega) w
  go_enter Tryd.func123, Tryd.ntmps123
  go_wp2
  go_loopw [7, 15] (fun cv i wr => ∃ (k cy : Nat) (zs : List Nat), k ≤ n ∧ i = .int .i64 k ∧ cv = .int .u64 cy ∧ cy < 18446744073709551616 ∧ Hid (zs.length = k) ∧ Hid (Bd zs) ∧ Hid (val zs + x * val (ys.take k) = val (xs.take k) + 18446744073709551616 ^ k * cy) ∧ Hid (Blk wr g (putL cur off zs)) ∧ Chg (fun k => k = g) w wr) (fun _ i _ => n - (intOf i).toNat)
  case atStart => exact ⟨0, 0, [], Nat.zero_le _, rfl, rfl, by omega, rfl, Bd.nil, by show _ = _; simp [val], by rw [putL_nil]; exact hb, Chg.refl _ _⟩
  case round =>
    obtain ⟨k, cy, zs, hk, rfl, rfl, hcy, HL, HB, HV, HK, hC⟩ := hrel
    by_cases hlt : k < n
    · obtain ⟨bb, ob, rfl⟩ := hr.isAt (by omega)
      have hc2 := hC.cell (hr.cell (i := k) (by omega)) (hne ⟨bb, ob, none⟩ rfl)
      have hz := HL.out
      have hsz := hs.1
      have hc1 : wr.cell? ⟨g, off + k, none⟩ = some (.int .u64 (at0 xs k : Nat)) := by
        rw [Blk.cell HK.out, putL_out (by omega) (by omega)]; exact hs.2 k (by omega)
      have hf1 : wr.frozen? ⟨g, off + k, none⟩ = false := Blk.free HK.out _
      clear hz
      have hb1 := bx.at0 k
      have hb2 := bY.at0 k
      have HX : Hid (val (xs.take (k + 1)) = val (xs.take k) + 18446744073709551616 ^ k * at0 xs k) := take_val_snoc (by omega)
      have HY : Hid (val (ys.take (k + 1)) = val (ys.take k) + 18446744073709551616 ^ k * at0 ys k) := take_val_snoc (by omega)
      generalize at0 xs k = a at *
      generalize at0 ys k = y at *
      go_wp2_with fail
      refine (mul64_any x y hx hb2 _).mono ?_
      rintro e w' ⟨h, l, rfl, HM, hl, hM, rfl⟩
      have hA2 := sub64_int a (((l : Int) + cy) % 18446744073709551616) (by omega) (by omega) (by omega) (by omega)
      go_wp2
      go_roundw
      case rel =>
        have hz := HL.out
        refine ⟨k + 1, h + (l + cy) / 18446744073709551616 + (1 - (a + 18446744073709551616 - (l + cy) % 18446744073709551616) / 18446744073709551616), zs ++ [(a + 18446744073709551616 - (l + cy) % 18446744073709551616) % 18446744073709551616], by omega, by go_num, lit64 (by omega), by omega, by show (zs ++ [_]).length = k + 1; simp [hz], HB.out.snoc (by omega), ?_, ?_, hC.setCell (p := ⟨g, off + k, none⟩) rfl _⟩
        · have hM2 := HM.out
          have := sub_mul_step (a := a) (x := x) (y := y) (s := (a + 18446744073709551616 - (l + cy) % 18446744073709551616) % 18446744073709551616) (c := h + (l + cy) / 18446744073709551616 + (1 - (a + 18446744073709551616 - (l + cy) % 18446744073709551616) / 18446744073709551616)) hz HV.out (by rw [← hM2]; omega)
          rw [← HX.out, ← HY.out] at this
          exact this
        · have := Blk.set HK.out (off + k) (.int .u64 (((a + 18446744073709551616 - (l + cy) % 18446744073709551616) % 18446744073709551616 : Nat) : Int))
          rw [← hz, putL_snoc (by omega)] at this
          rw [← hz]
          exact this.lit (by omega)
      case measure => simp [intOf]; omega
    · obtain rfl : n = k := by omega
      go_wp2
      go_ret
      refine ⟨cy, zs, rfl, HL.out, HB.out, hcy, ?_, HK.out, hC⟩
      have h1 := HV.out
      rw [← hn, List.take_length, hn, ← hm, List.take_length, hm] at h1
      exact h1

/-- One step of 'a less b'. -/
theorem sub_step {zs : List Nat} {k a y cy A B s c : Nat} (hl : zs.length = k) (hv : val zs + B = A + 18446744073709551616 ^ k * cy) (h : s + (y + cy) = a + 18446744073709551616 * c) :
    val (zs ++ [s]) + (B + 18446744073709551616 ^ k * y) = (A + 18446744073709551616 ^ k * a) + 18446744073709551616 ^ (k + 1) * c := by
  have := sub_mul_step (x := 1) (y := y) (B := B) (A := A) (s := s) (c := c) hl (by rw [Nat.one_mul]; exact hv) (by rw [Nat.one_mul]; exact h)
  rw [Nat.one_mul] at this
  exact this

set_option maxHeartbeats 1000000 in
set_option maxRecDepth 100000 in
/-- lower: b is taken off the piece, which is not below it. -/
theorem lower_any (g off n c : Nat) (cur : Array Value) (xs : List Nat) (b : Option Addr) (m cb : Nat) (ys : List Nat) (w : World) (hb : Blk w g cur) (hs : Sg cur off xs) (hn : xs.length = n) (hbig : n ≤ 1099511627776) (bx : Bd xs)
    (hr : Rd .u64 w b ys) (hm : ys.length = m) (hmn : m ≤ n) (bY : Bd ys) (hne : ∀ p, b = some p → p.block ≠ g) (hge : val ys ≤ val xs) :
    Calls Tryd.prog 71 #[.slice (some ⟨g, off, none⟩) n c, .slice b m cb] w fun e w' => e = .returned (.tuple #[]) ∧ ∃ zs, zs.length = n ∧ Bd zs ∧
      val zs = val xs - val ys ∧ Blk w' g (putL cur off zs) ∧ Chg (fun k => k = g) w w' := by
  go_enter Tryd.func71, Tryd.ntmps71
  go_wp2
  go_loopw [4, 10] (fun cv i wr => ∃ (k cy : Nat) (zs : List Nat), k ≤ m ∧ i = .int .i64 k ∧ cv = .int .u64 cy ∧ cy ≤ 1 ∧ Hid (zs.length = k) ∧ Hid (Bd zs) ∧ Hid (val zs + val (ys.take k) = val (xs.take k) + 18446744073709551616 ^ k * cy) ∧ Hid (Blk wr g (putL cur off zs)) ∧ Chg (fun k => k = g) w wr) (fun _ i _ => m - (intOf i).toNat)
  case atStart => exact ⟨0, 0, [], Nat.zero_le _, rfl, rfl, by omega, rfl, Bd.nil, by show _ = _; simp [val], by rw [putL_nil]; exact hb, Chg.refl _ _⟩
  case round =>
    obtain ⟨k, cy, zs, hk, rfl, rfl, hcy, HL, HB, HV, HK, hC⟩ := hrel
    by_cases hlt : k < m
    · obtain ⟨bb, ob, rfl⟩ := hr.isAt (by omega)
      have hc2 := hC.cell (hr.cell (i := k) (by omega)) (hne ⟨bb, ob, none⟩ rfl)
      have hz := HL.out
      have hsz := hs.1
      have hc1 : wr.cell? ⟨g, off + k, none⟩ = some (.int .u64 (at0 xs k : Nat)) := by
        rw [Blk.cell HK.out, putL_out (by omega) (by omega)]; exact hs.2 k (by omega)
      have hf1 : wr.frozen? ⟨g, off + k, none⟩ = false := Blk.free HK.out _
      have hkn : k < n := by omega
      clear hz
      have hb1 := bx.at0 k
      have hb2 := bY.at0 k
      have HX : Hid (val (xs.take (k + 1)) = val (xs.take k) + 18446744073709551616 ^ k * at0 xs k) := take_val_snoc (by omega)
      have HY : Hid (val (ys.take (k + 1)) = val (ys.take k) + 18446744073709551616 ^ k * at0 ys k) := take_val_snoc (by omega)
      have HG := Lib.hid hge
      clear hge
      generalize at0 xs k = x at *
      generalize at0 ys k = y at *
      have hA := sub64_q x y cy hb1 hb2 hcy
      go_wp2
      go_roundw
      case rel =>
        have hz := HL.out
        refine ⟨k + 1, 1 - (x + 18446744073709551616 - y - cy) / 18446744073709551616, zs ++ [(x + 18446744073709551616 - y - cy) % 18446744073709551616], by omega, by go_num, lit64 (by omega), by omega, by show (zs ++ [_]).length = k + 1; simp [hz], HB.out.snoc (by omega), ?_, ?_, hC.setCell (p := ⟨g, off + k, none⟩) rfl _⟩
        · have := sub_step (a := x) (y := y) (s := (x + 18446744073709551616 - y - cy) % 18446744073709551616) (c := 1 - (x + 18446744073709551616 - y - cy) / 18446744073709551616) hz HV.out (by omega)
          rw [← HX.out, ← HY.out] at this
          exact this
        · have := Blk.set HK.out (off + k) (.int .u64 (((x + 18446744073709551616 - y - cy) % 18446744073709551616 : Nat) : Int))
          rw [← hz, putL_snoc (by omega)] at this
          rw [← hz]
          exact this.lit (by omega)
      case measure => simp [intOf]; omega
    · obtain rfl : m = k := by omega
      rw [show ys.take m = ys by rw [← hm, List.take_length]] at HV
      clear hr hne
      have hsz := hs.1
      have HS := Lib.hid hs
      have HG := Lib.hid hge
      clear hs hge
      go_wp2
      go_loopw [4, 7] (fun cv i wr => ∃ (k cy : Nat) (zs : List Nat), k ≤ n ∧ i = .int .i64 k ∧ cv = .int .u64 cy ∧ cy ≤ 1 ∧ Hid (zs.length = k) ∧ Hid (Bd zs) ∧ Hid (val zs + val ys = val (xs.take k) + 18446744073709551616 ^ k * cy) ∧ Hid (Blk wr g (putL cur off zs)) ∧ Chg (fun k => k = g) w wr) (fun _ i _ => n - (intOf i).toNat)
      case atStart => exact ⟨m, cy, zs, hmn, rfl, rfl, hcy, HL, HB, HV, HK, hC⟩
      case round =>
        clear HL HB HV HK hC hcy
        obtain ⟨k, cy, zs, hk, rfl, rfl, hcy, HL, HB, HV, HK, hC⟩ := hrel
        by_cases hkn : k < n
        · have hz := HL.out
          have hc1 : wr.cell? ⟨g, off + k, none⟩ = some (.int .u64 (at0 xs k : Nat)) := by
            rw [Blk.cell HK.out, putL_out (by omega) (by omega)]; exact HS.out.2 k (by omega)
          have hf1 : wr.frozen? ⟨g, off + k, none⟩ = false := Blk.free HK.out _
          clear hz
          have hb1 := bx.at0 k
          have HX : Hid (val (xs.take (k + 1)) = val (xs.take k) + 18446744073709551616 ^ k * at0 xs k) := take_val_snoc (by omega)
          generalize at0 xs k = x at *
          by_cases h0 : cy = 0
          · subst h0
            go_wp2
            refine bodyPost_end (results_none rfl _ _ _) rfl ?_
            have hz := HL.out
            refine ⟨rfl, zs ++ xs.drop zs.length, by simp; omega, HB.out.append (bx.drop _), ?_, ?_, hC⟩
            · have h1 := HV.out
              have h2 := HG.out
              rw [val_append, hz]
              rw [Nat.mul_zero] at h1
              rw [val_take_drop xs k (by omega)] at h2 ⊢
              omega
            · have h1 := HK.out
              rw [putL_rest HS.out (by omega)] at h1
              exact h1
          · have h01 : 0 < cy := by omega
            have hq : decide ((0 : Int) < (cy : Int)) = true := by simp; omega
            have hA0 : ∀ w, (callFunc 104 #[.int .u64 (x : Nat), .int .u64 0, .int .u64 (cy : Nat)]).run Tryd.prog w = .ok (.value (.tuple #[.int .u64 (((x : Int) + 18446744073709551616 - cy) % 18446744073709551616), .int .u64 (1 - ((x : Int) + 18446744073709551616 - cy) / 18446744073709551616)])) w := fun w => by
              have h := sub64_q x 0 cy hb1 (by omega) hcy w
              simp only [Int.natCast_zero, Int.sub_zero] at h
              exact h
            go_wp2
            go_roundw
            case rel =>
              have hz := HL.out
              refine ⟨k + 1, 1 - (x + 18446744073709551616 - cy) / 18446744073709551616, zs ++ [(x + 18446744073709551616 - cy) % 18446744073709551616], by omega, by go_num, lit64 (by omega), by omega, by show (zs ++ [_]).length = k + 1; simp [hz], HB.out.snoc (by omega), ?_, ?_, hC.setCell (p := ⟨g, off + k, none⟩) rfl _⟩
              · have := sub_step (a := x) (y := 0) (s := (x + 18446744073709551616 - cy) % 18446744073709551616) (c := 1 - (x + 18446744073709551616 - cy) / 18446744073709551616) hz HV.out (by omega)
                rw [← HX.out, Nat.mul_zero, Nat.add_zero] at this
                exact this
              · have := Blk.set HK.out (off + k) (.int .u64 (((x + 18446744073709551616 - cy) % 18446744073709551616 : Nat) : Int))
                rw [← hz, putL_snoc (by omega)] at this
                rw [← hz]
                exact this.lit (by omega)
            case measure => simp [intOf]; omega
        · obtain rfl : n = k := by omega
          go_wp2
          refine bodyPost_end (results_none rfl _ _ _) rfl ?_
          have h1 := HV.out
          have h2 := HG.out
          have h3 := val_lt HB.out
          rw [HL.out] at h3
          rw [← hn, List.take_length, hn] at h1
          obtain rfl : cy = 0 := by
            refine Nat.eq_zero_of_not_pos fun hp => ?_
            obtain rfl : cy = 1 := by omega
            omega
          refine ⟨rfl, zs, HL.out, HB.out, by omega, HK.out, hC⟩
end Go.Proofs.YteanpdiceaijhaaDoor
