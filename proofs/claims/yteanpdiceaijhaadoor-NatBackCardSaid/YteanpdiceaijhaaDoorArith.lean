import Derived.Test.YteanpdiceaijhaaDoorCmp
import Derived.Laws.Externs
import Derived.Shelf.Spec.BitsCarry
namespace Go.Proofs.YteanpdiceaijhaaDoor
open Go.RowKit

theorem add64_run (x y c : Nat) (hc : c ≤ 1) (w : World) :
    (callFunc 115 #[.int .u64 x, .int .u64 y, .int .u64 c]).run Tryd.prog w =
      .ok (.value (.tuple #[.int .u64 (((x + y + c) % 18446744073709551616 : Nat) : Int), .int .u64 (((x + y + c) / 18446744073709551616 : Nat) : Int)])) w := by
  rw [run_callFunc_extern Tryd.func115 (by kernel_rfl) (by kernel_rfl) (by kernel_rfl) (e := add64Entry) (by kernel_rfl), run_add64 x y c (by omega) (by omega) (by omega) (by omega)]
  simp only [Result.andThen]
  congr 5 <;> omega
theorem sub64_run (x y b : Nat) (hb : b ≤ 1) (w : World) :
    (callFunc 104 #[.int .u64 x, .int .u64 y, .int .u64 b]).run Tryd.prog w =
      .ok (.value (.tuple #[.int .u64 (((x + 18446744073709551616 - y - b) % 18446744073709551616 : Nat) : Int), .int .u64 ((if x < y + b then 1 else 0 : Nat) : Int)])) w := by
  rw [run_callFunc_extern Tryd.func104 (by kernel_rfl) (by kernel_rfl) (by kernel_rfl) (e := sub64Entry) (by kernel_rfl), run_sub64 x y b hb]
  rfl

/-- The limbs, by what has been carried in so far. -/
theorem val_snoc (xs : List Nat) (z : Nat) : val (xs ++ [z]) = val xs + 18446744073709551616 ^ xs.length * z := by
  rw [val_append]; simp [val]

theorem take_val_snoc {xs : List Nat} {k : Nat} (h : k < xs.length) : val (xs.take (k + 1)) = val (xs.take k) + 18446744073709551616 ^ k * at0 xs k := by
  rw [take_succ_at0 h, val_snoc, List.length_take, Nat.min_eq_left (by omega)]
theorem add_step {zs : List Nat} {k x y cy A B : Nat} (hl : zs.length = k) (hv : val zs + 18446744073709551616 ^ k * cy = A + B) :
    val (zs ++ [(x + y + cy) % 18446744073709551616]) + 18446744073709551616 ^ (k + 1) * ((x + y + cy) / 18446744073709551616) = (A + 18446744073709551616 ^ k * x) + (B + 18446744073709551616 ^ k * y) := by
  rw [val_snoc, hl, Nat.pow_succ]
  generalize 18446744073709551616 ^ k = p at *
  have e : p * ((x + y + cy) % 18446744073709551616) + p * 18446744073709551616 * ((x + y + cy) / 18446744073709551616) = p * (x + y + cy) := by rw [Nat.mul_assoc, ← Nat.mul_add, Nat.mod_add_div]
  rw [Nat.mul_add, Nat.mul_add] at e
  omega
theorem putL_rest {cur : Array Value} {off : Nat} {xs zs : List Nat} (h : Sg cur off xs) (hl : zs.length ≤ xs.length) : putL cur off zs = putL cur off (zs ++ xs.drop zs.length) := by
  have h1 := h.1
  have hlen : (zs ++ xs.drop zs.length).length = xs.length := by simp; omega
  apply Array.ext_getElem?
  intro j
  by_cases h2 : j < off ∨ off + xs.length ≤ j
  · rw [putL_out (by omega) (by omega), putL_out (by omega) (by omega)]
  · obtain ⟨i, rfl⟩ : ∃ i, j = off + i := ⟨j - off, by omega⟩
    by_cases hi : i < zs.length
    · rw [putL_in (by omega) hi, putL_in (by omega) (by omega), at0_append_left hi]
    · obtain ⟨d, rfl⟩ : ∃ d, i = zs.length + d := ⟨i - zs.length, by omega⟩
      rw [putL_out (by omega) (by omega), putL_in (by omega) (by omega), at0_append_right, at0_drop]
      exact h.2 _ (by omega)
theorem val_take_drop (xs : List Nat) (k : Nat) (h : k ≤ xs.length) : val xs = val (xs.take k) + 18446744073709551616 ^ k * val (xs.drop k) := by
  rw (config := { occs := .pos [1] }) [← List.take_append_drop k xs]
  rw [val_append, List.length_take, Nat.min_eq_left h]
theorem Bd.snoc {zs : List Nat} {z : Nat} (h : Bd zs) (hz : z < 18446744073709551616) : Bd (zs ++ [z]) := h.append (Bd.nil.cons hz)
theorem lit64 {a : Int} {b : Nat} (h : a = b) : Value.int .u64 a = Value.int .u64 (b : Nat) := by rw [h]

set_option maxHeartbeats 1000000 in
/-- raise: b is added to the piece of the block; what is carried out is told. -/
theorem raise_any (g off n c : Nat) (cur : Array Value) (xs : List Nat) (b : Option Addr) (m cb : Nat) (ys : List Nat) (w : World) (hb : Blk w g cur) (hs : Sg cur off xs) (hn : xs.length = n) (hbig : n ≤ 1099511627776) (bx : Bd xs)
    (hr : Rd .u64 w b ys) (hm : ys.length = m) (hmn : m ≤ n) (bY : Bd ys) (hne : ∀ p, b = some p → p.block ≠ g) :
    Calls Tryd.prog 77 #[.slice (some ⟨g, off, none⟩) n c, .slice b m cb] w fun e w' => ∃ cy zs, e = .returned (.int .u64 (cy : Nat)) ∧ zs.length = n ∧ Bd zs ∧ cy ≤ 1 ∧
      val zs + 18446744073709551616 ^ n * cy = val xs + val ys ∧ Blk w' g (putL cur off zs) ∧ Chg (fun k => k = g) w w' := by
  have hA := add64_run
  go_enter Tryd.func77, Tryd.ntmps77
  go_wp2
  go_loopw [5, 11] (fun cv i wr => ∃ (k cy : Nat) (zs : List Nat), k ≤ m ∧ i = .int .i64 k ∧ cv = .int .u64 cy ∧ cy ≤ 1 ∧ Hid (zs.length = k) ∧ Hid (Bd zs) ∧ Hid (val zs + 18446744073709551616 ^ k * cy = val (xs.take k) + val (ys.take k)) ∧ Hid (Blk wr g (putL cur off zs)) ∧ Chg (fun k => k = g) w wr) (fun _ i _ => m - (intOf i).toNat)
  case atStart => exact ⟨0, 0, [], Nat.zero_le _, rfl, rfl, by omega, rfl, Bd.nil, rfl, by rw [putL_nil]; exact hb, Chg.refl _ _⟩
  case round =>
    obtain ⟨k, cy, zs, hk, rfl, rfl, hcy, HL, HB, HV, HK, hC⟩ := hrel
    by_cases hlt : k < m
    · obtain ⟨bb, ob, rfl⟩ := hr.isAt (by omega)
      have hc2 := hC.cell (hr.cell (i := k) (by omega)) (hne ⟨bb, ob, none⟩ rfl)
      have hz := HL.out
      have hsz := hs.1
      have hc1 : wr.cell? ⟨g, off + k, none⟩ = some (.int .u64 (at0 xs k : Nat)) := by
        rw [Blk.cell HK.out, putL_out (by omega) (by omega)]; exact hs.2 k (by omega)
      have hf1 : wr.frozen? ⟨g, off + k, none⟩ = false := Blk.free HK.out _
      have hkn : k < n := by omega
      clear hz
      have hb1 := bx.at0 k
      have hb2 := bY.at0 k
      have HX : Hid (val (xs.take (k + 1)) = val (xs.take k) + 18446744073709551616 ^ k * at0 xs k) := take_val_snoc (by omega)
      have HY : Hid (val (ys.take (k + 1)) = val (ys.take k) + 18446744073709551616 ^ k * at0 ys k) := take_val_snoc (by omega)
      generalize at0 xs k = x at *
      generalize at0 ys k = y at *
      go_wp2
      go_roundw
      case rel =>
        have hz := HL.out
        refine ⟨k + 1, (x + y + cy) / 18446744073709551616, zs ++ [(x + y + cy) % 18446744073709551616], by omega, by go_num, lit64 (by omega), by omega, by show (zs ++ [_]).length = k + 1; simp [hz], HB.out.snoc (by omega), ?_, ?_, hC.setCell (p := ⟨g, off + k, none⟩) rfl _⟩
        · have := add_step (x := x) (y := y) hz HV.out
          rw [← HX.out, ← HY.out] at this
          exact this
        · have := Blk.set HK.out (off + k) (.int .u64 (((x + y + cy) % 18446744073709551616 : Nat) : Int))
          rw [← hz, putL_snoc (by omega)] at this
          rw [← hz, lit64 (show ((x : Int) + y + cy) % 18446744073709551616 = ((x + y + cy) % 18446744073709551616 : Nat) by omega)]
          exact this
      case measure => simp [intOf]; omega
    · obtain rfl : m = k := by omega
      rw [show ys.take m = ys by rw [← hm, List.take_length]] at HV
      clear hr hne
      have hsz := hs.1
      have HS := Lib.hid hs
      clear hs
      go_wp2
      go_loopw [5, 8] (fun cv i wr => ∃ (k cy : Nat) (zs : List Nat), k ≤ n ∧ i = .int .i64 k ∧ cv = .int .u64 cy ∧ cy ≤ 1 ∧ Hid (zs.length = k) ∧ Hid (Bd zs) ∧ Hid (val zs + 18446744073709551616 ^ k * cy = val (xs.take k) + val ys) ∧ Hid (Blk wr g (putL cur off zs)) ∧ Chg (fun k => k = g) w wr) (fun _ i _ => n - (intOf i).toNat)
      case atStart => exact ⟨m, cy, zs, hmn, rfl, rfl, hcy, HL, HB, HV, HK, hC⟩
      case round =>
        clear HL HB HV HK hC hcy
        obtain ⟨k, cy, zs, hk, rfl, rfl, hcy, HL, HB, HV, HK, hC⟩ := hrel
        by_cases hkn : k < n
        · have hz := HL.out
          have hc1 : wr.cell? ⟨g, off + k, none⟩ = some (.int .u64 (at0 xs k : Nat)) := by
            rw [Blk.cell HK.out, putL_out (by omega) (by omega)]; exact HS.out.2 k (by omega)
          have hf1 : wr.frozen? ⟨g, off + k, none⟩ = false := Blk.free HK.out _
          clear hz
          have hb1 := bx.at0 k
          have HX : Hid (val (xs.take (k + 1)) = val (xs.take k) + 18446744073709551616 ^ k * at0 xs k) := take_val_snoc (by omega)
          generalize at0 xs k = x at *
          have hA0 : ∀ w, (callFunc 115 #[.int .u64 (x : Nat), .int .u64 0, .int .u64 (cy : Nat)]).run Tryd.prog w = .ok (.value (.tuple #[.int .u64 (((x + cy) % 18446744073709551616 : Nat) : Int), .int .u64 (((x + cy) / 18446744073709551616 : Nat) : Int)])) w := fun w => add64_run x 0 cy hcy w
          by_cases h0 : cy = 0
          · subst h0
            go_wp2
            go_ret
            have hz := HL.out
            refine ⟨0, zs ++ xs.drop zs.length, rfl, by simp; omega, HB.out.append (bx.drop _), by omega, ?_, ?_, hC⟩
            · have h1 := HV.out
              rw [val_append, hz]
              rw [Nat.mul_zero] at h1
              rw [val_take_drop xs k (by omega)]
              omega
            · have h1 := HK.out
              rw [putL_rest HS.out (by omega)] at h1
              exact h1
          · have h01 : 0 < cy := by omega
            have hq : decide ((0 : Int) < (cy : Int)) = true := by simp; omega
            go_wp2
            go_roundw
            case rel =>
              have hz := HL.out
              refine ⟨k + 1, (x + 0 + cy) / 18446744073709551616, zs ++ [(x + 0 + cy) % 18446744073709551616], by omega, by go_num, lit64 (by omega), by omega, by show (zs ++ [_]).length = k + 1; simp [hz], HB.out.snoc (by omega), ?_, ?_, hC.setCell (p := ⟨g, off + k, none⟩) rfl _⟩
              · have := add_step (x := x) (y := 0) hz HV.out
                rw [← HX.out, Nat.mul_zero, Nat.add_zero] at this
                exact this
              · have := Blk.set HK.out (off + k) (.int .u64 (((x + 0 + cy) % 18446744073709551616 : Nat) : Int))
                rw [← hz, putL_snoc (by omega)] at this
                rw [← hz, lit64 (show ((x : Int) + cy) % 18446744073709551616 = ((x + 0 + cy) % 18446744073709551616 : Nat) by omega)]
                exact this
            case measure => simp [intOf]; omega
        · obtain rfl : n = k := by omega
          go_wp2
          go_ret
          refine ⟨cy, zs, rfl, HL.out, HB.out, hcy, ?_, HK.out, hC⟩
          have h1 := HV.out
          rw [← hn, List.take_length] at h1
          rw [← hn]; exact h1
end Go.Proofs.YteanpdiceaijhaaDoor
