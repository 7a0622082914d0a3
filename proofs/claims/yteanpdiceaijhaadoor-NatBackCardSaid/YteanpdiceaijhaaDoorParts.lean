import Derived.Test.YteanpdiceaijhaaDoorDiv64
namespace Go.Proofs.YteanpdiceaijhaaDoor
open Go.RowKit

theorem Chg.drewM {S : Nat → Prop} {a w : World} (h : Chg S a w) (n : Nat) : Chg S a (w.drewN n) := ⟨h.os, h.tape, h.output, h.size, h.block⟩
theorem putL_cons {cur : Array Value} {off q : Nat} {qs : List Nat} (h : off + 1 + qs.length ≤ cur.size) : (putL cur (off + 1) qs).setIfInBounds off (.int .u64 (q : Nat)) = putL cur off (q :: qs) := by
  apply Array.ext_getElem?
  intro j
  rw [Array.getElem?_setIfInBounds]
  by_cases e : off = j
  · subst e
    rw [if_pos rfl, if_pos (by rw [putL_size h]; omega)]
    have := putL_in (cur := cur) (off := off) (i := 0) (zs := q :: qs) (by simp; omega) (by simp)
    rw [Nat.add_zero] at this
    rw [this]; rfl
  · rw [if_neg e]
    by_cases h2 : j < off ∨ off + (q :: qs).length ≤ j
    · rw [putL_out h (by simp at h2; omega), putL_out (by simp; omega) h2]
    · simp at h2
      obtain ⟨i, rfl⟩ : ∃ i, j = off + (i + 1) := ⟨j - off - 1, by omega⟩
      rw [putL_in (by simp; omega) (by simp; omega), at0_cons_succ, show off + (i + 1) = off + 1 + i by omega, putL_in h (by omega)]
theorem drop_val {xs : List Nat} {k : Nat} (h : k < xs.length) : val (xs.drop k) = at0 xs k + 18446744073709551616 * val (xs.drop (k + 1)) := by
  rw [List.drop_eq_getElem_cons h, val_cons, ← at0_getElem h]

set_option maxHeartbeats 1000000 in
set_option maxRecDepth 100000 in
/-- divideShort: the piece becomes the quotient; what is left is told. -/
theorem divideShort_any (g off n c : Nat) (cur : Array Value) (xs : List Nat) (d : Nat) (w : World) (hb : Blk w g cur) (hs : Sg cur off xs) (hn : xs.length = n) (hbig : n ≤ 1099511627776) (bx : Bd xs) (hd0 : 0 < d) (hd : d < 18446744073709551616) :
    Calls Tryd.prog 60 #[.slice (some ⟨g, off, none⟩) n c, .int .u64 d] w fun e w' => ∃ r zs, e = .returned (.int .u64 (r : Nat)) ∧ zs.length = n ∧ Bd zs ∧ r < d ∧
      val xs = d * val zs + r ∧ Blk w' g (putL cur off zs) ∧ Chg (fun k => k = g) w w' := by
  go_enter Tryd.func60, Tryd.ntmps60
  go_wp2
  go_loopw [5, 6] (fun rv iv wr => ∃ (i r : Nat) (zs : List Nat), i ≤ n ∧ iv = .int .i64 ((i : Int) - 1) ∧ rv = .int .u64 r ∧ r < d ∧ Hid (zs.length = n - i) ∧ Hid (Bd zs) ∧ Hid (val (xs.drop i) = d * val zs + r) ∧ Hid (Blk wr g (putL cur (off + i) zs)) ∧ Chg (fun k => k = g) w wr) (fun _ iv _ => (intOf iv + 1).toNat)
  case atStart => exact ⟨n, 0, [], Nat.le_refl _, rfl, rfl, hd0, by show _ = _; simp, Bd.nil, by show _ = _; rw [List.drop_of_length_le (by omega)]; simp [val], by rw [putL_nil]; exact hb, Chg.refl _ _⟩
  case round =>
    obtain ⟨i, r, zs, hi, rfl, rfl, hr, HL, HB, HV, HK, hC⟩ := hrel
    by_cases h0 : i = 0
    · subst h0
      go_wp2
      go_ret
      refine ⟨r, zs, rfl, HL.out, HB.out, hr, ?_, HK.out, hC⟩
      have := HV.out
      rw [List.drop_zero] at this
      exact this
    · obtain ⟨m, rfl⟩ : ∃ m, i = m + 1 := ⟨i - 1, by omega⟩
      have hsz := hs.1
      have hz := HL.out
      have hc1 : wr.cell? ⟨g, off + m, none⟩ = some (.int .u64 (at0 xs m : Nat)) := by
        rw [Blk.cell HK.out, putL_out (by omega) (by omega)]; exact hs.2 m (by omega)
      have hf1 : wr.frozen? ⟨g, off + m, none⟩ = false := Blk.free HK.out _
      have hm1 : ((m + 1 : Nat) : Int) - 1 = (m : Int) := by omega
      have h00 : (0 : Int) ≤ (m : Int) := by omega
      have hmn : m < n := by omega
      clear hz
      have hb1 := bx.at0 m
      have HX : Hid (val (xs.drop m) = at0 xs m + 18446744073709551616 * val (xs.drop (m + 1))) := drop_val (by omega)
      generalize at0 xs m = x at *
      rw [hm1]
      go_wp2_with fail
      refine (div64_any r x d hd hb1 hr _).mono ?_
      rintro e w' ⟨q, r', nd, rfl, hq, hr', hqb, hrb, hw⟩
      subst hw
      have hc1' : (wr.drewN nd).cell? ⟨g, off + m, none⟩ = some (.int .u64 (x : Nat)) := hc1
      have hf1' : (wr.drewN nd).frozen? ⟨g, off + m, none⟩ = false := hf1
      go_wp2
      go_roundw
      case rel =>
        have hz := HL.out
        refine ⟨m, r', q :: zs, by omega, rfl, rfl, hrb, by show _ = _; simp; omega, Bd.cons hqb HB.out, ?_, ?_, ((hC.drewM nd).setCell (p := ⟨g, off + m, none⟩) rfl _)⟩
        · show _ = _
          rw [HX.out, HV.out, val_cons]
          have h1 := Nat.div_add_mod (r * 18446744073709551616 + x) d
          rw [← hq.out, ← hr'.out] at h1
          rw [Nat.mul_add, Nat.mul_add, show d * (18446744073709551616 * val zs) = 18446744073709551616 * (d * val zs) by rw [← Nat.mul_assoc, Nat.mul_comm d, Nat.mul_assoc]]
          omega
        · have hk : Blk (wr.drewN nd) g (putL cur (off + (m + 1)) zs) := HK.out
          have := hk.set (off + m) (.int .u64 (q : Nat))
          rw [show off + (m + 1) = off + m + 1 by omega, putL_cons (by omega)] at this
          exact this
      case measure => simp [intOf]

set_option maxHeartbeats 1000000 in
set_option maxRecDepth 100000 in
/-- raisePart: the piece becomes itself times 10^19, and the part. -/
theorem raisePart_any (g off n c : Nat) (cur : Array Value) (xs : List Nat) (p : Nat) (w : World) (hb : Blk w g cur) (hs : Sg cur off xs) (hn : xs.length = n) (hbig : n ≤ 1099511627776) (bx : Bd xs) (hp : p < 18446744073709551616) :
    Calls Tryd.prog 80 #[.slice (some ⟨g, off, none⟩) n c, .int .u64 p] w fun e w' => ∃ cy zs, e = .returned (.int .u64 (cy : Nat)) ∧ zs.length = n ∧ Bd zs ∧ cy < 18446744073709551616 ∧
      val zs + 18446744073709551616 ^ n * cy = p + 10000000000000000000 * val xs ∧ Blk w' g (putL cur off zs) ∧ Chg (fun k => k = g) w w' := by
  have hA : ∀ (x y : Nat) (w : World), (callFunc 115 #[.int .u64 x, .int .u64 y, .int .u64 0]).run Tryd.prog w = .ok (.value (.tuple #[.int .u64 (((x + y) % 18446744073709551616 : Nat) : Int), .int .u64 (((x + y) / 18446744073709551616 : Nat) : Int)])) w := fun x y w => add64_run x y 0 (by omega) w
  go_enter Tryd.func80, Tryd.ntmps80
  go_wp2
  go_loopw [1, 12] (fun cv i wr => ∃ (k cy : Nat) (zs : List Nat), k ≤ n ∧ i = .int .i64 k ∧ cv = .int .u64 cy ∧ cy < 18446744073709551616 ∧ Hid (zs.length = k) ∧ Hid (Bd zs) ∧ Hid (val zs + 18446744073709551616 ^ k * cy = p + 10000000000000000000 * val (xs.take k)) ∧ Hid (Blk wr g (putL cur off zs)) ∧ Chg (fun k => k = g) w wr) (fun _ i _ => n - (intOf i).toNat)
  case atStart => exact ⟨0, p, [], Nat.zero_le _, rfl, rfl, hp, rfl, Bd.nil, by show _ = _; simp [val], by rw [putL_nil]; exact hb, Chg.refl _ _⟩
  case round =>
    obtain ⟨k, cy, zs, hk, rfl, rfl, hcy, HL, HB, HV, HK, hC⟩ := hrel
    by_cases hlt : k < n
    · have hz := HL.out
      have hsz := hs.1
      have hc1 : wr.cell? ⟨g, off + k, none⟩ = some (.int .u64 (at0 xs k : Nat)) := by
        rw [Blk.cell HK.out, putL_out (by omega) (by omega)]; exact hs.2 k (by omega)
      have hf1 : wr.frozen? ⟨g, off + k, none⟩ = false := Blk.free HK.out _
      clear hz
      have hb1 := bx.at0 k
      have HX : Hid (val (xs.take (k + 1)) = val (xs.take k) + 18446744073709551616 ^ k * at0 xs k) := take_val_snoc (by omega)
      generalize at0 xs k = y at *
      go_wp2_with fail
      refine (mul64_any y 10000000000000000000 hb1 (by omega) _).mono ?_
      rintro e w' ⟨h, l, rfl, HM, hl, hM, rfl⟩
      go_wp2
      go_roundw
      case rel =>
        have hz := HL.out
        have hM2 := HM.out
        refine ⟨k + 1, h + (l + cy) / 18446744073709551616, zs ++ [(l + cy) % 18446744073709551616], by omega, by go_num, lit64 (by omega), by omega, by show (zs ++ [_]).length = k + 1; simp [hz], HB.out.snoc (by omega), ?_, ?_, hC.setCell (p := ⟨g, off + k, none⟩) rfl _⟩
        · have := mul_step (a := 0) (x := 10000000000000000000) (y := y) (A := p) (B := val (xs.take k)) (s := (l + cy) % 18446744073709551616) (c := h + (l + cy) / 18446744073709551616) hz HV.out (by rw [Nat.mul_comm 10000000000000000000 y, ← hM2]; omega)
          rw [← HX.out, Nat.mul_zero, Nat.add_zero] at this
          exact this
        · have := Blk.set HK.out (off + k) (.int .u64 (((l + cy) % 18446744073709551616 : Nat) : Int))
          rw [← hz, putL_snoc (by omega)] at this
          rw [← hz]
          exact this.lit (by omega)
      case measure => simp [intOf]; omega
    · obtain rfl : n = k := by omega
      go_wp2
      go_ret
      refine ⟨cy, zs, rfl, HL.out, HB.out, hcy, ?_, HK.out, hC⟩
      have h1 := HV.out
      rw [← hn, List.take_length, hn] at h1
      exact h1

def isDig (c : UInt8) : Bool := 48 ≤ c.toNat && c.toNat ≤ 57
def decB (l : List UInt8) : Bool := l.all isDig && decide (0 < l.length)
/-- The number of digits. -/
def dval (l : List UInt8) : Nat := l.foldl (fun n c => 10 * n + (c.toNat - 48)) 0
theorem dval_snoc (l : List UInt8) (c : UInt8) : dval (l ++ [c]) = 10 * dval l + (c.toNat - 48) := by simp [dval]
theorem bytes_take_snoc (s : ByteArray) (k : Nat) (h : k < s.size) : s.data.toList.take (k + 1) = s.data.toList.take k ++ [s[k]] := by
  rw [List.take_succ_eq_append_getElem (by simpa using h)]; rfl
theorem bytes_len (s : ByteArray) : s.data.toList.length = s.size := by simp

set_option maxHeartbeats 1000000 in
theorem decimal_any (s : ByteArray) (w : World) (hs : s.size ≤ 9223372036854775807) :
    Calls Tryd.prog 79 #[.string s] w fun e w' => e = .returned (.bool (decB s.data.toList)) ∧ w' = w := by
  have hlen := bytes_len s
  go_enter Tryd.func79, Tryd.ntmps79
  go_wp2
  go_loop [6] (fun i => ∃ k : Nat, k ≤ s.size ∧ i = .int .i64 k ∧ Hid (∀ c ∈ s.data.toList.take k, isDig c = true)) (fun i => s.size - (intOf i).toNat)
  case atStart => exact ⟨0, Nat.zero_le _, rfl, fun c hc => by simp at hc⟩
  case round =>
    obtain ⟨k, hk, rfl, HD⟩ := hrel
    by_cases hlt : k < s.size
    · have HS := Lib.hid (bytes_take_snoc s k hlt)
      have Hm : Hid (s[k] ∈ s.data.toList) := by show _ ∈ _; rw [← Array.mem_def]; exact Array.getElem_mem hlt
      by_cases hd : isDig s[k] = true
      · have h1 : 48 ≤ s[k].toNat ∧ s[k].toNat ≤ 57 := by simpa [isDig] using hd
        obtain ⟨h1, h2⟩ := h1
        have HDk := Lib.hid hd
        clear hd
        have t1 : decide ((s[k].toNat : Int) < 48) = false := by simp; omega
        have t2 : decide ((57 : Int) < (s[k].toNat : Int)) = false := by simp; omega
        go_wp2
        go_round
        case rel => exact ⟨k + 1, by omega, by go_num, fun c hc => by rw [HS.out, List.mem_append] at hc; rcases hc with hc | hc; exact HD.out c hc; simp at hc; rw [hc]; exact HDk.out⟩
        case measure => simp [intOf]; omega
      · have Hr : Hid (decB s.data.toList = false) := by
          show _ = _
          have : s.data.toList.all isDig = false := by
            rw [List.all_eq_false]
            exact ⟨s[k], Hm.out, by simpa using hd⟩
          simp [decB, this]
        have h1 : ¬ (48 ≤ s[k].toNat ∧ s[k].toNat ≤ 57) := by simpa [isDig] using hd
        clear hd
        by_cases h2 : s[k].toNat < 48
        · have t1 : decide ((s[k].toNat : Int) < 48) = true := by simp; omega
          clear h1
          go_wp2
          go_ret
          exact ⟨by rw [Hr.out]; rfl, rfl⟩
        · have t1 : decide ((s[k].toNat : Int) < 48) = false := by simp; omega
          have t2 : decide ((57 : Int) < (s[k].toNat : Int)) = true := by simp; omega
          clear h1
          go_wp2
          go_ret
          exact ⟨by rw [Hr.out]; rfl, rfl⟩
    · obtain rfl : k = s.size := by omega
      have Hr : Hid (decB s.data.toList = decide (0 < s.size)) := by
        show _ = _
        have h1 := HD.out
        rw [List.take_of_length_le (by omega)] at h1
        have : s.data.toList.all isDig = true := by rw [List.all_eq_true]; exact h1
        simp [decB, this]
      go_wp2
      go_ret
      exact ⟨by rw [Hr.out]; rfl, rfl⟩
end Go.Proofs.YteanpdiceaijhaaDoor
