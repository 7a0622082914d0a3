import Derived.Test.YtfjhmnbbjknflaaGreatDoorGA
import Derived.StillTailTactics
import Derived.Lib.TrimByte
import Derived.Deep.DeepCutAuto
import Derived.Deep.CutBlock
namespace Go.Proofs.YtfjhmnbbjknflaaGreatDoor
open Go.RowKit

theorem Chg.drewM {S : Nat → Prop} {a w : World} (h : Chg S a w) (n : Nat) : Chg S a (w.drewN n) := ⟨h.os, h.tape, h.output, h.size, h.block⟩
theorem putL_cons {cur : Array Value} {off q : Nat} {qs : List Nat} (h : off + 1 + qs.length ≤ cur.size) : (putL cur (off + 1) qs).setIfInBounds off (.int .u64 (q : Nat)) = putL cur off (q :: qs) := by
  apply Array.ext_getElem?
  intro j
  rw [Array.getElem?_setIfInBounds]
  by_cases e : off = j
  · subst e
    rw [if_pos rfl, if_pos (by rw [putL_size h]; omega)]
    have := putL_in (cur := cur) (off := off) (i := 0) (zs := q :: qs) (by simp; omega) (by simp)
    rw [Nat.add_zero] at this
    rw [this]; rfl
  · rw [if_neg e]
    by_cases h2 : j < off ∨ off + (q :: qs).length ≤ j
    · rw [putL_out h (by simp at h2; omega), putL_out (by simp; omega) h2]
    · simp at h2
      obtain ⟨i, rfl⟩ : ∃ i, j = off + (i + 1) := ⟨j - off - 1, by omega⟩
      rw [putL_in (by simp; omega) (by simp; omega), at0_cons_succ, show off + (i + 1) = off + 1 + i by omega, putL_in h (by omega)]
theorem drop_val {xs : List Nat} {k : Nat} (h : k < xs.length) : val (xs.drop k) = at0 xs k + 18446744073709551616 * val (xs.drop (k + 1)) := by
  rw [List.drop_eq_getElem_cons h, val_cons, ← at0_getElem h]

set_option maxHeartbeats 1000000 in
set_option maxRecDepth 100000 in
/-- divideShort: the piece becomes the quotient; what is left is told. -/
theorem divideShort_any (g off n c : Nat) (cur : Array Value) (xs : List Nat) (d : Nat) (w : World) (hb : Blk w g cur) (hs : Sg cur off xs) (hn : xs.length = n) (hbig : n ≤ 1099511627776) (bx : Bd xs) (hd0 : 0 < d) (hd : d < 18446744073709551616) :
    Calls Tryz.prog 110 #[.slice (some ⟨g, off, none⟩) n c, .int .u64 d] w fun e w' => ∃ r zs, e = .returned (.int .u64 (r : Nat)) ∧ zs.length = n ∧ Bd zs ∧ r < d ∧
      val xs = d * val zs + r ∧ Blk w' g (putL cur off zs) ∧ Chg (fun k => k = g) w w' := by
  go_enter Tryz.func110, Tryz.ntmps110
  go_wp2
  go_loopw [5, 6] (fun rv iv wr => ∃ (i r : Nat) (zs : List Nat), i ≤ n ∧ iv = .int .i64 ((i : Int) - 1) ∧ rv = .int .u64 r ∧ r < d ∧ Hid (zs.length = n - i) ∧ Hid (Bd zs) ∧ Hid (val (xs.drop i) = d * val zs + r) ∧ Hid (Blk wr g (putL cur (off + i) zs)) ∧ Chg (fun k => k = g) w wr) (fun _ iv _ => (intOf iv + 1).toNat)
  case atStart => exact ⟨n, 0, [], Nat.le_refl _, rfl, rfl, hd0, by show _ = _; simp, Bd.nil, by show _ = _; rw [List.drop_of_length_le (by omega)]; simp [val], by rw [putL_nil]; exact hb, Chg.refl _ _⟩
  case round =>
    obtain ⟨i, r, zs, hi, rfl, rfl, hr, HL, HB, HV, HK, hC⟩ := hrel
    by_cases h0 : i = 0
    · subst h0
      go_wp2
      go_ret
      refine ⟨r, zs, rfl, HL.out, HB.out, hr, ?_, HK.out, hC⟩
      have := HV.out
      rw [List.drop_zero] at this
      exact this
    · obtain ⟨m, rfl⟩ : ∃ m, i = m + 1 := ⟨i - 1, by omega⟩
      have hsz := hs.1
      have hz := HL.out
      have hc1 : wr.cell? ⟨g, off + m, none⟩ = some (.int .u64 (at0 xs m : Nat)) := by
        rw [Blk.cell HK.out, putL_out (by omega) (by omega)]; exact hs.2 m (by omega)
      have hf1 : wr.frozen? ⟨g, off + m, none⟩ = false := Blk.free HK.out _
      have hm1 : ((m + 1 : Nat) : Int) - 1 = (m : Int) := by omega
      have h00 : (0 : Int) ≤ (m : Int) := by omega
      have hmn : m < n := by omega
      clear hz
      have hb1 := bx.at0 m
      have HX : Hid (val (xs.drop m) = at0 xs m + 18446744073709551616 * val (xs.drop (m + 1))) := drop_val (by omega)
      generalize at0 xs m = x at *
      rw [hm1]
      go_wp2_with fail
      refine (div64_any r x d hd hb1 hr _).mono ?_
      rintro e w' ⟨q, r', nd, rfl, hq, hr', hqb, hrb, hw⟩
      subst hw
      have hc1' : (wr.drewN nd).cell? ⟨g, off + m, none⟩ = some (.int .u64 (x : Nat)) := hc1
      have hf1' : (wr.drewN nd).frozen? ⟨g, off + m, none⟩ = false := hf1
      go_wp2
      go_roundw
      case rel =>
        have hz := HL.out
        refine ⟨m, r', q :: zs, by omega, rfl, rfl, hrb, by show _ = _; simp; omega, Bd.cons hqb HB.out, ?_, ?_, ((hC.drewM nd).setCell (p := ⟨g, off + m, none⟩) rfl _)⟩
        · show _ = _
          rw [HX.out, HV.out, val_cons]
          have h1 := Nat.div_add_mod (r * 18446744073709551616 + x) d
          rw [← hq.out, ← hr'.out] at h1
          rw [Nat.mul_add, Nat.mul_add, show d * (18446744073709551616 * val zs) = 18446744073709551616 * (d * val zs) by rw [← Nat.mul_assoc, Nat.mul_comm d, Nat.mul_assoc]]
          omega
        · have hk : Blk (wr.drewN nd) g (putL cur (off + (m + 1)) zs) := HK.out
          have := hk.set (off + m) (.int .u64 (q : Nat))
          rw [show off + (m + 1) = off + m + 1 by omega, putL_cons (by omega)] at this
          exact this
      case measure => simp [intOf]

set_option maxHeartbeats 1000000 in
set_option maxRecDepth 100000 in
/-- raisePart: the piece becomes itself times 10^19, and the part. -/
theorem raisePart_any (g off n c : Nat) (cur : Array Value) (xs : List Nat) (p : Nat) (w : World) (hb : Blk w g cur) (hs : Sg cur off xs) (hn : xs.length = n) (hbig : n ≤ 1099511627776) (bx : Bd xs) (hp : p < 18446744073709551616) :
    Calls Tryz.prog 115 #[.slice (some ⟨g, off, none⟩) n c, .int .u64 p] w fun e w' => ∃ cy zs, e = .returned (.int .u64 (cy : Nat)) ∧ zs.length = n ∧ Bd zs ∧ cy < 18446744073709551616 ∧
      val zs + 18446744073709551616 ^ n * cy = p + 10000000000000000000 * val xs ∧ Blk w' g (putL cur off zs) ∧ Chg (fun k => k = g) w w' := by
  have hA : ∀ (x y : Nat) (w : World), (callFunc 118 #[.int .u64 x, .int .u64 y, .int .u64 0]).run Tryz.prog w = .ok (.value (.tuple #[.int .u64 (((x + y) % 18446744073709551616 : Nat) : Int), .int .u64 (((x + y) / 18446744073709551616 : Nat) : Int)])) w := fun x y w => add64_run x y 0 (by omega) w
  go_enter Tryz.func115, Tryz.ntmps115
  go_wp2
  go_loopw [1, 12] (fun cv i wr => ∃ (k cy : Nat) (zs : List Nat), k ≤ n ∧ i = .int .i64 k ∧ cv = .int .u64 cy ∧ cy < 18446744073709551616 ∧ Hid (zs.length = k) ∧ Hid (Bd zs) ∧ Hid (val zs + 18446744073709551616 ^ k * cy = p + 10000000000000000000 * val (xs.take k)) ∧ Hid (Blk wr g (putL cur off zs)) ∧ Chg (fun k => k = g) w wr) (fun _ i _ => n - (intOf i).toNat)
  case atStart => exact ⟨0, p, [], Nat.zero_le _, rfl, rfl, hp, rfl, Bd.nil, by show _ = _; simp [val], by rw [putL_nil]; exact hb, Chg.refl _ _⟩
  case round =>
    obtain ⟨k, cy, zs, hk, rfl, rfl, hcy, HL, HB, HV, HK, hC⟩ := hrel
    by_cases hlt : k < n
    · have hz := HL.out
      have hsz := hs.1
      have hc1 : wr.cell? ⟨g, off + k, none⟩ = some (.int .u64 (at0 xs k : Nat)) := by
        rw [Blk.cell HK.out, putL_out (by omega) (by omega)]; exact hs.2 k (by omega)
      have hf1 : wr.frozen? ⟨g, off + k, none⟩ = false := Blk.free HK.out _
      clear hz
      have hb1 := bx.at0 k
      have HX : Hid (val (xs.take (k + 1)) = val (xs.take k) + 18446744073709551616 ^ k * at0 xs k) := take_val_snoc (by omega)
      generalize at0 xs k = y at *
      go_wp2_with fail
      refine (mul64_any y 10000000000000000000 hb1 (by omega) _).mono ?_
      rintro e w' ⟨h, l, rfl, HM, hl, hM, rfl⟩
      go_wp2
      go_roundw
      case rel =>
        have hz := HL.out
        have hM2 := HM.out
        refine ⟨k + 1, h + (l + cy) / 18446744073709551616, zs ++ [(l + cy) % 18446744073709551616], by omega, by go_num, lit64 (by omega), by omega, by show (zs ++ [_]).length = k + 1; simp [hz], HB.out.snoc (by omega), ?_, ?_, hC.setCell (p := ⟨g, off + k, none⟩) rfl _⟩
        · have := mul_step (a := 0) (x := 10000000000000000000) (y := y) (A := p) (B := val (xs.take k)) (s := (l + cy) % 18446744073709551616) (c := h + (l + cy) / 18446744073709551616) hz HV.out (by rw [Nat.mul_comm 10000000000000000000 y, ← hM2]; omega)
          rw [← HX.out, Nat.mul_zero, Nat.add_zero] at this
          exact this
        · have := Blk.set HK.out (off + k) (.int .u64 (((l + cy) % 18446744073709551616 : Nat) : Int))
          rw [← hz, putL_snoc (by omega)] at this
          rw [← hz]
          exact this.lit (by omega)
      case measure => simp [intOf]; omega
    · obtain rfl : n = k := by omega
      go_wp2
      go_ret
      refine ⟨cy, zs, rfl, HL.out, HB.out, hcy, ?_, HK.out, hC⟩
      have h1 := HV.out
      rw [← hn, List.take_length, hn] at h1
      exact h1

def isDig (c : UInt8) : Bool := 48 ≤ c.toNat && c.toNat ≤ 57
def decB (l : List UInt8) : Bool := l.all isDig && decide (0 < l.length)
/-- The number of digits. -/
def dval (l : List UInt8) : Nat := l.foldl (fun n c => 10 * n + (c.toNat - 48)) 0
theorem dval_snoc (l : List UInt8) (c : UInt8) : dval (l ++ [c]) = 10 * dval l + (c.toNat - 48) := by simp [dval]
theorem bytes_take_snoc (s : ByteArray) (k : Nat) (h : k < s.size) : s.data.toList.take (k + 1) = s.data.toList.take k ++ [s[k]] := by
  rw [List.take_succ_eq_append_getElem (by simpa using h)]; rfl
theorem bytes_len (s : ByteArray) : s.data.toList.length = s.size := by simp

set_option maxHeartbeats 1000000 in
theorem decimal_any (s : ByteArray) (w : World) (hs : s.size ≤ 9223372036854775807) :
    Calls Tryz.prog 114 #[.string s] w fun e w' => e = .returned (.bool (decB s.data.toList)) ∧ w' = w := by
  have hlen := bytes_len s
  go_enter Tryz.func114, Tryz.ntmps114
  go_wp2
  go_loop [6] (fun i => ∃ k : Nat, k ≤ s.size ∧ i = .int .i64 k ∧ Hid (∀ c ∈ s.data.toList.take k, isDig c = true)) (fun i => s.size - (intOf i).toNat)
  case atStart => exact ⟨0, Nat.zero_le _, rfl, fun c hc => by simp at hc⟩
  case round =>
    obtain ⟨k, hk, rfl, HD⟩ := hrel
    by_cases hlt : k < s.size
    · have HS := Lib.hid (bytes_take_snoc s k hlt)
      have Hm : Hid (s[k] ∈ s.data.toList) := by show _ ∈ _; rw [← Array.mem_def]; exact Array.getElem_mem hlt
      by_cases hd : isDig s[k] = true
      · have h1 : 48 ≤ s[k].toNat ∧ s[k].toNat ≤ 57 := by simpa [isDig] using hd
        obtain ⟨h1, h2⟩ := h1
        have HDk := Lib.hid hd
        clear hd
        have t1 : decide ((s[k].toNat : Int) < 48) = false := by simp; omega
        have t2 : decide ((57 : Int) < (s[k].toNat : Int)) = false := by simp; omega
        go_wp2
        go_round
        case rel => exact ⟨k + 1, by omega, by go_num, fun c hc => by rw [HS.out, List.mem_append] at hc; rcases hc with hc | hc; exact HD.out c hc; simp at hc; rw [hc]; exact HDk.out⟩
        case measure => simp [intOf]; omega
      · have Hr : Hid (decB s.data.toList = false) := by
          show _ = _
          have : s.data.toList.all isDig = false := by
            rw [List.all_eq_false]
            exact ⟨s[k], Hm.out, by simpa using hd⟩
          simp [decB, this]
        have h1 : ¬ (48 ≤ s[k].toNat ∧ s[k].toNat ≤ 57) := by simpa [isDig] using hd
        clear hd
        by_cases h2 : s[k].toNat < 48
        · have t1 : decide ((s[k].toNat : Int) < 48) = true := by simp; omega
          clear h1
          go_wp2
          go_ret
          exact ⟨by rw [Hr.out]; rfl, rfl⟩
        · have t1 : decide ((s[k].toNat : Int) < 48) = false := by simp; omega
          have t2 : decide ((57 : Int) < (s[k].toNat : Int)) = true := by simp; omega
          clear h1
          go_wp2
          go_ret
          exact ⟨by rw [Hr.out]; rfl, rfl⟩
    · obtain rfl : k = s.size := by omega
      have Hr : Hid (decB s.data.toList = decide (0 < s.size)) := by
        show _ = _
        have h1 := HD.out
        rw [List.take_of_length_le (by omega)] at h1
        have : s.data.toList.all isDig = true := by rw [List.all_eq_true]; exact h1
        simp [decB, this]
      go_wp2
      go_ret
      exact ⟨by rw [Hr.out]; rfl, rfl⟩

def mk (k i : Int) : Int := bits BinOp.xor IntKind.u64 (IntKind.u64.wrap (IntKind.u64.wrap (wrap64 (k + 1)) * 11400714819323198485)) (IntKind.u64.wrap (IntKind.u64.wrap (wrap64 (i + 1)) * 15074714826142052245))

set_option maxHeartbeats 400000 in
theorem mark_any (k i : Int) (w : World) :
    Calls Tryz.prog 69 #[.int .i64 k, .int .i64 i] w fun e w' => e = .returned (.int .u64 (mk k i)) ∧ w = w' := by
  go_enter Tryz.func69, Tryz.ntmps69
  go_wp2
  go_ret
  exact ⟨rfl, rfl⟩

def u8s (xs : List Nat) : List Value := xs.map fun (x : Nat) => Value.int .u8 x
def mk8 (i : Int) : Value := .int .u8 (IntKind.u8.wrap (mk 90 i))
def mks8 (k : Nat) : List Value := (List.range k).map fun (i : Nat) => mk8 i

theorem take_snoc (xs : List Nat) (k x : Nat) (h : k < xs.length) (hx : Hid (xs.getD k 0 = x)) : xs.take (k + 1) = xs.take k ++ [x] := by
  have h2 : xs[k] = x := by simpa [List.getD, h] using hx.out
  rw [List.take_add_one, List.getElem?_eq_getElem h, h2]; rfl
theorem u8s_snoc (xs : List Nat) (k x : Nat) (h : k < xs.length) (hx : Hid (xs.getD k 0 = x)) : u8s (xs.take (k + 1)) = u8s (xs.take k) ++ [.int .u8 (x : Nat)] := by
  rw [take_snoc xs k x h hx]; simp [u8s]
theorem mks8_snoc (k : Nat) : mks8 (k + 1) = mks8 k ++ [mk8 k] := by
  unfold mks8; rw [List.range_succ]; simp
theorem mks8_len (k : Nat) : (mks8 k).length = k := by simp [mks8]
theorem u8s_len (xs : List Nat) : (u8s xs).length = xs.length := by simp [u8s]

theorem book_set {w : World} {bk : Nat} {x y u : Value} {T : TypeId} (h : w.heap[bk]? = some (.cells #[x, y] T (0, 0))) :
    (w.setCell ⟨bk, 0, none⟩ u).heap[bk]? = some (.cells #[u, y] T (0, 0)) := by
  simp [World.setCell, Array.getElem?_modify, h]
theorem book_set1 {w : World} {bk : Nat} {x y u : Value} {T : TypeId} (h : w.heap[bk]? = some (.cells #[x, y] T (0, 0))) :
    (w.setCell ⟨bk, 1, none⟩ u).heap[bk]? = some (.cells #[x, u] T (0, 0)) := by
  simp [World.setCell, Array.getElem?_modify, h]

set_option maxHeartbeats 400000 in
theorem bookWords_any (bk B n : Nat) (vw vb : Value) (L : List Value) (va : Option Addr) (vn vc : Nat) (w : World) (T : TypeId) (hbk : w.heap[bk]? = some (.cells #[vw, vb] T (0, 0))) (hown : w.ownsRow B 22 1 vw n L) (hne : vw.ownBlock ≠ some bk) (hn : n + 1 ≤ 1099511627776)
    (hB : B ≤ w.heap.size) :
    Calls Tryz.prog 57 #[.pointer (some ⟨bk, 0, none⟩), .slice va vn vc] w fun e w' => e = .returned (.tuple #[]) ∧
      ∃ g cap, w'.heap[bk]? = some (.cells #[.slice (some ⟨g, 0, none⟩) (n + 1) cap, vb] T (0, 0)) ∧ w'.ownsRow B 22 1 (.slice (some ⟨g, 0, none⟩) (n + 1) cap) (n + 1) (L ++ [.slice va vn vc]) ∧
        Chg (fun k => k = bk ∨ some k = vw.ownBlock) w w' ∧ (vw.ownBlock = some g ∨ w.heap.size ≤ g) := by
  have hc0 : w.cell? ⟨bk, 0, none⟩ = some vw := by simp [World.cell?, hbk]
  have hlt := lt_of_block hbk
  go_enter Tryz.func57, Tryz.ntmps57
  go_wp2_with (at_builtin; refine wpl_app 30 22 Tryz.underlying30 infoL64 rfl (by decide) rfl _ _ rfl B vw n L rfl (hown.alloc _) w.heap.size (.slice va vn vc) rfl (World.cell?_alloc_at _ _ _ _ rfl) rfl (by omega) (by simp; omega) ?_)
  intro g cap' w1 hown1 hg1 hBg hgl hgo
  have C1 : Chg (fun k => some k = vw.ownBlock) w w1 := ((Chg.refl _ _).alloc _).trans (Chg.of_grown hg1)
  have hbk1 := C1.heap hbk (fun e => hne e.symm)
  have hc1 : w1.cell? ⟨bk, 0, none⟩ = some vw := by simp [World.cell?, hbk1]
  have hf1 : w1.frozen? ⟨bk, 0, none⟩ = false := by simp [World.frozen?, hbk1]
  have HO := Lib.hid hown1
  have HG := Lib.hid hg1
  clear hown1 hg1
  go_wp2
  refine bodyPost_end (results_none rfl _ _ _) rfl ⟨rfl, g, cap', book_set hbk1, Chg.owns ((Chg.refl (fun k => k = bk) _).setCell rfl _) HO.out ?_, (C1.mono (fun i h _ => .inr h)).setCell (.inl rfl) _, ?_⟩
  · intro k hk e
    obtain rfl : g = k := by simpa [Value.ownBlock] using hk
    subst e
    rcases hgo with h | h
    · exact hne h
    · omega
  · rcases hgo with h | h
    · exact .inl h
    · right; omega
def updR (r : Nat → Rw) (p : Nat) (x : Rw) : Nat → Rw := fun i => if i = p then x else r i
theorem updR_same (r : Nat → Rw) (p : Nat) (x : Rw) : updR r p x p = x := by simp [updR]
theorem updR_ne (r : Nat → Rw) {p i : Nat} (x : Rw) (h : i ≠ p) : updR r p x i = r i := by simp [updR, h]

/-- Rows by numbers, each in a block of its own. -/
structure Fam (w : World) (B m : Nat) (r : Nat → Rw) : Prop where
  own : ∀ i, i < m → w.ownsRow B (r i).E 1 (r i).v (r i).n (r i).xs
  apart : ∀ i, i < m → ∀ j, j < m → i ≠ j → (r i).apart (r j)

theorem Sep.fam {w : World} {B : Nat} {R : List Rw} (d : Rw) (h : Sep w B R) : Fam w B R.length (fun i => R.getD i d) := by
  refine ⟨fun i hi => ?_, fun i hi j hj hne => ?_⟩
  · simp only [List.getD, List.getElem?_eq_getElem hi, Option.getD_some]; exact h.1 _ (List.getElem_mem hi)
  · simp only [List.getD, List.getElem?_eq_getElem hi, List.getElem?_eq_getElem hj, Option.getD_some]
    rcases Nat.lt_or_gt_of_ne hne with hlt | hlt
    · exact List.pairwise_iff_getElem.1 h.2 i j hi hj hlt
    · exact (List.pairwise_iff_getElem.1 h.2 j i hj hi hlt).symm

theorem Fam.put {w w' : World} {B m p : Nat} {r : Nat → Rw} {x : Rw} (h : Fam w B m r) (hp : p < m) (hc : Chg (fun k => some k = (r p).v.ownBlock) w w') (ho : w'.ownsRow B x.E 1 x.v x.n x.xs)
    (hb : ∀ k, x.v.ownBlock = some k → (r p).v.ownBlock = some k ∨ w.heap.size ≤ k) : Fam w' B m (updR r p x) := by
  have key : ∀ i, i < m → i ≠ p → x.apart (r i) := by
    intro i hi hne k hk hk'
    rcases hb k hk with hb | hb
    · exact h.apart p hp i hi (Ne.symm hne) k hb hk'
    · have := (h.own i hi).lt k hk'; omega
  refine ⟨fun i hi => ?_, fun i hi j hj hne => ?_⟩
  · by_cases e : i = p
    · subst e; rw [updR_same]; exact ho
    · rw [updR_ne _ _ e]; exact hc.owns (h.own i hi) (fun k hk e' => h.apart p hp i hi (Ne.symm e) k e'.symm hk)
  · by_cases e : i = p
    · subst e; rw [updR_same, updR_ne _ _ (Ne.symm hne)]; exact key j hj (Ne.symm hne)
    · by_cases e2 : j = p
      · subst e2; rw [updR_same, updR_ne _ _ e]; exact (key i hi e).symm
      · rw [updR_ne _ _ e, updR_ne _ _ e2]; exact h.apart i hi j hj hne

theorem Fam.chg {w w' : World} {B m : Nat} {r : Nat → Rw} {S : Nat → Prop} (h : Fam w B m r) (hc : Chg S w w') (hS : ∀ i, i < m → ∀ k, (r i).v.ownBlock = some k → ¬ S k) : Fam w' B m r :=
  ⟨fun i hi => hc.owns (h.own i hi) (hS i hi), h.apart⟩

/-- A store into row p. -/
theorem Fam.store {w : World} {B m p g n c : Nat} {r : Nat → Rw} (h : Fam w B m r) (hp : p < m) (hv : (r p).v = .slice (some ⟨g, 0, none⟩) n c) (hn : (r p).n = n) (j : Nat) (u : Value) :
    Fam (w.setCell ⟨g, j, none⟩ u) B m (updR r p { r p with xs := (r p).xs.set j u }) := by
  have ho := h.own p hp
  rw [hv, hn] at ho
  refine h.put hp ((Chg.refl _ _).setCell (p := ⟨g, j, none⟩) (by rw [hv]; rfl) u) ?_ (fun k hk => .inl hk)
  show World.ownsRow _ B (r p).E 1 (r p).v (r p).n _
  rw [hv, hn]
  exact (ho.stored j u).1

theorem Fam.cellAt {w : World} {B m p g n c : Nat} {r : Nat → Rw} (h : Fam w B m r) (hp : p < m) (hv : (r p).v = .slice (some ⟨g, 0, none⟩) n c) (hn : (r p).n = n) (j : Nat) (hj : j < n) :
    w.cell? ⟨g, j, none⟩ = (r p).xs[j]? := by
  have ho := h.own p hp
  rw [hv, hn] at ho
  exact ho.cellAt j (by omega)
theorem Fam.frozenAt {w : World} {B m p g n c : Nat} {r : Nat → Rw} (h : Fam w B m r) (hp : p < m) (hv : (r p).v = .slice (some ⟨g, 0, none⟩) n c) (hn : (r p).n = n) (j : Nat) :
    w.frozen? ⟨g, j, none⟩ = false := by
  have ho := h.own p hp
  rw [hv, hn] at ho
  exact ho.frozenAt j
/-- A row of one element or more lies in a block. -/
theorem owns_some {w : World} {B E n : Nat} {v : Value} {xs : List Value} (h : w.ownsRow B E 1 v n xs) (hn : 0 < n) : ∃ g c, v = .slice (some ⟨g, 0, none⟩) n c ∧ B ≤ g ∧ g < w.heap.size := by
  rcases h.2 with ⟨_, h0⟩ | ⟨g, c, cur, rfl, hb, hg, _⟩
  · omega
  · exact ⟨g, c, rfl, hb, lt_of_block hg⟩
theorem owns_form {w : World} {B E n : Nat} {v : Value} {xs : List Value} (h : w.ownsRow B E 1 v n xs) : ∃ a c, v = .slice a n c := by
  rcases h.2 with ⟨rfl, rfl⟩ | ⟨g, c, cur, rfl, hb, hg, _⟩
  · exact ⟨_, _, rfl⟩
  · exact ⟨_, _, rfl⟩

theorem mark_q (k i : Int) (w : World) :
    Calls Tryz.prog 69 #[.int .i64 k, .int .i64 i] w fun e w' => e = .returned (.int .u64 (mk k i)) ∧ w' = w := (mark_any k i w).mono fun _ _ ⟨h, k⟩ => ⟨h, k.symm⟩

def ms64 (k n : Nat) : List Value := (List.range n).map fun (j : Nat) => Value.int .u64 (mk k j)
def ms8 (k n : Nat) : List Value := (List.range n).map fun (j : Nat) => Value.int .u8 (IntKind.u8.wrap (mk k j))

theorem foldl_dval (l : List UInt8) (n : Nat) : l.foldl (fun n c => 10 * n + (c.toNat - 48)) n = n * 10 ^ l.length + dval l := by
  induction l generalizing n with
  | nil => simp [dval]
  | cons c l ih =>
    have h1 := ih (10 * n + (c.toNat - 48))
    have h2 := ih (10 * 0 + (c.toNat - 48))
    unfold dval
    rw [List.foldl_cons, List.foldl_cons, h1, h2, List.length_cons, Nat.pow_succ]
    generalize 10 ^ l.length = p
    rw [Nat.add_mul, Nat.add_mul, Nat.mul_comm p 10, ← Nat.mul_assoc, Nat.mul_comm n 10]
    omega
theorem dval_append (a b : List UInt8) : dval (a ++ b) = dval a * 10 ^ b.length + dval b := by
  show (a ++ b).foldl _ 0 = _
  rw [List.foldl_append, foldl_dval]
  rfl
theorem dval_cons (c : UInt8) (l : List UInt8) : dval (c :: l) = (c.toNat - 48) * 10 ^ l.length + dval l := by
  have := dval_append [c] l
  simpa [dval] using this
theorem dval_lt (l : List UInt8) (h : ∀ c ∈ l, isDig c = true) : dval l < 10 ^ l.length := by
  induction l with
  | nil => simp [dval]
  | cons c l ih =>
    have h1 := ih (fun x hx => h x (by simp [hx]))
    have h2 : 48 ≤ c.toNat ∧ c.toNat ≤ 57 := by simpa [isDig] using h c (by simp)
    rw [dval_cons, List.length_cons, Nat.pow_succ]
    generalize 10 ^ l.length = p at *
    have h3 : (c.toNat - 48) * p ≤ 9 * p := Nat.mul_le_mul_right _ (by omega)
    omega

set_option maxHeartbeats 1000000 in
theorem worth_any (s : ByteArray) (w : World) (hs : s.size ≤ 19) (hd : ∀ c ∈ s.data.toList, isDig c = true) :
    Calls Tryz.prog 116 #[.string s] w fun e w' => e = .returned (.int .u64 (dval s.data.toList : Nat)) ∧ w = w' := by
  have hlen := bytes_len s
  have HD := Lib.hid hd
  clear hd
  go_enter Tryz.func116, Tryz.ntmps116
  go_wp2
  go_loop [3, 7] (fun v i => ∃ (k n : Nat), k ≤ s.size ∧ i = .int .i64 k ∧ v = .int .u64 n ∧ Hid (n = dval (s.data.toList.take k))) (fun _ i => s.size - (intOf i).toNat)
  case atStart => exact ⟨0, 0, Nat.zero_le _, rfl, rfl, by show _ = _; simp [dval]⟩
  case round =>
    obtain ⟨k, n, hk, rfl, rfl, HN⟩ := hrel
    by_cases hlt : k < s.size
    · have HS := Lib.hid (bytes_take_snoc s k hlt)
      have h1 : 48 ≤ s[k].toNat ∧ s[k].toNat ≤ 57 := by
        have := HD.out s[k] (by rw [← Array.mem_def]; exact Array.getElem_mem hlt)
        simpa [isDig] using this
      obtain ⟨h1, h2⟩ := h1
      have h3 : n ≤ 999999999999999999 := by
        have := dval_lt (s.data.toList.take k) (fun c hc => HD.out c (List.mem_of_mem_take hc))
        rw [← HN.out, List.length_take, Nat.min_eq_left (by omega)] at this
        have h4 : 10 ^ k ≤ 10 ^ 18 := Nat.pow_le_pow_right (by decide) (by omega)
        omega
      go_wp2
      go_round
      case rel => exact ⟨k + 1, 10 * n + (s[k].toNat - 48), by omega, by go_num, lit64 (by omega), by show _ = _; rw [HS.out, dval_snoc, HN.out]⟩
      case measure => simp [intOf]; omega
    · obtain rfl : k = s.size := by omega
      go_wp2
      go_ret
      exact ⟨by have := HN.out; rw [List.take_of_length_le (by omega)] at this; rw [← this]; rfl, rfl⟩

theorem raisePart_empty (p : Nat) (w : World) : Calls Tryz.prog 115 #[.slice none 0 0, .int .u64 p] w fun e w' => e = .returned (.int .u64 p) ∧ w = w' := by
  go_enter Tryz.func115, Tryz.ntmps115
  go_wp2
  refine wp_loop_rounds 1 ?_
  rw [rounds_succ]
  go_wp2
  go_ret
  exact ⟨rfl, rfl⟩

/-- The digits' text, noughts ahead struck. -/
theorem dval_trim (l : List UInt8) : dval (Lib.trimLeftB l 48) = dval l := by
  induction l with
  | nil => rfl
  | cons c l ih =>
    unfold Lib.trimLeftB at ih ⊢
    rw [List.dropWhile_cons]
    by_cases h : (c == 48) = true
    · rw [if_pos h, ih, dval_cons]
      obtain rfl : c = 48 := by simpa using h
      simp
    · rw [if_neg h]
theorem trim_len (l : List UInt8) : (Lib.trimLeftB l 48).length ≤ l.length := by
  unfold Lib.trimLeftB; exact (List.dropWhile_suffix _).length_le
theorem trim_sub (l : List UInt8) : ∀ c ∈ Lib.trimLeftB l 48, c ∈ l := fun _ h => (List.dropWhile_suffix _).subset h
theorem trim_head (l : List UInt8) (c : UInt8) (t : List UInt8) (h : Lib.trimLeftB l 48 = c :: t) : c ≠ 48 := by
  induction l with
  | nil => cases h
  | cons x l ih =>
    unfold Lib.trimLeftB at ih h
    rw [List.dropWhile_cons] at h
    by_cases hx : (x == 48) = true
    · rw [if_pos hx] at h; exact ih h
    · rw [if_neg hx] at h
      injection h with h1 h2
      subst h1
      simpa using hx
theorem big_digits : 18446744073709551616 ^ 128 ≤ 10 ^ 2467 := by decide +kernel
theorem dval_ge (l : List UInt8) (c : UInt8) (t : List UInt8) (hd : ∀ c ∈ l, isDig c = true) (h : Lib.trimLeftB l 48 = c :: t) : 10 ^ t.length ≤ dval l := by
  have h1 := trim_head l c t h
  have h2 : 48 ≤ c.toNat ∧ c.toNat ≤ 57 := by simpa [isDig] using hd c (trim_sub l c (by rw [h]; simp))
  rw [← dval_trim, h, dval_cons]
  have h3 : c.toNat ≠ 48 := fun e => h1 (UInt8.toNat_inj.1 e)
  have h4 : 1 * 10 ^ t.length ≤ (c.toNat - 48) * 10 ^ t.length := Nat.mul_le_mul_right _ (by omega)
  omega

/-- What Parse answers. -/
def ParsePost (l : List UInt8) (w : World) (e : Ending) (w' : World) : Prop :=
  Below w.heap.size w w' ∧
  ((65536 < l.length ∧ e = .returned (.tuple #[.slice none 0 0, .int .i64 3])) ∨
   (l.length ≤ 65536 ∧ decB l = false ∧ e = .returned (.tuple #[.slice none 0 0, .int .i64 12])) ∨
   (l.length ≤ 65536 ∧ decB l = true ∧ 18446744073709551616 ^ 128 ≤ dval l ∧ e = .returned (.tuple #[.slice none 0 0, .int .i64 3])) ∨
   (l.length ≤ 65536 ∧ decB l = true ∧ dval l < 18446744073709551616 ^ 128 ∧ ∃ v zs, e = .returned (.tuple #[v, .int .i64 0]) ∧ own64 w' w.heap.size v zs ∧ Num zs (dval l)))

theorem ext_front (l : List UInt8) (m : Nat) : (⟨l.toArray⟩ : ByteArray).extract 0 m = ⟨(l.take m).toArray⟩ := by
  have h := ByteArray.data_extract (a := (⟨l.toArray⟩ : ByteArray)) (b := 0) (e := m)
  cases hx : (⟨l.toArray⟩ : ByteArray).extract 0 m with
  | mk d => rw [hx] at h; simp at h; rw [h]
theorem ext_back (l : List UInt8) (m k : Nat) (hk : k = l.length) : (⟨l.toArray⟩ : ByteArray).extract m k = ⟨(l.drop m).toArray⟩ := by
  have h := ByteArray.data_extract (a := (⟨l.toArray⟩ : ByteArray)) (b := m) (e := k)
  cases hx : (⟨l.toArray⟩ : ByteArray).extract m k with
  | mk d => rw [hx] at h; simp at h; rw [h, hk, List.take_of_length_le (by simp)]
def strLen : Value → Nat | .string b => b.size | _ => 0
theorem strLen_list (l : List UInt8) : strLen (.string ⟨l.toArray⟩) = l.length := by simp [strLen, ByteArray.size]
theorem own64_nil (w : World) (B : Nat) : own64 w B (.slice none 0 0) [] := World.ownsRow_nil _ _ _ _
/-- The form of a row. -/
theorem own64_take {w : World} {B : Nat} {a a' : Option Addr} {n c c' k : Nat} {zs : List Nat} (h : own64 w B (.slice a n c) zs) (hk : k ≤ zs.length) (h1 : 0 < k → a' = a ∧ c' = c) (h2 : k = 0 → a' = none ∧ c' = 0) :
    own64 w B (.slice a' k c') (zs.take k) := by
  rcases Nat.eq_zero_or_pos k with rfl | hp
  · obtain ⟨rfl, rfl⟩ := h2 rfl
    exact own64_nil w B
  · obtain ⟨rfl, rfl⟩ := h1 hp
    rcases h.2 with ⟨hv, h0⟩ | ⟨g, c1, cur, hv, hb, hg, hn, hm, hs, ht⟩
    · omega
    · cases hv
      refine ⟨by simp [u64s], .inr ⟨g, c', cur, by rw [List.length_take, Nat.min_eq_left hk], hb, hg, by rw [List.length_take]; omega, hm, hs, ?_⟩⟩
      rw [List.length_take, Nat.min_eq_left hk]
      have : (cur.toList.take (zs.length * 1)).take k = (u64s zs).take k := by rw [ht]
      rw [List.take_take, Nat.min_eq_left (by omega)] at this
      rw [Nat.mul_one, this]
      simp [u64s, List.map_take]
theorem parse_val {t : List UInt8} {p m : Nat} {zs ys : List Nat} {cy : Nat} (hm : p + m ≤ t.length) (h19 : m = 19) (hv : val zs = dval (t.take p)) (hl : ys.length = zs.length)
    (h : val ys + 18446744073709551616 ^ zs.length * cy = dval ((t.drop p).take m) + 10000000000000000000 * val zs) : val (ys ++ [cy]) = dval (t.take (p + m)) := by
  subst h19
  have e : t.take (p + 19) = t.take p ++ (t.drop p).take 19 := by rw [List.take_add]
  rw [val_snoc, hl, h, e, dval_append, List.length_take, List.length_drop, Nat.min_eq_left (by omega), hv]
  have : (10 : Nat) ^ 19 = 10000000000000000000 := by decide
  rw [this]; omega

set_option exponentiation.threshold 10000 in
set_option maxHeartbeats 2000000 in
set_option maxRecDepth 100000 in
theorem parse_main (s : ByteArray) (w : World) (hs : s.size ≤ 65536) (hd : decB s.data.toList = true) :
    Calls Tryz.prog 79 #[.string s] w (ParsePost s.data.toList w) := by
  have hlen := bytes_len s
  go_enter Tryz.func79, Tryz.ntmps79
  go_wp2_with fail
  refine (decimal_any s _ (by omega)).mono ?_
  rintro e w' ⟨rfl, hw⟩
  have hw2 := hw.symm
  subst hw2
  have hdg : ∀ c ∈ s.data.toList, isDig c = true := by
    have : s.data.toList.all isDig = true := by simp [decB] at hd; simpa using hd.1
    exact fun c hc => List.all_eq_true.1 this c hc
  have HDG := Lib.hid hdg
  clear hdg
  go_wp2_with fail
  refine (Tryz.strings_TrimLeft_one s 48 (by decide) _).mono ?_
  rintro e w' ⟨rfl, hw⟩
  have hw2 := hw.symm
  subst hw2
  have hl : (Lib.trimLeftB s.data.toList 48).length ≤ s.size := by rw [← hlen]; exact trim_len _
  have HV : Hid (dval (Lib.trimLeftB s.data.toList 48) = dval s.data.toList) := dval_trim _
  have HT : Hid (∀ c ∈ Lib.trimLeftB s.data.toList 48, isDig c = true) := fun c hc => HDG.out c (trim_sub _ c hc)
  have HG : Hid (∀ c t, Lib.trimLeftB s.data.toList 48 = c :: t → 10 ^ t.length ≤ dval s.data.toList) := fun c t h => dval_ge _ c t HDG.out h
  have HDB := Lib.hid hd
  clear hd
  generalize Lib.trimLeftB s.data.toList 48 = t at *
  by_cases ht : 2467 < t.length
  · have HR : Hid (18446744073709551616 ^ 128 ≤ dval s.data.toList) := by
      cases t with
      | nil => simp at ht
      | cons c t =>
        have h1 := HG.out c t rfl
        have h2 : 10 ^ 2467 ≤ 10 ^ t.length := Nat.pow_le_pow_right (by decide) (by simp at ht; omega)
        exact Nat.le_trans big_digits (Nat.le_trans h2 h1)
    go_wp2
    go_ret2
    exact ⟨Below.refl _ _, .inr (.inr (.inl ⟨by omega, HDB.out, HR.out, rfl⟩))⟩
  · clear HG
    go_wp2
    go_loopw [4, 0] (fun v sv wr => ∃ (p : Nat) (zs : List Nat), p ≤ t.length ∧ sv = .string ⟨(t.drop p).toArray⟩ ∧ Hid (own64 wr w.heap.size v zs) ∧ Hid (Bd zs) ∧ Hid (val zs = dval (t.take p)) ∧ zs.length ≤ p ∧ ((p = 0 ∧ v = .slice none 0 0 ∧ zs = []) ∨ (t.length - p) % 19 = 0 ∧ 0 < zs.length) ∧ Below w.heap.size w wr) (fun _ sv _ => strLen sv)
    case atStart => exact ⟨0, [], Nat.zero_le _, rfl, own64_nil _ _, Bd.nil, by show _ = _; simp [val, dval], Nat.zero_le _, .inl ⟨rfl, rfl, rfl⟩, Below.refl _ _⟩
    case round =>
      obtain ⟨p, zs, hp, rfl, HO, HB, HN, hzp, hor, hbl⟩ := hrel
      by_cases hlt : p < t.length
      · obtain ⟨m, hm⟩ : ∃ m, m = (t.length - p - 1) % 19 + 1 := ⟨_, rfl⟩
        have hm1 : p + m ≤ t.length := by omega
        have hm2 : m ≤ 19 := by omega
        have hm0 : 1 ≤ m := by omega
        have rm : (((t.length - p : Nat) : Int) - 1) % 19 + 1 = (m : Int) := by omega
        have HM := Lib.hid hm
        clear hm
        have HO2 := Lib.hid hor
        clear hor
        have hx1 := ext_front (t.drop p) m
        have HW : Hid (dval ((t.drop p).take m) < 18446744073709551616) := by
          have h1 := dval_lt ((t.drop p).take m) (fun c hc => HT.out c (List.mem_of_mem_drop (List.mem_of_mem_take hc)))
          have h2 : 10 ^ ((t.drop p).take m).length ≤ 10 ^ 19 := Nat.pow_le_pow_right (by decide) (by simp; omega)
          have h3 : (10 : Nat) ^ 19 = 10000000000000000000 := by decide
          show _ < _
          omega
        have hx2 := ext_back (t.drop p) m (t.length - p) (by simp)
        go_wp2_with fail
        refine (worth_any ⟨((t.drop p).take m).toArray⟩ _ (by simp [ByteArray.size]; omega) (fun c hc => HT.out c (List.mem_of_mem_drop (List.mem_of_mem_take (by simpa using hc))))).mono ?_
        rintro e w' ⟨rfl, rfl⟩
        have hsz := hbl.size
        rcases HO2.out with ⟨rfl, rfl, rfl⟩ | ⟨h19, hz0⟩
        · go_wp2_with fail
          refine (raisePart_empty _ _).mono ?_
          rintro e w' ⟨rfl, rfl⟩
          have hown := HO.out
          have hown2 : wr.ownsRow w.heap.size 61 1 (.slice none 0 0) 0 [] := hown
          clear hown
          go_wp2_with (at_builtin; refine wpl_app 22 61 Tryz.underlying22 info64 rfl (by decide) rfl _ _ rfl w.heap.size (.slice none 0 0) 0 [] rfl (hown2.alloc _) wr.heap.size _ rfl (World.cell?_alloc_at _ _ _ _ rfl) rfl (by omega) (by simp; omega) ?_)
          intro g cap' w1 hown1 hg1 hBg hgl hgo
          have HO1 := Lib.hid hown1
          have hbl1 : Below w.heap.size w w1 := (hbl.alloc (by omega) _).grown hg1 (by simp; omega) (fun k hk => by cases hk)
          clear hown1 hg1 hgo
          go_wp2
          go_roundw
          case rel =>
            refine ⟨m, [dval (t.take m)], by omega, ?_, HO1.out, ?_, ?_, by simpa using hm0, .inr ⟨by have := HM.out; omega, by simp⟩, hbl1⟩
            · rw [ext_back t m _ rfl]
            · have := HW.out
              rw [List.drop_zero] at this
              exact Bd.nil.cons this
            · show _ = _; simp [val]
          case measure =>
            rw [ext_back t m _ rfl, strLen_list, strLen_list]; simp; omega
        · have h19' : Hid (m = 19) := by have := HM.out; show _ = _; omega
          obtain ⟨g, cp, rfl, _, _⟩ := owns_some HO.out hz0
          obtain ⟨g', cur, hg', _, hBg, hblk, hnc, hcm, hcs, hsg⟩ := own64.blk HO.out
          cases hg'
          have HBK := Lib.hid hblk
          have HSG := Lib.hid hsg
          have HCS := Lib.hid hcs
          clear hblk hsg hcs
          go_wp2_with fail
          refine (raisePart_any g 0 zs.length cp cur zs _ _ HBK.out HSG.out rfl (by omega) HB.out HW.out).mono ?_
          rintro e w1 ⟨cy, ys, rfl, hyl, hyb, hcy, hval, hbk1, hC1⟩
          have hbl1 : Below w.heap.size w w1 := hbl.trans (hC1.below (by omega) (fun k hk => by omega))
          have hown2 : w1.ownsRow w.heap.size 61 1 (.slice (some ⟨g, 0, none⟩) zs.length cp) zs.length (u64s ys) := by
            have := own64_of_blk (B := w.heap.size) (zs := ys) (c := cp) hbk1 hBg (by omega) hcm (by rw [putL_size (by have := HSG.out.1; omega)]; exact HCS.out) (putL_sg (by have := HSG.out.1; omega))
            rw [hyl] at this
            unfold own64 at this
            rw [hyl] at this
            exact this
          have HV1 := Lib.hid (parse_val (t := t) (p := p) (m := m) (zs := zs) (ys := ys) (cy := cy) hm1 h19'.out HN.out hyl hval)
          have HY := Lib.hid hyb
          have hsz1 := hbl1.size
          have HYL := Lib.hid hyl
          clear hyb hval hbk1 hC1 hyl HO2
          go_wp2_with (at_builtin; refine wpl_app 22 61 Tryz.underlying22 info64 rfl (by decide) rfl _ _ rfl w.heap.size (.slice (some ⟨g, 0, none⟩) zs.length cp) zs.length (u64s ys) rfl (hown2.alloc _) w1.heap.size _ rfl (World.cell?_alloc_at _ _ _ _ rfl) rfl (by omega) (by simp; omega) ?_)
          intro g1 cap' w2 hown1 hg1 hBg1 hgl hgo
          have HO1 := Lib.hid hown1
          have hbl2 : Below w.heap.size w w2 := (hbl1.alloc (by omega) _).grown hg1 (by simp; omega) (fun k hk => by simp [Value.ownBlock] at hk; omega)
          clear hown1 hg1 hgo hown2
          go_wp2
          go_roundw
          case rel =>
            refine ⟨p + m, ys ++ [cy], by omega, ?_, ?_, HY.out.snoc hcy, HV1.out, by have := HYL.out; simp; omega, .inr ⟨by omega, by simp⟩, hbl2⟩
            · rfl
            · have := HO1.out
              show own64 _ _ _ _
              unfold own64
              rw [u64s_append, List.length_append, HYL.out]
              exact this
          case measure =>
            rw [strLen_list, strLen_list]; simp; omega
      · obtain rfl : p = t.length := by omega
        obtain ⟨a, c, rfl, hrd⟩ := own64.form HO.out
        have hcap : zs.length ≤ c := by
          rcases HO.out.2 with ⟨hv, h0⟩ | ⟨g, c1, cur, hv, hb, hg, hn, _⟩
          · omega
          · have h2 := hv
            simp only [Value.slice.injEq] at h2
            omega
        have HT' : Hid (val zs = dval s.data.toList) := by
          have := HN.out
          rw [List.take_length, HV.out] at this
          exact this
        clear hor
        go_wp2_with fail
        refine (one_any a zs.length c zs _ rfl (by omega) hcap hrd).mono ?_
        rintro e w1 ⟨hor, rfl⟩
        have hnum := num_fm HB.out
        rcases hor with ⟨h128, a', c', rfl, g1, g2⟩ | ⟨h128, rfl⟩
        · have G1 := Lib.hid g1
          have G2 := Lib.hid g2
          have HNM := Lib.hid hnum
          clear g1 g2 hnum
          go_wp2
          go_ret2
          refine ⟨hbl, .inr (.inr (.inr ⟨by omega, HDB.out, ?_, _, fm zs, rfl, ?_, ?_⟩))⟩
          · rw [← HT'.out, ← HNM.out.len_le, fm_length]; exact h128
          · have := own64_take HO.out (fl_spec zs).1 G1.out G2.out
            exact this
          · rw [← HT'.out]; exact HNM.out
        · have HNM := Lib.hid hnum
          clear hnum
          go_wp2
          go_ret2
          refine ⟨hbl, .inr (.inr (.inl ⟨by omega, HDB.out, ?_, rfl⟩))⟩
          rw [← HT'.out, ← HNM.out.len_lt, fm_length]; exact h128

theorem parse_any (s : ByteArray) (w : World) (hs : s.size ≤ 9223372036854775807) :
    Calls Tryz.prog 79 #[.string s] w (ParsePost s.data.toList w) := by
  have hlen := bytes_len s
  by_cases hbig : 65536 < s.size
  · go_enter Tryz.func79, Tryz.ntmps79
    go_wp2
    go_ret2
    exact ⟨Below.refl _ _, .inl ⟨by omega, rfl⟩⟩
  · by_cases hd : decB s.data.toList = true
    · exact parse_main s w (by omega) hd
    · have hd' : decB s.data.toList = false := by simpa using hd
      have HD := Lib.hid hd'
      clear hd
      go_enter Tryz.func79, Tryz.ntmps79
      go_wp2_with fail
      refine (decimal_any s _ hs).mono ?_
      rintro e w' ⟨rfl, hw⟩
      have hw2 := hw.symm
      subst hw2
      go_wp2
      go_ret2
      exact ⟨Below.refl _ _, .inr (.inl ⟨by omega, HD.out, rfl⟩)⟩

def v32 : List Nat → Nat
  | [] => 0
  | x :: xs => x + 4294967296 * v32 xs
def Hd (xs : List Nat) : Prop := ∀ x ∈ xs, x < 4294967296
theorem Hd.tail {x : Nat} {xs : List Nat} (h : Hd (x :: xs)) : Hd xs := fun y hy => h y (List.mem_cons_of_mem _ hy)
theorem Hd.head {x : Nat} {xs : List Nat} (h : Hd (x :: xs)) : x < 4294967296 := h x (List.mem_cons_self ..)
theorem Hd.cons {x : Nat} {xs : List Nat} (hx : x < 4294967296) (h : Hd xs) : Hd (x :: xs) := fun y hy => by
  rcases List.mem_cons.1 hy with rfl | hy
  · exact hx
  · exact h y hy
theorem Hd.nil : Hd [] := fun _ h => by cases h
theorem Hd.append {xs ys : List Nat} (h : Hd xs) (k : Hd ys) : Hd (xs ++ ys) := fun y hy => by
  rcases List.mem_append.1 hy with hy | hy
  · exact h y hy
  · exact k y hy
theorem Hd.take {xs : List Nat} (h : Hd xs) (n : Nat) : Hd (xs.take n) := fun y hy => h y (List.mem_of_mem_take hy)
theorem Hd.drop {xs : List Nat} (h : Hd xs) (n : Nat) : Hd (xs.drop n) := fun y hy => h y (List.mem_of_mem_drop hy)
theorem Hd.at0 {xs : List Nat} (h : Hd xs) (i : Nat) : at0 xs i < 4294967296 := by
  unfold Go.Proofs.YtfjhmnbbjknflaaGreatDoor.at0 List.getD
  by_cases hi : i < xs.length
  · rw [List.getElem?_eq_getElem hi]; exact h _ (List.getElem_mem hi)
  · rw [List.getElem?_eq_none (by omega)]; decide
theorem v32_cons (x : Nat) (xs : List Nat) : v32 (x :: xs) = x + 4294967296 * v32 xs := rfl
theorem v32_append (xs ys : List Nat) : v32 (xs ++ ys) = v32 xs + 4294967296 ^ xs.length * v32 ys := by
  induction xs with
  | nil => simp [v32]
  | cons x xs ih => simp only [List.cons_append, v32_cons, ih, List.length_cons, Nat.pow_succ, Nat.mul_add]; rw [show 4294967296 ^ xs.length * 4294967296 * v32 ys = 4294967296 * (4294967296 ^ xs.length * v32 ys) from by rw [Nat.mul_comm (4294967296 ^ xs.length), Nat.mul_assoc]]; omega
theorem v32_lt {xs : List Nat} (h : Hd xs) : v32 xs < 4294967296 ^ xs.length := by
  induction xs with
  | nil => simp [v32]
  | cons x xs ih => have h1 := h.head; have h2 := ih h.tail; simp only [v32_cons, List.length_cons, Nat.pow_succ]; omega
theorem v32_replicate (n : Nat) : v32 (List.replicate n 0) = 0 := by
  induction n with
  | zero => rfl
  | succ n ih => simp [List.replicate_succ, v32_cons, ih]
theorem v32_zeros {xs : List Nat} (h : ∀ i, i < xs.length → at0 xs i = 0) : v32 xs = 0 := by
  induction xs with
  | nil => rfl
  | cons x xs ih =>
    have h0 : x = 0 := by simpa [at0_cons_zero] using h 0 (by simp)
    have := ih (fun i hi => by simpa [at0_cons_succ] using h (i + 1) (by simpa using hi))
    rw [v32_cons, h0, this]
theorem fm_v32 (xs : List Nat) : v32 (fm xs) = v32 xs := by
  have h : xs = fm xs ++ xs.drop (fl xs) := (List.take_append_drop _ _).symm
  have hz : v32 (xs.drop (fl xs)) = 0 := v32_zeros (fun i _ => by rw [at0_drop]; exact (fl_spec xs).2.1 _ (by omega))
  rw (config := { occs := .pos [2] }) [h]
  rw [v32_append, hz]; simp
theorem fm_hd {xs : List Nat} (h : Hd xs) : Hd (fm xs) := h.take _
theorem cn_v32_pos {xs : List Nat} (h : Cn xs) (h0 : 0 < xs.length) : 0 < v32 xs := by
  induction xs with
  | nil => simp at h0
  | cons x xs ih =>
    rw [v32_cons]
    by_cases h1 : 0 < xs.length
    · have := ih h.tail h1; omega
    · have hx := h (by simp)
      have : xs = [] := List.eq_nil_of_length_eq_zero (by omega)
      subst this
      simp [at0_cons_zero] at hx
      omega
theorem form32_unique {xs ys : List Nat} (hx : Hd xs) (hy : Hd ys) (cx : Cn xs) (cy : Cn ys) (h : v32 xs = v32 ys) : xs = ys := by
  induction xs generalizing ys with
  | nil =>
    cases ys with
    | nil => rfl
    | cons y ys => have := cn_v32_pos cy (by simp); simp only [v32] at h; simp only [v32_cons] at this; omega
  | cons x xs ih =>
    cases ys with
    | nil => have := cn_v32_pos cx (by simp); simp only [v32] at h; simp only [v32_cons] at this; omega
    | cons y ys =>
      have h1 := hx.head
      have h2 := hy.head
      simp only [v32_cons] at h
      obtain rfl : x = y := by omega
      rw [ih hx.tail hy.tail cx.tail cy.tail (by omega)]
structure Num32 (zs : List Nat) (n : Nat) : Prop where
  bd : Hd zs
  cn : Cn zs
  vl : v32 zs = n
theorem Num32.unique {xs ys : List Nat} {n : Nat} (h : Num32 xs n) (k : Num32 ys n) : xs = ys := form32_unique h.bd k.bd h.cn k.cn (h.vl.trans k.vl.symm)
theorem num32_fm {xs : List Nat} (h : Hd xs) : Num32 (fm xs) (v32 xs) := ⟨fm_hd h, fm_cn xs, fm_v32 xs⟩
theorem Num32.nil : Num32 [] 0 := ⟨Hd.nil, fun h => by simp at h, rfl⟩
theorem Num32.len_le {zs : List Nat} {n k : Nat} (h : Num32 zs n) : zs.length ≤ k ↔ n < 4294967296 ^ k := by
  constructor
  · intro hk
    rw [← h.vl]
    exact Nat.lt_of_lt_of_le (v32_lt h.bd) (Nat.pow_le_pow_right (by decide) hk)
  · intro hn
    refine Nat.le_of_not_lt fun hk => ?_
    have hpos : 0 < zs.length := by omega
    have hs : zs = zs.take (zs.length - 1) ++ [at0 zs (zs.length - 1)] := by
      rw [← take_succ_at0 (by omega), show zs.length - 1 + 1 = zs.length by omega, List.take_length]
    have hv := h.vl
    rw [hs, v32_append, List.length_take, Nat.min_eq_left (by omega)] at hv
    have hc := h.cn hpos
    have h2 : 4294967296 ^ k ≤ 4294967296 ^ (zs.length - 1) := Nat.pow_le_pow_right (by decide) (by omega)
    have h3 : 4294967296 ^ (zs.length - 1) * 1 ≤ 4294967296 ^ (zs.length - 1) * v32 [at0 zs (zs.length - 1)] := Nat.mul_le_mul_left _ (by simp only [v32]; omega)
    omega
theorem Num32.len_lt {zs : List Nat} {n k : Nat} (h : Num32 zs n) : k < zs.length ↔ 4294967296 ^ k ≤ n := by
  have := h.len_le (k := k); omega
theorem v32_snoc (xs : List Nat) (z : Nat) : v32 (xs ++ [z]) = v32 xs + 4294967296 ^ xs.length * z := by
  rw [v32_append]; simp [v32]
theorem take_v32_snoc {xs : List Nat} {k : Nat} (h : k < xs.length) : v32 (xs.take (k + 1)) = v32 (xs.take k) + 4294967296 ^ k * at0 xs k := by
  rw [take_succ_at0 h, v32_snoc, List.length_take, Nat.min_eq_left (by omega)]
theorem v32_take_drop (xs : List Nat) (k : Nat) (h : k ≤ xs.length) : v32 xs = v32 (xs.take k) + 4294967296 ^ k * v32 (xs.drop k) := by
  rw (config := { occs := .pos [1] }) [← List.take_append_drop k xs]
  rw [v32_append, List.length_take, Nat.min_eq_left h]
theorem Hd.snoc {zs : List Nat} {z : Nat} (h : Hd zs) (hz : z < 4294967296) : Hd (zs ++ [z]) := h.append (Hd.nil.cons hz)
theorem v32_at (xs : List Nat) (k : Nat) (h : k < xs.length) : v32 xs = v32 (xs.take k) + 4294967296 ^ k * (at0 xs k + 4294967296 * v32 (xs.drop (k + 1))) := by
  have h1 : xs = xs.take k ++ (at0 xs k :: xs.drop (k + 1)) := by
    rw [at0_getElem h, ← List.drop_eq_getElem_cons h, List.take_append_drop]
  rw (config := { occs := .pos [1] }) [h1]
  rw [v32_append, List.length_take, Nat.min_eq_left (by omega), v32_cons]
theorem drop_v32 {xs : List Nat} {k : Nat} (h : k < xs.length) : v32 (xs.drop k) = at0 xs k + 4294967296 * v32 (xs.drop (k + 1)) := by
  rw [List.drop_eq_getElem_cons h, v32_cons, ← at0_getElem h]
theorem Hd.bd {xs : List Nat} (h : Hd xs) : Bd xs := fun x hx => Nat.lt_trans (h x hx) (by decide)

set_option maxHeartbeats 400000 in
theorem strip_any (a : Option Addr) (len cap : Nat) (xs : List Nat) (w : World) (hl : xs.length = len) (hbig : len ≤ 1099511627776) (hcap : len ≤ cap) (h0 : a = none → cap = 0) (hr : Rd .u64 w a xs) :
    Calls Tryz.prog 106 #[.slice a len cap] w fun e w' => e = .returned (.slice a (fl xs) cap) ∧ w = w' := by
  go_enter Tryz.func106, Tryz.ntmps106
  go_wp2
  go_loop [3] (fun v => ∃ n : Nat, n ≤ len ∧ v = .int .i64 n ∧ Hid (∀ i, n ≤ i → i < xs.length → at0 xs i = 0)) (fun v => (intOf v).toNat)
  case atStart => exact ⟨len, Nat.le_refl _, rfl, fun i h1 h2 => by omega⟩
  case round =>
    obtain ⟨n, hn, rfl, hz⟩ := hrel
    by_cases h0' : n = 0
    · subst h0'
      have hf := Lib.hid (show 0 = fl xs from fl_unique (Nat.zero_le _) hz.out (fun h => by omega))
      cases a with
      | none =>
        obtain rfl := h0 rfl
        go_wp2
        go_ret
        exact ⟨by rw [← hf.out]; rfl, rfl⟩
      | some p =>
        go_wp2
        go_ret
        exact ⟨by rw [← hf.out]; rfl, rfl⟩
    · obtain ⟨b, off, rfl⟩ := hr.isAt (by omega)
      have hcell := hr.cell (i := n - 1) (by omega)
      obtain ⟨m, rfl⟩ : ∃ m, n = m + 1 := ⟨n - 1, by omega⟩
      rw [Nat.add_sub_cancel] at hcell
      generalize hx0 : at0 xs m = x at hcell
      have hx := Lib.hid hx0
      clear hx0 hr h0
      by_cases hx1 : x = 0
      · subst hx1
        go_wp2
        go_round
        case rel => exact ⟨m, by omega, by go_num, fun i h1 h2 => by rcases Nat.eq_or_lt_of_le h1 with rfl | h; exact hx.out; exact hz.out i h h2⟩
        case measure => simp [intOf]
      · have hf : m + 1 = fl xs := fl_unique (by omega) hz.out (fun _ => by rw [Nat.add_sub_cancel, hx.out]; exact hx1)
        have HF := Lib.hid hf
        clear hf
        go_wp2
        go_ret
        exact ⟨by rw [← HF.out]; rfl, rfl⟩

theorem or32 (x y : Nat) (hx : x < 4294967296) (hy : y < 4294967296) : bits BinOp.or IntKind.u64 (x : Int) ((y : Int) * 4294967296) = ((x + y * 4294967296 : Nat) : Int) := by
  have h1 : (BitVec.ofInt 64 (x : Int)).toNat = x := by
    rw [BitVec.ofInt_natCast, BitVec.toNat_ofNat]; exact Nat.mod_eq_of_lt (by omega)
  have e : (y : Int) * 4294967296 = ((y * 4294967296 : Nat) : Int) := by omega
  have h2 : (BitVec.ofInt 64 ((y * 4294967296 : Nat) : Int)).toNat = y * 4294967296 := by
    rw [BitVec.ofInt_natCast, BitVec.toNat_ofNat]; exact Nat.mod_eq_of_lt (by omega)
  rw [e]
  show IntKind.u64.wrap ((BitVec.ofInt 64 (x : Int) ||| BitVec.ofInt 64 ((y * 4294967296 : Nat) : Int)).toNat : Int) = _
  rw [BitVec.toNat_or, h1, h2, Nat.or_comm, show y * 4294967296 = 2 ^ 32 * y by omega, ← Nat.two_pow_add_eq_or_of_lt (by omega), IntKind.wrap_u64]
  omega
theorem pow_pair (k : Nat) : 4294967296 ^ (2 * k) = 18446744073709551616 ^ k := by rw [Nat.pow_mul]
/-- A row that is read: with room behind it. -/
theorem own64.room {w : World} {B : Nat} {a : Option Addr} {n c : Nat} {zs : List Nat} (h : own64 w B (.slice a n c) zs) : n ≤ c ∧ (a = none → c = 0) := by
  rcases h.2 with ⟨hv, h0⟩ | ⟨g, c1, cur, hv, hb, hg, hn, _⟩
  · simp only [Value.slice.injEq] at hv; exact ⟨by omega, fun _ => hv.2.2⟩
  · simp only [Value.slice.injEq] at hv; exact ⟨by omega, fun h => by rw [h] at hv; simp at hv⟩

theorem own64_snoc {w : World} {B k z : Nat} {v : Value} {A : Int} {zs : List Nat} (h : w.ownsRow B 61 1 v (k + 1) (u64s zs ++ [.int .u64 A])) (hk : zs.length = k) (e : A = (z : Nat)) : own64 w B v (zs ++ [z]) := by
  unfold own64
  rw [u64s_append, List.length_append, hk, ← (show [Value.int .u64 A] = u64s [z] by rw [e]; rfl)]
  exact h
theorem own64.row {w : World} {B k : Nat} {v : Value} {zs : List Nat} (h : own64 w B v zs) (hk : zs.length = k) : w.ownsRow B 61 1 v k (u64s zs) := by
  unfold own64 at h; rw [hk] at h; exact h
theorem val_odd {zs hs : List Nat} {k x : Nat} (hz : zs.length = k) (hv : val zs = v32 (hs.take (2 * k))) (h1 : v32 (hs.take (2 * k + 1)) = v32 (hs.take (2 * k)) + 4294967296 ^ (2 * k) * x)
    (hl : hs.length ≤ 2 * k + 1) (hl2 : hs.length ≤ 2 * (k + 1)) : val (zs ++ [x]) = v32 (hs.take (2 * (k + 1))) := by
  rw [List.take_of_length_le hl] at h1
  rw [List.take_of_length_le hl2, h1, val_snoc, hz, hv, pow_pair]
theorem val_pair {zs hs : List Nat} {k x y : Nat} (hz : zs.length = k) (hv : val zs = v32 (hs.take (2 * k))) (h1 : v32 (hs.take (2 * k + 1)) = v32 (hs.take (2 * k)) + 4294967296 ^ (2 * k) * x)
    (h2 : v32 (hs.take (2 * k + 1 + 1)) = v32 (hs.take (2 * k + 1)) + 4294967296 ^ (2 * k + 1) * y) : val (zs ++ [x + y * 4294967296]) = v32 (hs.take (2 * (k + 1))) := by
  rw [show 2 * (k + 1) = 2 * k + 1 + 1 by omega, h2, h1, val_snoc, hz, hv, Nat.pow_succ, pow_pair, Nat.mul_add]
  rw [show 18446744073709551616 ^ k * (y * 4294967296) = 18446744073709551616 ^ k * 4294967296 * y by rw [Nat.mul_comm y, Nat.mul_assoc]]
  omega

set_option maxHeartbeats 1000000 in
set_option maxRecDepth 100000 in
theorem limbs_any (a : Option Addr) (len cap : Nat) (hs : List Nat) (w : World) (hl : hs.length = len) (hbig : len ≤ 1099511627776) (hr : Rd .u64 w a hs) (hh : Hd hs) :
    Calls Tryz.prog 105 #[.slice a len cap] w fun e w' => ∃ v zs, e = .returned v ∧ own64 w' w.heap.size v zs ∧ Num zs (v32 hs) ∧ Below w.heap.size w w' := by
  go_enter Tryz.func105, Tryz.ntmps105
  go_wp2
  go_loopw [3, 4] (fun v i wr => ∃ (k : Nat) (zs : List Nat), 2 * k ≤ len + 1 ∧ i = .int .i64 ((2 * k : Nat) : Int) ∧ Hid (own64 wr w.heap.size v zs) ∧ zs.length = k ∧ Hid (Bd zs) ∧ Hid (val zs = v32 (hs.take (2 * k))) ∧ Below w.heap.size w wr) (fun _ i _ => len + 2 - (intOf i).toNat)
  case atStart => exact ⟨0, [], by omega, rfl, own64_nil _ _, rfl, Bd.nil, by show _ = _; simp [val, v32], Below.refl _ _⟩
  case round =>
    obtain ⟨k, zs, hk, rfl, HO, hzk, HB, HV, hbl⟩ := hrel
    have hsz := hbl.size
    by_cases hlt : 2 * k < len
    · obtain ⟨b, off, rfl⟩ := hr.isAt (by omega)
      have hc1 := below_cell hbl _ _ (hr.cell (i := 2 * k) (by omega))
      have hb1 : at0 hs (2 * k) < 4294967296 := hh.at0 _
      have HX : Hid (v32 (hs.take (2 * k + 1)) = v32 (hs.take (2 * k)) + 4294967296 ^ (2 * k) * at0 hs (2 * k)) := take_v32_snoc (by omega)
      have hown : wr.ownsRow w.heap.size 61 1 u3 k (u64s zs) := by have := HO.out; unfold own64 at this; rw [hzk] at this; exact this
      have HZ := Lib.hid hzk
      clear hzk
      by_cases hlt2 : 2 * k + 1 < len
      · have hc2 := below_cell hbl _ _ (hr.cell (i := 2 * k + 1) (by omega))
        have hb2 : at0 hs (2 * k + 1) < 4294967296 := hh.at0 _
        have HY : Hid (v32 (hs.take (2 * k + 1 + 1)) = v32 (hs.take (2 * k + 1)) + 4294967296 ^ (2 * k + 1) * at0 hs (2 * k + 1)) := take_v32_snoc (by omega)
        generalize at0 hs (2 * k) = x at *
        generalize at0 hs (2 * k + 1) = y at *
        have ho := or32 x y hb1 hb2
        have hq : decide (2 * (k : Int) + 1 < (len : Int)) = true := by simp; omega
        go_wp2_with (at_builtin; refine wpl_app 22 61 Tryz.underlying22 info64 rfl (by decide) rfl _ _ rfl w.heap.size _ k (u64s zs) rfl (hown.alloc _) wr.heap.size _ rfl (World.cell?_alloc_at _ _ _ _ rfl) rfl (by omega) (by simp; omega) ?_)
        intro g cap' w1 hown1 hg1 hBg hgl hgo
        have HO1 := Lib.hid hown1
        have hbl1 : Below w.heap.size w w1 := (hbl.alloc (by omega) _).grown hg1 (by simp; omega) (fun j hj => (hown.lt j hj).1)
        clear hown1 hg1 hgo hown
        go_wp2
        go_roundw
        case rel =>
          refine ⟨k + 1, zs ++ [x + y * 4294967296], by omega, by go_num, own64_snoc HO1.out HZ.out (by omega), by have := HZ.out; simp; omega, HB.out.snoc (by omega), ?_, hbl1⟩
          exact val_pair HZ.out HV.out HX.out HY.out
        case measure => simp [intOf]; omega
      · generalize at0 hs (2 * k) = x at *
        have hq : decide (2 * (k : Int) + 1 < (len : Int)) = false := by simp; omega
        go_wp2_with (at_builtin; refine wpl_app 22 61 Tryz.underlying22 info64 rfl (by decide) rfl _ _ rfl w.heap.size _ k (u64s zs) rfl (hown.alloc _) wr.heap.size _ rfl (World.cell?_alloc_at _ _ _ _ rfl) rfl (by omega) (by simp; omega) ?_)
        intro g cap' w1 hown1 hg1 hBg hgl hgo
        have HO1 := Lib.hid hown1
        have hbl1 : Below w.heap.size w w1 := (hbl.alloc (by omega) _).grown hg1 (by simp; omega) (fun j hj => (hown.lt j hj).1)
        clear hown1 hg1 hgo hown
        go_wp2
        go_roundw
        case rel =>
          refine ⟨k + 1, zs ++ [x], by omega, by go_num, own64_snoc HO1.out HZ.out rfl, by have := HZ.out; simp; omega, HB.out.snoc (by omega), ?_, hbl1⟩
          exact val_odd HZ.out HV.out HX.out (by omega) (by omega)
        case measure => simp [intOf]; omega
    · obtain ⟨a', c', rfl, hrd⟩ := own64.form HO.out
      obtain ⟨hroom, hnone⟩ := own64.room HO.out
      have HN := Lib.hid hnone
      have hrow := num_fm HB.out
      rw [HV.out, List.take_of_length_le (show hs.length ≤ 2 * k by omega)] at hrow
      have HR := Lib.hid hrow
      clear hnone hrow
      go_wp2_with fail
      refine (strip_any a' k c' zs _ hzk (by omega) (by omega) HN.out hrd).mono ?_
      rintro e w1 ⟨rfl, rfl⟩
      go_wp2
      go_ret
      refine ⟨_, fm zs, rfl, ?_, HR.out, hbl⟩
      have hfl := fl_spec zs
      refine ⟨by rw [u64s_len, fm_length]; omega, ?_⟩
      rcases HO.out.2 with ⟨hv, h0⟩ | ⟨g, c1, cur, hv, hb, hg, hn, hm, hss, ht⟩
      · simp only [Value.slice.injEq] at hv
        obtain ⟨rfl, _, rfl⟩ := hv
        have : fl zs = 0 := by omega
        refine .inl ⟨?_, by rw [fm_length]; exact this⟩
        show Value.slice none (fl zs) 0 = _
        rw [this]
      · simp only [Value.slice.injEq] at hv
        obtain ⟨rfl, _, rfl⟩ := hv
        refine .inr ⟨g, c', cur, by rw [fm_length]; rfl, hb, hg, by rw [fm_length]; omega, hm, hss, ?_⟩
        have h2 : (cur.toList.take (zs.length * 1)).take (fl zs) = (u64s zs).take (fl zs) := by rw [ht]
        rw [List.take_take, Nat.min_eq_left (by omega)] at h2
        rw [fm_length, Nat.mul_one, h2]
        simp [u64s, fm, List.map_take]

theorem own64.set {w : World} {B g n c : Nat} {zs : List Nat} (h : own64 w B (.slice (some ⟨g, 0, none⟩) n c) zs) (j x : Nat) : own64 (w.setCell ⟨g, j, none⟩ (.int .u64 (x : Nat))) B (.slice (some ⟨g, 0, none⟩) n c) (zs.set j x) := by
  have hn : n = zs.length := (own64.rd h).1
  subst hn
  unfold own64 at h ⊢
  rw [← u64s_set, List.length_set]
  exact (World.ownsRow.stored h j _).1
theorem own64.cell {w : World} {B g n c : Nat} {zs : List Nat} (h : own64 w B (.slice (some ⟨g, 0, none⟩) n c) zs) {j : Nat} (hj : j < zs.length) : w.cell? ⟨g, j, none⟩ = some (.int .u64 (at0 zs j : Nat)) := by
  have hn : n = zs.length := (own64.rd h).1
  subst hn
  rw [World.ownsRow.cellAt h j (by omega), u64s_get _ _ hj]
theorem own64.free {w : World} {B g n c : Nat} {zs : List Nat} (h : own64 w B (.slice (some ⟨g, 0, none⟩) n c) zs) (j : Nat) : w.frozen? ⟨g, j, none⟩ = false := by
  have hn : n = zs.length := (own64.rd h).1
  subst hn
  exact World.ownsRow.frozenAt h j
theorem own64.isAt {w : World} {B : Nat} {v : Value} {zs : List Nat} (h : own64 w B v zs) (h0 : 0 < zs.length) : ∃ g c, v = .slice (some ⟨g, 0, none⟩) zs.length c ∧ B ≤ g ∧ g < w.heap.size := owns_some h h0
theorem take_set_snoc {ws : List Nat} {k x : Nat} (h : k < ws.length) : (ws.set k x).take (k + 1) = ws.take k ++ [x] := by
  rw [List.take_add_one, List.take_set_of_le (Nat.le_refl k)]
  simp [h]
theorem drop_set_succ {ws : List Nat} {k x : Nat} : (ws.set k x).drop (k + 1) = ws.drop (k + 1) := by
  rw [List.drop_set_of_lt (by omega)]
theorem Hd.set {ws : List Nat} {k x : Nat} (h : Hd ws) (hx : x < 4294967296) : Hd (ws.set k x) := fun y hy => by
  rcases List.mem_or_eq_of_mem_set hy with hy | rfl
  · exact h y hy
  · exact hx
theorem drop_eq_tail {ws hs : List Nat} {k : Nat} (h : ws.drop k = hs.drop k) : ws.drop (k + 1) = hs.drop (k + 1) := by
  rw [← List.drop_drop, h, List.drop_drop]
theorem drop_eq_at0 {ws hs : List Nat} {k : Nat} (h : ws.drop k = hs.drop k) : at0 ws k = at0 hs k := by
  have h1 := at0_drop (xs := ws) (i := 0) (n := k)
  have h2 := at0_drop (xs := hs) (i := 0) (n := k)
  rw [Nat.add_zero] at h1 h2
  rw [← h1, ← h2, h]
theorem ten_step {ws hs : List Nat} {k x cy c0 : Nat} (hk : k < ws.length) (hv : v32 (ws.take k) + 4294967296 ^ k * cy = 10 * v32 (hs.take k) + c0) (hx : v32 (hs.take (k + 1)) = v32 (hs.take k) + 4294967296 ^ k * x) :
    v32 ((ws.set k ((x * 10 + cy) % 4294967296)).take (k + 1)) + 4294967296 ^ (k + 1) * ((x * 10 + cy) / 4294967296) = 10 * v32 (hs.take (k + 1)) + c0 := by
  rw [take_set_snoc hk, v32_snoc, List.length_take, Nat.min_eq_left (by omega), hx, Nat.pow_succ]
  generalize 4294967296 ^ k = p at *
  have e : p * ((x * 10 + cy) % 4294967296) + p * 4294967296 * ((x * 10 + cy) / 4294967296) = p * (x * 10 + cy) := by rw [Nat.mul_assoc, ← Nat.mul_add, Nat.mod_add_div]
  rw [Nat.mul_add, ← Nat.mul_assoc] at e
  omega

/-- What the document's Parse answers. -/
def RParsePost (l : List UInt8) (w : World) (e : Ending) (w' : World) : Prop :=
  Below w.heap.size w w' ∧
  ((65536 < l.length ∧ e = .returned (.tuple #[.slice none 0 0, .int .i64 3])) ∨
   (l.length ≤ 65536 ∧ decB l = false ∧ e = .returned (.tuple #[.slice none 0 0, .int .i64 12])) ∨
   (l.length ≤ 65536 ∧ decB l = true ∧ 18446744073709551616 ^ 128 ≤ dval l ∧ e = .returned (.tuple #[.slice none 0 0, .int .i64 3])) ∨
   (l.length ≤ 65536 ∧ decB l = true ∧ dval l < 18446744073709551616 ^ 128 ∧ ∃ v zs, e = .returned (.tuple #[v, .int .i64 0]) ∧ own64 w' w.heap.size v zs ∧ Num zs (dval l)))
theorem cn32_ge {hs : List Nat} (hc : Cn hs) (hp : 0 < hs.length) : 4294967296 ^ (hs.length - 1) ≤ v32 hs := by
  have h3 := v32_at hs (hs.length - 1) (by omega)
  have hcn := hc hp
  have h4 : 4294967296 ^ (hs.length - 1) * 1 ≤ 4294967296 ^ (hs.length - 1) * (at0 hs (hs.length - 1) + 4294967296 * v32 (hs.drop (hs.length - 1 + 1))) := Nat.mul_le_mul_left _ (by omega)
  omega
theorem cn32_of_ge {ws : List Nat} (hh : Hd ws) (h : 0 < ws.length → 4294967296 ^ (ws.length - 1) ≤ v32 ws) : Cn ws := by
  intro hp e
  have h1 := v32_take_drop ws (ws.length - 1) (by omega)
  have h2 : ws.drop (ws.length - 1) = [0] := by
    rw [List.drop_eq_getElem_cons (by omega), List.drop_of_length_le (by omega), ← at0_getElem (by omega), e]
  have h3 := v32_lt (hh.take (ws.length - 1))
  rw [List.length_take, Nat.min_eq_left (by omega)] at h3
  have h4 := h hp
  rw [h2] at h1
  simp only [v32] at h1
  omega
theorem dval_mono (l : List UInt8) (k : Nat) : dval (l.take k) ≤ dval l := by
  have h := dval_append (l.take k) (l.drop k)
  rw [List.take_append_drop] at h
  have h2 : dval (l.take k) * 1 ≤ dval (l.take k) * 10 ^ (l.drop k).length := Nat.mul_le_mul_left _ (Nat.pow_pos (by decide))
  omega
theorem decB_true {l : List UInt8} (h0 : 0 < l.length) (hd : ∀ c ∈ l, isDig c = true) : decB l = true := by
  have : l.all isDig = true := List.all_eq_true.2 hd
  simp [decB, this, h0]
theorem pow_128 : (4294967296 : Nat) ^ 256 = 18446744073709551616 ^ 128 := by decide +kernel

set_option exponentiation.threshold 10000 in
set_option maxHeartbeats 2000000 in
set_option maxRecDepth 100000 in
theorem rparse_main (s : ByteArray) (w : World) (hs0 : 0 < s.size) (hs : s.size ≤ 65536) (hd : ∀ c ∈ s.data.toList, isDig c = true) :
    Calls Tryz.prog 81 #[.string s] w (RParsePost s.data.toList w) := by
  have hlen := bytes_len s
  have HD := Lib.hid hd
  clear hd
  go_enter Tryz.func81, Tryz.ntmps81
  go_wp2
  go_loop [4] (fun i => ∃ k : Nat, k ≤ s.size ∧ i = .int .i64 k) (fun i => s.size - (intOf i).toNat)
  case atStart => exact ⟨0, Nat.zero_le _, rfl⟩
  case round =>
    obtain ⟨k, hk, rfl⟩ := hrel
    by_cases hlt : k < s.size
    · have h1 : 48 ≤ s[k].toNat ∧ s[k].toNat ≤ 57 := by
        have := HD.out s[k] (by rw [← Array.mem_def]; exact Array.getElem_mem hlt)
        simpa [isDig] using this
      obtain ⟨h1, h2⟩ := h1
      have t1 : decide ((s[k].toNat : Int) < 48) = false := by simp; omega
      have t2 : decide ((57 : Int) < (s[k].toNat : Int)) = false := by simp; omega
      go_wp2
      go_round
      case rel => exact ⟨k + 1, by omega, by go_num⟩
      case measure => simp [intOf]; omega
    · obtain rfl : k = s.size := by omega
      go_wp2
      go_loopw [5, 6] (fun v i wr => ∃ (k : Nat) (hs : List Nat), k ≤ s.size ∧ i = .int .i64 k ∧ Hid (own64 wr w.heap.size v hs) ∧ hs.length ≤ 256 ∧ Hid (Hd hs) ∧ Hid (Cn hs) ∧ Hid (v32 hs = dval (s.data.toList.take k)) ∧ Below w.heap.size w wr) (fun _ i _ => s.size - (intOf i).toNat)
      case atStart => exact ⟨0, [], Nat.zero_le _, rfl, own64_nil _ _, by simp, Hd.nil, fun h => by simp at h, by show _ = _; simp [v32, dval], Below.refl _ _⟩
      case round =>
        obtain ⟨k, hs, hk, rfl, HO, hl, HH, HC, HV, hbl⟩ := hrel
        by_cases hlt : k < s.size
        · have h1 : 48 ≤ s[k].toNat ∧ s[k].toNat ≤ 57 := by
            have := HD.out s[k] (by rw [← Array.mem_def]; exact Array.getElem_mem hlt)
            simpa [isDig] using this
          obtain ⟨h1, h2⟩ := h1
          have HS := Lib.hid (bytes_take_snoc s k hlt)
          obtain ⟨c0, hc0⟩ : ∃ c0, c0 = s[k].toNat - 48 := ⟨_, rfl⟩
          have rc : (s[k].toNat : Int) - 48 = (c0 : Int) := by omega
          have hc9 : c0 ≤ 9 := by omega
          have HC0 := Lib.hid hc0
          clear hc0
          obtain ⟨a, cp, rfl, hrd⟩ := own64.form HO.out
          go_wp2
          obtain ⟨w0, rfl⟩ : ∃ w0 : World, w0 = wr := ⟨_, rfl⟩
          go_loopw [7, 8] (fun cv kv wr => ∃ (j cy : Nat) (ws : List Nat), j ≤ hs.length ∧ kv = .int .i64 j ∧ cv = .int .u64 cy ∧ cy ≤ 9 ∧ Hid (own64 wr w.heap.size (.slice a hs.length cp) ws) ∧ Hid (ws.length = hs.length) ∧ Hid (Hd ws) ∧ Hid (v32 (ws.take j) + 4294967296 ^ j * cy = 10 * v32 (hs.take j) + c0) ∧ Hid (ws.drop j = hs.drop j) ∧ Below w.heap.size w wr) (fun _ kv _ => hs.length - (intOf kv).toNat)
          case atStart => exact ⟨0, c0, hs, Nat.zero_le _, rfl, rfl, hc9, HO, rfl, HH, by show _ = _; simp [v32], rfl, hbl⟩
          case round =>
            clear HO hrd hbl
            obtain ⟨j, cy, ws, hj, rfl, rfl, hcy, HO, HL, HW, HN, HDr, hbl⟩ := hrel
            have hsz := hbl.size
            by_cases hlt2 : j < hs.length
            · obtain ⟨g, c', hv, hBg, hgl⟩ := own64.isAt HO.out (by have := HL.out; omega)
              simp only [Value.slice.injEq] at hv
              obtain ⟨rfl, _, rfl⟩ := hv
              have hc1 := own64.cell HO.out (j := j) (by have := HL.out; omega)
              have hf1 := own64.free HO.out j
              have HA : Hid (at0 ws j = at0 hs j) := drop_eq_at0 HDr.out
              have hb1 : at0 ws j < 4294967296 := HW.out.at0 _
              have HX : Hid (v32 (hs.take (j + 1)) = v32 (hs.take j) + 4294967296 ^ j * at0 ws j) := by rw [HA.out]; exact take_v32_snoc (by omega)
              have HT : Hid (v32 ((ws.set j ((at0 ws j * 10 + cy) % 4294967296)).take (j + 1)) + 4294967296 ^ (j + 1) * ((at0 ws j * 10 + cy) / 4294967296) = 10 * v32 (hs.take (j + 1)) + c0) := ten_step (by have := HL.out; omega) HN.out HX.out
              have HOS := fun (x : Nat) => own64.set HO.out j x
              generalize at0 ws j = x at *
              have ha := and_low (x * 10 + cy) (by omega)
              have ha2 : bits BinOp.and IntKind.u64 ((x : Int) * 10 + (cy : Int)) 4294967295 = (((x * 10 + cy) % 4294967296 : Nat) : Int) := by rw [← ha]; congr 1
              have HHS := Lib.hid HOS
              clear HOS ha HA
              go_wp2
              go_roundw
              case rel =>
                refine ⟨j + 1, (x * 10 + cy) / 4294967296, ws.set j ((x * 10 + cy) % 4294967296), by omega, by go_num, lit64 (by omega), by omega, ?_, by show _ = _; rw [List.length_set]; exact HL.out, HW.out.set (by omega), HT.out, ?_, hbl.setCell hBg _⟩
                · have := HHS.out ((x * 10 + cy) % 4294967296)
                  rw [lit64 (show ((x : Int) * 10 + cy) % 4294967296 = ((x * 10 + cy) % 4294967296 : Nat) by omega)]
                  exact this
                · show _ = _
                  rw [drop_set_succ]; exact drop_eq_tail HDr.out
              case measure => simp [intOf]; omega
            · obtain rfl : j = hs.length := by omega
              have HV2 : Hid (v32 ws + 4294967296 ^ hs.length * cy = dval (s.data.toList.take (k + 1))) := by
                show _ = _
                have h3 := HN.out
                rw [List.take_length, List.take_of_length_le (by have := HL.out; omega)] at h3
                rw [HS.out, dval_snoc, ← HC0.out, h3, HV.out]
              have hown : wr.ownsRow w.heap.size 61 1 (.slice a hs.length cp) hs.length (u64s ws) := own64.row HO.out HL.out
              by_cases h0 : cy = 0
              · subst h0
                have HC2 : Hid (Cn ws) := by
                  refine cn32_of_ge HW.out fun hp => ?_
                  have h3 := HN.out
                  rw [List.take_length, List.take_of_length_le (by have := HL.out; omega)] at h3
                  have h4 := cn32_ge HC.out (by have := HL.out; omega)
                  rw [HL.out]; omega
                have hq : decide (256 < hs.length) = false := by simp; omega
                clear hown
                go_wp2
                go_roundw
                case rel => exact ⟨k + 1, ws, by omega, by go_num, HO, by have := HL.out; omega, HW, HC2, by show _ = _; have := HV2.out; omega, hbl⟩
                case measure => simp [intOf]; omega
              · have hq0 : decide ((0 : Int) < (cy : Int)) = true := by simp; omega
                have hcp : 0 < cy := by omega
                go_wp2_with (at_builtin; refine wpl_app 22 61 Tryz.underlying22 info64 rfl (by decide) rfl _ _ rfl w.heap.size _ hs.length (u64s ws) rfl (hown.alloc _) wr.heap.size _ rfl (World.cell?_alloc_at _ _ _ _ rfl) rfl (by omega) (by simp; omega) ?_)
                intro g cap' w1 hown1 hg1 hBg hgl hgo
                have HO1 := Lib.hid hown1
                have hbl1 : Below w.heap.size w w1 := (hbl.alloc (by omega) _).grown hg1 (by simp; omega) (fun j hj => (hown.lt j hj).1)
                clear hown1 hg1 hgo hown
                have HV3 : Hid (v32 (ws ++ [cy]) = dval (s.data.toList.take (k + 1))) := by
                  show _ = _
                  rw [v32_snoc, HL.out]; exact HV2.out
                have HC2 : Hid (Cn (ws ++ [cy])) := by
                  intro _
                  rw [List.length_append, List.length_singleton, Nat.add_sub_cancel]
                  have := at0_append_right (xs := ws) (ys := [cy]) 0
                  rw [Nat.add_zero] at this
                  rw [this]; simpa [at0] using h0
                by_cases hbig : 256 < hs.length + 1
                · have HR : Hid (18446744073709551616 ^ 128 ≤ dval s.data.toList) := by
                    have h3 := cn32_ge HC2.out (by simp)
                    rw [HV3.out, List.length_append, HL.out, List.length_singleton, Nat.add_sub_cancel, show hs.length = 256 by omega, pow_128] at h3
                    exact Nat.le_trans h3 (dval_mono _ _)
                  have hq : decide (256 < hs.length + 1) = true := by simp; omega
                  go_wp2
                  go_ret2
                  exact ⟨hbl1, .inr (.inr (.inl ⟨by omega, decB_true (by omega) HD.out, HR.out, rfl⟩))⟩
                · have hq : decide (256 < hs.length + 1) = false := by simp; omega
                  go_wp2
                  go_roundw
                  case rel => exact ⟨k + 1, ws ++ [cy], by omega, by go_num, own64_snoc HO1.out HL.out rfl, by have := HL.out; simp; omega, HW.out.snoc (by omega), HC2, HV3, hbl1⟩
                  case measure => simp [intOf]; omega
        · obtain rfl : k = s.size := by omega
          obtain ⟨a, cp, rfl, hrd⟩ := own64.form HO.out
          have HV2 : Hid (v32 hs = dval s.data.toList) := by have := HV.out; rw [List.take_of_length_le (by omega)] at this; exact this
          have HO2 := Lib.hid hrd
          clear hrd
          go_wp2_with fail
          refine (limbs_any a hs.length cp hs _ rfl (by omega) HO2.out HH.out).mono ?_
          rintro e w1 ⟨v, zs, rfl, hown, hnum, hb2⟩
          have HOW := Lib.hid hown
          have HNU := Lib.hid hnum
          have hbl1 : Below w.heap.size w w1 := hbl.trans (hb2.mono hbl.size)
          clear hown hnum hb2
          go_wp2
          go_ret2
          refine ⟨hbl1, .inr (.inr (.inr ⟨by omega, decB_true (by omega) HD.out, ?_, v, zs, rfl, owns_base HOW.out hbl.size, by rw [← HV2.out]; exact HNU.out⟩))⟩
          have h3 := v32_lt HH.out
          have h4 : 4294967296 ^ hs.length ≤ 4294967296 ^ 256 := Nat.pow_le_pow_right (by decide) hl
          rw [pow_128] at h4
          rw [HV2.out] at h3
          omega

theorem rparse_any (s : ByteArray) (w : World) (hs : s.size ≤ 9223372036854775807) :
    Calls Tryz.prog 81 #[.string s] w (RParsePost s.data.toList w) := by
  have hlen := bytes_len s
  by_cases hbig : 65536 < s.size
  · go_enter Tryz.func81, Tryz.ntmps81
    go_wp2
    go_ret2
    exact ⟨Below.refl _ _, .inl ⟨by omega, rfl⟩⟩
  · by_cases h0 : s.size = 0
    · have HD : Hid (decB s.data.toList = false) := by
        show _ = _
        have : s.data.toList = [] := List.eq_nil_of_length_eq_zero (by omega)
        rw [this]; rfl
      go_enter Tryz.func81, Tryz.ntmps81
      go_wp2
      go_ret2
      exact ⟨Below.refl _ _, .inr (.inl ⟨by omega, HD.out, rfl⟩)⟩
    · by_cases hd : ∀ c ∈ s.data.toList, isDig c = true
      · exact rparse_main s w (by omega) (by omega) hd
      · have HB : Hid (decB s.data.toList = false) := by
          show _ = _
          have : s.data.toList.all isDig = false := by
            rw [List.all_eq_false]
            simpa using hd
          simp [decB, this]
        have HD := Lib.hid hd
        clear hd
        go_enter Tryz.func81, Tryz.ntmps81
        go_wp2
        go_loop [4] (fun i => ∃ k : Nat, k ≤ s.size ∧ i = .int .i64 k ∧ Hid (∀ c ∈ s.data.toList.take k, isDig c = true)) (fun i => s.size - (intOf i).toNat)
        case atStart => exact ⟨0, Nat.zero_le _, rfl, fun c hc => by simp at hc⟩
        case round =>
          obtain ⟨k, hk, rfl, HT⟩ := hrel
          by_cases hlt : k < s.size
          · have HS := Lib.hid (bytes_take_snoc s k hlt)
            by_cases hd : isDig s[k] = true
            · have h1 : 48 ≤ s[k].toNat ∧ s[k].toNat ≤ 57 := by simpa [isDig] using hd
              obtain ⟨h1, h2⟩ := h1
              have HDk := Lib.hid hd
              clear hd
              have t1 : decide ((s[k].toNat : Int) < 48) = false := by simp; omega
              have t2 : decide ((57 : Int) < (s[k].toNat : Int)) = false := by simp; omega
              go_wp2
              go_round
              case rel => exact ⟨k + 1, by omega, by go_num, fun c hc => by rw [HS.out, List.mem_append] at hc; rcases hc with hc | hc; exact HT.out c hc; simp at hc; rw [hc]; exact HDk.out⟩
              case measure => simp [intOf]; omega
            · have h1 : ¬ (48 ≤ s[k].toNat ∧ s[k].toNat ≤ 57) := by simpa [isDig] using hd
              clear hd
              by_cases h2 : s[k].toNat < 48
              · have t1 : decide ((s[k].toNat : Int) < 48) = true := by simp; omega
                clear h1
                go_wp2
                go_ret2
                exact ⟨Below.refl _ _, .inr (.inl ⟨by omega, HB.out, rfl⟩)⟩
              · have t1 : decide ((s[k].toNat : Int) < 48) = false := by simp; omega
                have t2 : decide ((57 : Int) < (s[k].toNat : Int)) = true := by simp; omega
                clear h1
                go_wp2
                go_ret2
                exact ⟨Below.refl _ _, .inr (.inl ⟨by omega, HB.out, rfl⟩)⟩
          · obtain rfl : k = s.size := by omega
            have := HT.out
            rw [List.take_of_length_le (by omega)] at this
            exact absurd this HD.out

/-- The number of bytes, the highest first. -/
def bval (l : List Nat) : Nat := l.foldl (fun n c => 256 * n + c) 0
def B8 (l : List Nat) : Prop := ∀ x ∈ l, x < 256
theorem bval_snoc (l : List Nat) (c : Nat) : bval (l ++ [c]) = 256 * bval l + c := by simp [bval]
theorem foldl_bval (l : List Nat) (n : Nat) : l.foldl (fun n c => 256 * n + c) n = n * 256 ^ l.length + bval l := by
  induction l generalizing n with
  | nil => simp [bval]
  | cons c l ih =>
    have h1 := ih (256 * n + c)
    have h2 := ih (256 * 0 + c)
    unfold bval
    rw [List.foldl_cons, List.foldl_cons, h1, h2, List.length_cons, Nat.pow_succ]
    generalize 256 ^ l.length = p
    rw [Nat.add_mul, Nat.add_mul, Nat.mul_comm p 256, ← Nat.mul_assoc, Nat.mul_comm n 256]
    omega
theorem bval_append (a b : List Nat) : bval (a ++ b) = bval a * 256 ^ b.length + bval b := by
  show (a ++ b).foldl _ 0 = _
  rw [List.foldl_append, foldl_bval]
  rfl
theorem bval_cons (c : Nat) (l : List Nat) : bval (c :: l) = c * 256 ^ l.length + bval l := by
  have := bval_append [c] l
  simpa [bval] using this
theorem bval_lt {l : List Nat} (h : B8 l) : bval l < 256 ^ l.length := by
  induction l with
  | nil => simp [bval]
  | cons c l ih =>
    have h1 := ih (fun x hx => h x (by simp [hx]))
    have h2 := h c (by simp)
    rw [bval_cons, List.length_cons, Nat.pow_succ]
    generalize 256 ^ l.length = p at *
    have h3 : c * p ≤ 255 * p := Nat.mul_le_mul_right _ (by omega)
    omega
theorem B8.drop {l : List Nat} (h : B8 l) (n : Nat) : B8 (l.drop n) := fun y hy => h y (List.mem_of_mem_drop hy)
theorem B8.take {l : List Nat} (h : B8 l) (n : Nat) : B8 (l.take n) := fun y hy => h y (List.mem_of_mem_take hy)
theorem B8.at0 {l : List Nat} (h : B8 l) (i : Nat) : at0 l i < 256 := by
  unfold Go.Proofs.YtfjhmnbbjknflaaGreatDoor.at0 List.getD
  by_cases hi : i < l.length
  · rw [List.getElem?_eq_getElem hi]; exact h _ (List.getElem_mem hi)
  · rw [List.getElem?_eq_none (by omega)]; decide
theorem pow_8 (q : Nat) : (18446744073709551616 : Nat) ^ q = 256 ^ (8 * q) := by rw [Nat.pow_mul]
/-- The limb at a place, out of the number. -/
theorem at0_val {ws : List Nat} (h : Bd ws) (q : Nat) (hq : q < ws.length) : at0 ws q = val ws / 18446744073709551616 ^ q % 18446744073709551616 := by
  have h1 := val_at ws q hq
  have h2 := val_lt (h.take q)
  rw [List.length_take, Nat.min_eq_left (by omega)] at h2
  rw [h1, Nat.add_comm, Nat.mul_add_div (Nat.pow_pos (by decide)), Nat.div_eq_of_lt h2, Nat.add_zero, Nat.add_mul_mod_self_left, Nat.mod_eq_of_lt (h.at0 q)]
/-- A limb into which nothing below a byte has been written. -/
theorem limb_free {ws : List Nat} {N p : Nat} (h : Bd ws) (hq : p / 8 < ws.length) (hv : val ws = N * 256 ^ (p + 1)) : ∃ t, at0 ws (p / 8) = t * 2 ^ (8 * (p % 8) + 8) := by
  rw [at0_val h _ hq, hv, pow_8]
  have e1 : 256 ^ (p + 1) = 256 ^ (p % 8 + 1) * 256 ^ (8 * (p / 8)) := by rw [← Nat.pow_add]; congr 1; omega
  have e2 : (18446744073709551616 : Nat) = 256 ^ (p % 8 + 1) * 256 ^ (7 - p % 8) := by rw [← Nat.pow_add, show p % 8 + 1 + (7 - p % 8) = 8 by omega]
  have e3 : 2 ^ (8 * (p % 8) + 8) = 256 ^ (p % 8 + 1) := by rw [show 8 * (p % 8) + 8 = 8 * (p % 8 + 1) by omega, Nat.pow_mul]
  rw [e1, ← Nat.mul_assoc, Nat.mul_div_cancel _ (Nat.pow_pos (by decide)), e2, e3, Nat.mul_comm N, Nat.mul_mod_mul_left, Nat.mul_comm]
  exact ⟨_, rfl⟩
theorem set_val {ws : List Nat} {q y : Nat} (hq : q < ws.length) : val (ws.set q y) + 18446744073709551616 ^ q * at0 ws q = val ws + 18446744073709551616 ^ q * y := by
  have h1 := val_at ws q hq
  have h2 := val_at (ws.set q y) q (by simpa using hq)
  rw [List.take_set_of_le (Nat.le_refl q), drop_set_succ, show at0 (ws.set q y) q = y by rw [at0_getElem (by simpa using hq)]; simp] at h2
  rw [h2]
  rw [h1, Nat.mul_add, Nat.mul_add]
  omega
theorem byte_step {ws : List Nat} {N p x : Nat} (h : Bd ws) (hq : p / 8 < ws.length) (hv : val ws = N * 256 ^ (p + 1)) (hx : x < 256) :
    (at0 ws (p / 8) ||| x * 2 ^ (8 * (p % 8))) = at0 ws (p / 8) + x * 2 ^ (8 * (p % 8)) ∧ at0 ws (p / 8) + x * 2 ^ (8 * (p % 8)) < 18446744073709551616 ∧ x * 2 ^ (8 * (p % 8)) < 18446744073709551616 ∧
    val (ws.set (p / 8) (at0 ws (p / 8) + x * 2 ^ (8 * (p % 8)))) = (256 * N + x) * 256 ^ p := by
  obtain ⟨t, ht⟩ := limb_free h hq hv
  have hb := h.at0 (p / 8)
  have hxs : x * 2 ^ (8 * (p % 8)) < 2 ^ (8 * (p % 8) + 8) := by
    rw [Nat.pow_add, Nat.mul_comm]; exact Nat.mul_lt_mul_of_pos_left hx (Nat.two_pow_pos _)
  have e64 : (18446744073709551616 : Nat) = 2 ^ (56 - 8 * (p % 8)) * 2 ^ (8 * (p % 8) + 8) := by rw [← Nat.pow_add, show 56 - 8 * (p % 8) + (8 * (p % 8) + 8) = 64 by omega]
  have htb : t < 2 ^ (56 - 8 * (p % 8)) := by
    refine Nat.lt_of_mul_lt_mul_right (a := 2 ^ (8 * (p % 8) + 8)) ?_
    rw [← e64, ← ht]; exact hb
  refine ⟨?_, ?_, ?_, ?_⟩
  · rw [ht, Nat.mul_comm t, Nat.two_pow_add_eq_or_of_lt hxs]
  · have h5 : (t + 1) * 2 ^ (8 * (p % 8) + 8) ≤ 2 ^ (56 - 8 * (p % 8)) * 2 ^ (8 * (p % 8) + 8) := Nat.mul_le_mul_right _ htb
    rw [← e64, Nat.add_mul, ← ht] at h5
    omega
  · have h6 : 1 * 2 ^ (8 * (p % 8) + 8) ≤ 2 ^ (56 - 8 * (p % 8)) * 2 ^ (8 * (p % 8) + 8) := Nat.mul_le_mul_right _ (Nat.two_pow_pos _)
    rw [← e64] at h6
    omega
  · have h7 := set_val (y := at0 ws (p / 8) + x * 2 ^ (8 * (p % 8))) hq
    have e8 : 18446744073709551616 ^ (p / 8) * (x * 2 ^ (8 * (p % 8))) = x * 256 ^ p := by
      rw [pow_8, show 2 ^ (8 * (p % 8)) = 256 ^ (p % 8) by rw [Nat.pow_mul], ← Nat.mul_assoc, Nat.mul_comm _ x, Nat.mul_assoc, ← Nat.pow_add, show 8 * (p / 8) + p % 8 = p by omega]
    rw [Nat.mul_add, e8, hv] at h7
    rw [Nat.add_mul, Nat.pow_succ] at *
    rw [show N * (256 ^ p * 256) = 256 * N * 256 ^ p by rw [Nat.mul_comm 256 N, Nat.mul_assoc, Nat.mul_comm 256]] at h7
    omega
/-- The bytes' form: no byte 0 ahead: as many limbs as bytes ask. -/
theorem cn64_of_ge {ws : List Nat} (hh : Bd ws) (h : 0 < ws.length → 18446744073709551616 ^ (ws.length - 1) ≤ val ws) : Cn ws := by
  intro hp e
  have h1 := val_take_drop ws (ws.length - 1) (by omega)
  have h2 : ws.drop (ws.length - 1) = [0] := by
    rw [List.drop_eq_getElem_cons (by omega), List.drop_of_length_le (by omega), ← at0_getElem (by omega), e]
  have h3 := val_lt (hh.take (ws.length - 1))
  rw [List.length_take, Nat.min_eq_left (by omega)] at h3
  have h4 := h hp
  rw [h2] at h1
  simp only [val] at h1
  omega
theorem bytes_cn {ws l : List Nat} (hh : Bd ws) (hl : ws.length = (l.length + 7) / 8) (hv : val ws = bval l) (h0 : at0 l 0 ≠ 0 ∨ l = []) : Cn ws := by
  refine cn64_of_ge hh fun hp => ?_
  rcases h0 with h0 | rfl
  · cases l with
    | nil => simp [at0] at h0
    | cons c l =>
      rw [at0_cons_zero] at h0
      rw [hv, bval_cons, pow_8]
      have h1 : 256 ^ (8 * (ws.length - 1)) ≤ 256 ^ l.length := Nat.pow_le_pow_right (by decide) (by simp at hl; omega)
      have h2 : 1 * 256 ^ l.length ≤ c * 256 ^ l.length := Nat.mul_le_mul_right _ (by omega)
      omega
  · rw [hl] at hp; simp at hp

/-- A new list of noughts. -/
theorem wpl_make64 {w : World} {ops : Array Oper} {rest : List Oper} {o : Oper} {a : Act} {Q : Exit → Act → World → Prop} (hg : o.guard = none) (l c : Operand) (hop : o.op = Op.makeSlice 22 l c)
    (B : Nat) (kl kc : IntKind) (L C : Int) (n : Nat) (hl : a.eval l = .int kl L) (hc : a.eval c = .int kc C) (hL : L = (n : Int)) (hC : C = (n : Int)) (hn : n ≤ 4398046511104) (hB : B ≤ w.heap.size)
    (hK : ∀ w', own64 w' B (.slice (some ⟨w.heap.size, 0, none⟩) n n) (List.replicate n 0) → Below B w w' → w.heap.size < w'.heap.size → wpList Tryz.prog ops Q rest (a.put o.dst (.slice (some ⟨w.heap.size, 0, none⟩) n n)) w') :
    wpList Tryz.prog ops Q (o :: rest) a w := by
  obtain ⟨i, hi, hz, hsz, hb⟩ := info_parts info64
  refine wpList_make_full w hg l c 22 hop B 61 i (.int .u64 0) 1 Tryz.underlying22 hi hz hsz kl kc L C n hl hc hL hC (by rw [hb]; omega) (by simp only [maxLen]; omega) hB ?_
  intro w' hown hgr
  refine hK w' ?_ ((Below.refl _ _).grown hgr hB (fun k hk => by cases hk)) ((hown.lt _ rfl).2)
  unfold own64
  rw [List.length_replicate]
  have e : (madeCells (Value.int .u64 0).cells (n * 1)).toList = u64s (List.replicate n 0) := by
    rw [Nat.mul_one, show (Value.int .u64 0).cells = #[.int .u64 0] from rfl, toList_madeCells_one, u64s, List.map_replicate]
    rfl
  rw [e] at hown
  exact hown

def lenOf : Value → Nat | .slice _ n _ => n | _ => 0
/-- Bytes' number. -/
def FromPost (l : List Nat) (w : World) (e : Ending) (w' : World) : Prop :=
  Below w.heap.size w w' ∧
  ((18446744073709551616 ^ 128 ≤ bval l ∧ e = .returned (.tuple #[.slice none 0 0, .int .i64 3])) ∨
   (bval l < 18446744073709551616 ^ 128 ∧ ∃ v zs, e = .returned (.tuple #[v, .int .i64 0]) ∧ own64 w' w.heap.size v zs ∧ Num zs (bval l)))

/-- A slice without its first element. -/
theorem Rd.tail {k : IntKind} {w : World} {b off : Nat} {xs : List Nat} (h : Rd k w (some ⟨b, off, none⟩) xs) : Rd k w (some ⟨b, off + 1, none⟩) (xs.drop 1) := by
  intro j hj
  simp at hj
  refine ⟨b, off + 1, rfl, fun i hi => ?_⟩
  simp at hi
  have := h.cell (i := i + 1) (by omega)
  have e := at0_drop (xs := xs) (i := i) (n := 1)
  unfold at0 at e this
  rw [e, show off + 1 + i = off + (i + 1) by omega, Nat.add_comm 1 i]
  exact this

theorem bval_zeros {l : List Nat} {j : Nat} (hj : j ≤ l.length) (hz : ∀ i, i < j → at0 l i = 0) : bval (l.drop j) = bval l := by
  induction j with
  | zero => rfl
  | succ j ih =>
    rw [← ih (by omega) (fun i hi => hz i (by omega)), List.drop_eq_getElem_cons (i := j) (by omega), bval_cons, ← at0_getElem (by omega), hz j (by omega), Nat.zero_mul, Nat.zero_add]
theorem bval_ge {l : List Nat} (h0 : at0 l 0 ≠ 0) : 256 ^ (l.length - 1) ≤ bval l := by
  cases l with
  | nil => simp [at0] at h0
  | cons c l =>
    rw [at0_cons_zero] at h0
    rw [bval_cons, List.length_cons, Nat.add_sub_cancel]
    have h2 : 1 * 256 ^ l.length ≤ c * 256 ^ l.length := Nat.mul_le_mul_right _ (by omega)
    omega
theorem pow_1024 : (256 : Nat) ^ 1024 = 18446744073709551616 ^ 128 := by decide +kernel
theorem Bd.set {ws : List Nat} {k x : Nat} (h : Bd ws) (hx : x < 18446744073709551616) : Bd (ws.set k x) := fun y hy => by
  rcases List.mem_or_eq_of_mem_set hy with hy | rfl
  · exact h y hy
  · exact hx
theorem or_nat (a b : Nat) (ha : a < 18446744073709551616) (hb : b < 18446744073709551616) : bits BinOp.or IntKind.u64 (a : Int) (b : Int) = ((a ||| b : Nat) : Int) := by
  have h1 : (BitVec.ofInt 64 (a : Int)).toNat = a := by
    rw [BitVec.ofInt_natCast, BitVec.toNat_ofNat]; exact Nat.mod_eq_of_lt (by omega)
  have h2 : (BitVec.ofInt 64 (b : Int)).toNat = b := by
    rw [BitVec.ofInt_natCast, BitVec.toNat_ofNat]; exact Nat.mod_eq_of_lt (by omega)
  have hx : a ||| b < 2 ^ 64 := Nat.or_lt_two_pow (by omega) (by omega)
  show IntKind.u64.wrap ((BitVec.ofInt 64 (a : Int) ||| BitVec.ofInt 64 (b : Int)).toNat : Int) = _
  rw [BitVec.toNat_or, h1, h2, IntKind.wrap_u64]
  omega

/-- What stands behind the bytes 0 ahead. -/
def Tail (l : List Nat) (w : World) (v : Value) : Prop := ∃ (j c' : Nat) (a' : Option Addr), j ≤ l.length ∧ v = .slice a' (l.length - j) c' ∧ l.length - j ≤ c' ∧ Rd .u8 w a' (l.drop j) ∧ bval (l.drop j) = bval l ∧ (at0 (l.drop j) 0 ≠ 0 ∨ l.drop j = [])

end Go.Proofs.YtfjhmnbbjknflaaGreatDoor
