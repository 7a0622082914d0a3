import Derived.Test.YtaookoejdnkkoaaGreatDoorQHv
import Derived.Test.YtaookoejdnkkoaaGreatDoorQ03
import Derived.Test.YtaookoejdnkkoaaGreatDoorQ07
import Derived.Lib.AppendStr
import Derived.Test.YtaookoejdnkkoaaGreatDoorQBo
import Derived.Test.YtaookoejdnkkoaaGreatDoorQ02
import Derived.Deep.RegionLaw
import Derived.Laws.ComplexArith
import Derived.Laws.Entries
import Derived.Lib.OthersKept
import Derived.Outline
import Derived.Test.YtaookoejdnkkoaaGreatDoorQDeI
import Derived.Lib.AppendZeros
import Derived.Test.YtaookoejdnkkoaaGreatDoorQ05
namespace Go.Proofs.YtaookoejdnkkoaaGreatDoor
open Go.RowKit

/-! Pieces put together. -/
/-! rsa's small functions. -/
theorem raw_lit (w : World) (x : Nat) (hx : x < 18446744073709551616) : Raw (w.alloc (.cells #[.int .u64 (x : Nat)] 47)) (.slice (some ⟨w.heap.size, 0, none⟩) 1 1) x :=
  ⟨some ⟨w.heap.size, 0, none⟩, 1, [x], rfl, by simp, (fun h => by cases h), fun _ _ => ⟨w.heap.size, 0, rfl, fun i hi => by
    obtain rfl : i = 0 := by simp at hi; omega
    exact World.cell?_alloc_at _ _ _ _ rfl⟩, Bd.nil.cons hx, by simp [val], by simp⟩
theorem r_cmp {w : World} {va vb : Value} {A C : Nat} (ga : Raw w va A) (gb : Raw w vb C) :
    Calls Tryz.prog 71 #[va, vb] w fun e w' => Below w.heap.size w w' ∧ ((A < C ∧ e = .returned (.int .i64 (-1))) ∨ (A = C ∧ e = .returned (.int .i64 0)) ∨ (C < A ∧ e = .returned (.int .i64 1))) := by
  obtain ⟨a, ca, xs, rfl, h1, _, hr1, hb1, rfl, hl1⟩ := ga
  obtain ⟨b, cb, ys, rfl, h2, _, hr2, hb2, rfl, hl2⟩ := gb
  refine (cmp_any a b _ _ ca cb xs ys w rfl rfl (by omega) (by omega) h1 h2 hr1 hr2 hb1 hb2).mono ?_
  rintro e w' ⟨rfl, n, rfl⟩
  refine ⟨⟨rfl, rfl, rfl, Nat.le_refl _, fun _ _ => rfl⟩, ?_⟩
  unfold cmpI
  rcases Nat.lt_trichotomy (val xs) (val ys) with h | h | h
  · exact .inl ⟨h, by rw [if_pos h]⟩
  · exact .inr (.inl ⟨h, by rw [if_neg (by omega), if_pos h]⟩)
  · exact .inr (.inr ⟨h, by rw [if_neg (by omega), if_neg (by omega)]⟩)
set_option maxHeartbeats 800000 in
theorem p_odd {w : World} {v : Value} {n : Nat} (h : Raw w v n) :
    Calls Tryz.prog 160 #[v] w fun e w' => w' = w ∧ ((n % 2 = 1 ∧ e = .returned (.bool true)) ∨ (n % 2 ≠ 1 ∧ e = .returned (.bool false))) := by
  obtain ⟨a, c, zs, rfl, h1, h2, hr, hb, rfl, hl⟩ := h
  cases zs with
  | nil =>
    go_enter Tryz.func160, Tryz.ntmps160
    go_wp2
    go_ret
    exact ⟨rfl, .inr ⟨by simp [val], rfl⟩⟩
  | cons x t =>
    obtain ⟨b, off, rfl⟩ := hr.isAt (by simp)
    have hc := hr.cell (i := 0) (by simp)
    have hx : x < 18446744073709551616 := hb x List.mem_cons_self
    have hand := and_one x hx
    have hv : Hid (val (x :: t) % 2 = x % 2) := by show _ = _; rw [val_cons]; omega
    have hlen : (x :: t).length = t.length + 1 := by simp
    obtain ⟨n, hn⟩ : ∃ n, n = t.length + 1 := ⟨_, rfl⟩
    have h0n : (0 : Int) < (n : Int) := by omega
    have hq : decide ((0 : Int) < (n : Int)) = true := by simpa using h0n
    have hc : w.cell? ⟨b, off, none⟩ = some (.int .u64 (x : Nat)) := by simpa [at0] using hc
    rw [hlen, ← hn]
    clear hr hb hl h1 h2 hlen hn
    go_enter Tryz.func160, Tryz.ntmps160
    go_wp2
    go_ret
    by_cases ho : x % 2 = 1
    · have h1 : ((x : Int) % 2 == 1) = true := by simp; omega
      exact ⟨rfl, .inl ⟨hv.out.trans ho, by show Ending.returned (Value.bool ((x : Int) % 2 == 1)) = _; rw [h1]⟩⟩
    · have h1 : ((x : Int) % 2 == 1) = false := by simp; omega
      exact ⟨rfl, .inr ⟨by rw [hv.out]; exact ho, by show Ending.returned (Value.bool ((x : Int) % 2 == 1)) = _; rw [h1]⟩⟩
set_option maxHeartbeats 800000 in
theorem p_maymod {w : World} {v : Value} {n : Nat} (h : Raw w v n) :
    Calls Tryz.prog 107 #[v] w fun e w' => w' = w ∧ (((368 ≤ bitsN n ∧ bitsN n ≤ 4096 ∧ n % 2 = 1) ∧ e = .returned (.bool true)) ∨ (¬ (368 ≤ bitsN n ∧ bitsN n ≤ 4096 ∧ n % 2 = 1) ∧ e = .returned (.bool false))) := by
  have HR := Lib.hid h
  go_enter Tryz.func107, Tryz.ntmps107
  go_wp2_with fail
  refine (g_bits HR.out).mono ?_
  rintro e w' ⟨k, rfl, hk, -, rfl⟩
  have HK := Lib.hid hk.eq
  clear hk h
  by_cases h1 : 368 ≤ k
  · by_cases h2 : k ≤ 4096
    · have q1 : decide ((368 : Int) ≤ (k : Int)) = true := decide_eq_true (by omega)
      have q2 : decide ((k : Int) ≤ (4096 : Int)) = true := decide_eq_true (by omega)
      have HH := Lib.hid (And.intro h1 h2)
      clear h1 h2
      go_wp2_with fail
      refine (p_odd HR.out).mono ?_
      rintro e w' ⟨rfl, hor⟩
      rcases hor with ⟨ho, rfl⟩ | ⟨ho, rfl⟩
      · have HO := Lib.hid ho
        clear ho
        go_wp2
        go_ret
        exact ⟨rfl, .inl ⟨by rw [← HK.out]; exact ⟨HH.out.1, HH.out.2, HO.out⟩, rfl⟩⟩
      · have HO := Lib.hid ho
        clear ho
        go_wp2
        go_ret
        exact ⟨rfl, .inr ⟨fun h => HO.out h.2.2, rfl⟩⟩
    · have q1 : decide ((368 : Int) ≤ (k : Int)) = true := decide_eq_true (by omega)
      have q2 : decide ((k : Int) ≤ (4096 : Int)) = false := decide_eq_false (by omega)
      have HH := Lib.hid h2
      clear h1 h2
      go_wp2
      go_ret
      exact ⟨rfl, .inr ⟨fun h => HH.out (by rw [HK.out]; exact h.2.1), rfl⟩⟩
  · have q1 : decide ((368 : Int) ≤ (k : Int)) = false := decide_eq_false (by omega)
    have HH := Lib.hid h1
    clear h1
    go_wp2
    go_ret
    exact ⟨rfl, .inr ⟨fun h => HH.out (by rw [HK.out]; exact h.1), rfl⟩⟩
set_option maxHeartbeats 800000 in
theorem p_mayexp {w : World} {vE vN : Value} {E N : Nat} (gE : Raw w vE E) (gN : Raw w vN N) :
    Calls Tryz.prog 108 #[vE, vN] w fun e w' => Below w.heap.size w w' ∧ (((E % 2 = 1 ∧ 3 ≤ E ∧ E < N) ∧ e = .returned (.bool true)) ∨ (¬ (E % 2 = 1 ∧ 3 ≤ E ∧ E < N) ∧ e = .returned (.bool false))) := by
  have HE := Lib.hid gE
  have HN := Lib.hid gN
  have hal : Below w.heap.size w (w.alloc (.cells #[.int .u64 ((3 : Nat) : Int)] 47)) := (Below.refl _ _).alloc (Nat.le_refl _) _
  have HA := Lib.hid hal
  have H3 := Lib.hid (r_cmp (gE.below hal) (raw_lit w 3 (by decide)))
  obtain ⟨aE, lE, cE, rfl⟩ := gE.sl
  obtain ⟨aN, lN, cN, rfl⟩ := gN.sl
  clear gE gN hal
  go_enter Tryz.func108, Tryz.ntmps108
  go_wp2_with fail
  refine (p_odd HE.out).mono ?_
  rintro e w' ⟨rfl, hor⟩
  rcases hor with ⟨ho, rfl⟩ | ⟨ho, rfl⟩
  · have HO := Lib.hid ho
    clear ho
    go_wp2_with fail
    refine H3.out.mono ?_
    rintro e w1 ⟨hb, hor⟩
    have HB := Lib.hid (HA.out.trans (hb.mono HA.out.size))
    clear hb
    have key : (3 ≤ E ∧ ∃ k : Int, (k = 0 ∨ k = 1) ∧ e = .returned (.int .i64 k)) ∨ (E < 3 ∧ e = .returned (.int .i64 (-1))) := by
      rcases hor with ⟨h, rfl⟩ | ⟨h, rfl⟩ | ⟨h, rfl⟩
      · exact .inr ⟨h, rfl⟩
      · exact .inl ⟨by omega, 0, .inl rfl, rfl⟩
      · exact .inl ⟨by omega, 1, .inr rfl, rfl⟩
    clear hor
    rcases key with ⟨h3, k, hk, rfl⟩ | ⟨h3, rfl⟩
    · have HH := Lib.hid h3
      have q : decide ((0 : Int) ≤ k) = true := decide_eq_true (by omega)
      have q2 : decide (k ≥ (0 : Int)) = true := decide_eq_true (by omega)
      have q3 : (0 : Int) ≤ k := by omega
      clear h3 hk
      go_wp2_with fail
      refine (r_cmp (HE.out.below HB.out) (HN.out.below HB.out)).mono ?_
      rintro e w2 ⟨hb, hor⟩
      have HB := Lib.hid (HB.out.trans (hb.mono HB.out.size))
      clear hb
      have key : (E < N ∧ e = .returned (.int .i64 (-1))) ∨ (N ≤ E ∧ ∃ k : Int, (k = 0 ∨ k = 1) ∧ e = .returned (.int .i64 k)) := by
        rcases hor with ⟨h, rfl⟩ | ⟨h, rfl⟩ | ⟨h, rfl⟩
        · exact .inl ⟨h, rfl⟩
        · exact .inr ⟨by omega, 0, .inl rfl, rfl⟩
        · exact .inr ⟨by omega, 1, .inr rfl, rfl⟩
      clear hor
      rcases key with ⟨h3, rfl⟩ | ⟨h3, k2, hk, rfl⟩
      · have HL := Lib.hid h3
        clear h3
        go_wp2
        go_ret
        exact ⟨HB.out, .inl ⟨⟨HO.out, HH.out, HL.out⟩, rfl⟩⟩
      · have HL := Lib.hid h3
        have p1 : decide (k2 < (0 : Int)) = false := decide_eq_false (by omega)
        clear h3 hk
        go_wp2
        go_ret
        exact ⟨HB.out, .inr ⟨fun h => by have := HL.out; omega, rfl⟩⟩
    · have HH := Lib.hid h3
      clear h3
      go_wp2
      go_ret
      exact ⟨HB.out, .inr ⟨fun h => by have := HH.out; omega, rfl⟩⟩
  · have HO := Lib.hid ho
    clear ho
    go_wp2
    go_ret
    exact ⟨Below.refl _ _, .inr ⟨fun h => HO.out h.1, rfl⟩⟩

/-! A key in its box: Check, Size, and a signature's number. -/
abbrev KB (x y : Value) : Obj := .cells #[x, y] 25
/-- A key that lies in a block. -/
structure KeyAt (w : World) (g : Nat) (vN vE : Value) (N E : Nat) : Prop where
  c0 : w.cell? ⟨g, 0, none⟩ = some vN
  c1 : w.cell? ⟨g, 1, none⟩ = some vE
  rN : Raw w vN N
  rE : Raw w vE E
theorem KeyAt.below {w w' : World} {g : Nat} {vN vE : Value} {N E : Nat} (h : KeyAt w g vN vE N E) (hb : Below w.heap.size w w') : KeyAt w' g vN vE N E :=
  ⟨below_cell hb _ _ h.c0, below_cell hb _ _ h.c1, h.rN.below hb, h.rE.below hb⟩
theorem KeyAt.new {w : World} {vN vE : Value} {N E : Nat} (hN : Raw w vN N) (hE : Raw w vE E) : KeyAt (w.alloc (KB vN vE)) w.heap.size vN vE N E :=
  ⟨World.cell?_alloc_at _ _ _ _ rfl, World.cell?_alloc_at _ _ _ _ rfl, hN.below ((Below.refl _ _).alloc (Nat.le_refl _) _), hE.below ((Below.refl _ _).alloc (Nat.le_refl _) _)⟩
set_option maxHeartbeats 800000 in
theorem p_check {w : World} {vN vE : Value} {N E : Nat} (gN : Raw w vN N) (gE : Raw w vE E) :
    Calls Tryz.prog 58 #[.agg #[vN, vE]] w fun e w' => Below w.heap.size w w' ∧ ((KeyOk N E ∧ e = .returned (.int .i64 0)) ∨ (¬ KeyOk N E ∧ e = .returned (.int .i64 80))) := by
  have HK0 := KeyAt.new gN gE
  obtain ⟨aN, lN, cN, rfl⟩ := gN.sl
  obtain ⟨aE, lE, cE, rfl⟩ := gE.sl
  obtain ⟨W0, hW0⟩ : ∃ W0, W0 = w.alloc (KB (.slice aN lN cN) (.slice aE lE cE)) := ⟨_, rfl⟩
  have hB : Below w.heap.size w W0 := by rw [hW0]; exact (Below.refl _ _).alloc (Nat.le_refl _) _
  rw [← hW0] at HK0
  have hc0 := HK0.c0
  have hc1 := HK0.c1
  have HK := Lib.hid HK0
  have HB := Lib.hid hB
  clear HK0 hB gN gE
  go_enter Tryz.func58, Tryz.ntmps58
  go_wp2_with fail
  rw [← hW0]
  clear hW0
  refine (p_maymod HK.out.rN).mono ?_
  rintro e w' ⟨rfl, hor⟩
  rcases hor with ⟨ho, rfl⟩ | ⟨ho, rfl⟩
  · have HO := Lib.hid ho
    clear ho
    go_wp2_with fail
    refine (p_mayexp HK.out.rE HK.out.rN).mono ?_
    rintro e w1 ⟨hb, hor⟩
    have HB := Lib.hid (HB.out.trans (hb.mono HB.out.size))
    clear hb hc0 hc1
    rcases hor with ⟨h2, rfl⟩ | ⟨h2, rfl⟩
    · have H2 := Lib.hid h2
      clear h2
      go_wp2
      go_ret
      exact ⟨HB.out, .inl ⟨⟨HO.out.1, HO.out.2.1, HO.out.2.2, H2.out.1, H2.out.2.1, H2.out.2.2⟩, rfl⟩⟩
    · have H2 := Lib.hid h2
      clear h2
      go_wp2
      go_ret
      exact ⟨HB.out, .inr ⟨fun h => H2.out ⟨h.2.2.2.1, h.2.2.2.2.1, h.2.2.2.2.2⟩, rfl⟩⟩
  · have HO := Lib.hid ho
    clear ho hc0 hc1
    go_wp2
    go_ret
    exact ⟨HB.out, .inr ⟨fun h => HO.out ⟨h.1, h.2.1, h.2.2.1⟩, rfl⟩⟩
/-! A number in so many bytes; a digest's encoding. -/
/-! Raise. -/
/-! Verify. -/
theorem own8_form {w : World} {B : Nat} {v : Value} {l : List Nat} (h : own8 w B v l) : ∃ a c, v = .slice a l.length c ∧ l.length ≤ c ∧ (a = none → c = 0) ∧ Rd .u8 w a l := by
  rcases h.2 with ⟨rfl, h0⟩ | ⟨g, c, cur, rfl, _, _, hc, _⟩
  · exact ⟨none, 0, by rw [h0], by omega, fun _ => rfl, fun j hj => by omega⟩
  · refine ⟨_, c, rfl, hc, (fun h => by cases h), fun j hj => ⟨g, 0, rfl, fun i hi => ?_⟩⟩
    rw [Nat.zero_add, World.ownsRow.cellAt h i (by omega)]
    exact u8s_at l i hi
theorem own8_rd2x {w : World} {B n c : Nat} {a : Option Addr} {l : List Nat} (h : own8 w B (.slice a n c) l) : Rd .u8 w a l ∧ (a = none → c = 0) := by
  obtain ⟨a', c', e, _, h2, h3⟩ := own8_form h
  simp only [Value.slice.injEq] at e
  obtain ⟨rfl, _, rfl⟩ := e
  exact ⟨h3, h2⟩

theorem own64.keep {w w' : World} {B : Nat} {v : Value} {zs : List Nat} (h : own64 w B v zs) (hb : Below w.heap.size w w') : own64 w' B v zs := (Chg.of_below hb).owns h (fun k hk => by have := h.lt k hk; omega)
set_option exponentiation.threshold 10000 in
theorem lims {a b c : Nat} (ha : a < 18446744073709551616 ^ 40) (hb : b < 18446744073709551616 ^ 40) (hc : c < 18446744073709551616 ^ 40) :
    a + b < 18446744073709551616 ^ 128 ∧ a * b < 18446744073709551616 ^ 128 ∧ a + b + c < 18446744073709551616 ^ 128 ∧ a * b * c < 18446744073709551616 ^ 128 ∧ a * (b + c) < 18446744073709551616 ^ 128 ∧ a * b + a * c < 18446744073709551616 ^ 128 := by
  have k1 : a * b ≤ 18446744073709551616 ^ 40 * 18446744073709551616 ^ 40 := Nat.mul_le_mul (Nat.le_of_lt ha) (Nat.le_of_lt hb)
  have k2 : a * c ≤ 18446744073709551616 ^ 40 * 18446744073709551616 ^ 40 := Nat.mul_le_mul (Nat.le_of_lt ha) (Nat.le_of_lt hc)
  have k3 : a * b * c ≤ 18446744073709551616 ^ 40 * 18446744073709551616 ^ 40 * 18446744073709551616 ^ 40 := Nat.mul_le_mul k1 (Nat.le_of_lt hc)
  have e1 : (18446744073709551616 : Nat) ^ 40 * 18446744073709551616 ^ 40 = 18446744073709551616 ^ 80 := by rw [← Nat.pow_add]
  have e2 : (18446744073709551616 : Nat) ^ 40 * 18446744073709551616 ^ 40 * 18446744073709551616 ^ 40 = 18446744073709551616 ^ 120 := by rw [← Nat.pow_add, ← Nat.pow_add]
  rw [e1] at k1 k2
  rw [e2] at k3
  have p1 : (18446744073709551616 : Nat) ^ 40 * 4 ≤ 18446744073709551616 ^ 128 := by decide +kernel
  have p2 : (18446744073709551616 : Nat) ^ 80 * 4 ≤ 18446744073709551616 ^ 128 := by decide +kernel
  have p3 : (18446744073709551616 : Nat) ^ 120 < 18446744073709551616 ^ 128 := by decide +kernel
  rw [Nat.mul_add]
  generalize a * b * c = abc at *
  generalize a * b = ab at *
  generalize a * c = ac at *
  generalize (18446744073709551616 : Nat) ^ 40 = m40 at *
  generalize (18446744073709551616 : Nat) ^ 80 = m80 at *
  generalize (18446744073709551616 : Nat) ^ 120 = m120 at *
  generalize (18446744073709551616 : Nat) ^ 128 = m at *
  refine ⟨by omega, by omega, by omega, by omega, by omega, by omega⟩

/-! The keys that the statements take. -/
/-- A number of the call's own. -/
def OwnL (w : World) (B : Nat) (v : Value) (l : List Nat) : Prop := own64 w B v l
theorem OwnL.below {w w' : World} {B : Nat} {v : Value} {l : List Nat} (h : OwnL w B v l) (hb : Below w.heap.size w w') : OwnL w' B v l := own64.keep h hb
theorem OwnL.base {w : World} {B B' : Nat} {v : Value} {l : List Nat} (h : OwnL w B v l) (hB : B' ≤ B) : OwnL w B' v l := owns_base h hB
theorem OwnL.alloc {w : World} {B : Nat} {v : Value} {l : List Nat} (h : OwnL w B v l) (o : Obj) : OwnL (w.alloc o) B v l := h.below ((Below.refl _ _).alloc (Nat.le_refl _) o)
/-! works. -/
theorem own_raw {w : World} {B : Nat} {v : Value} {l : List Nat} (h : OwnL w B v l) (hb : Bd l) (hl : l.length ≤ 1000) : Raw w v (val l) := by
  obtain ⟨a, c, rfl, hr⟩ := own64.form h
  have hc : l.length ≤ c ∧ (a = none → c = 0) := ⟨(own64.room h).1, (own64.room h).2⟩
  exact ⟨a, c, l, rfl, hc.1, hc.2, hr, hb, rfl, hl⟩

/-! slices.Grow from nothing; slices.Concat over parts that are read. -/
set_option maxHeartbeats 800000 in
set_option maxRecDepth 100000 in
theorem grow_any (n : Nat) (w : World) (hn : n ≤ 1099511627776) :
    Calls Tryz.prog 186 #[.slice none 0 0, .int .i64 (n : Nat)] w fun e w' => ∃ v, e = .returned v ∧ own8 w' w.heap.size v [] ∧ Below w.heap.size w w' := by
  by_cases h0 : n = 0
  · subst h0
    go_enter Tryz.func186, Tryz.ntmps186
    go_wp2
    go_ret
    exact ⟨_, rfl, World.ownsRow_nil _ _ _ _, Below.refl _ _⟩
  · have hpos : 0 < n := Nat.pos_of_ne_zero h0
    obtain ⟨i, hi, hz, hsz, hb⟩ := info_parts info8
    have hrun := fun ty => Lib.run_append_nil_zeros (P := Tryz.prog) w 40 3 ty 5 i (.int .u8 0) .i64 .i64 Tryz.underlying40 Tryz.underlying3 hi hz n hpos (by omega) (by omega) (by rw [hb]; omega)
    have hge := grownCap_ge w n 0 5
    have hle := grownCap_le_maxLen w n 0 5 (by unfold maxLen; omega)
    obtain ⟨G, hG⟩ : ∃ G, G = grownCap w n 0 5 := ⟨_, rfl⟩
    rw [← hG] at hge hle hrun
    obtain ⟨W1, hW1⟩ : ∃ W1, W1 = w.drew.alloc (.cells (Builtin.zeroCells (Value.int IntKind.u8 0).cells n ++ Builtin.zeroCells (Value.int IntKind.u8 0).cells (G - n)) 5) := ⟨_, rfl⟩
    rw [← hW1] at hrun
    have hown : own8 W1 w.heap.size (.slice (some ⟨w.heap.size, 0, none⟩) 0 G) [] := by
      refine ⟨rfl, .inr ⟨w.heap.size, G, Builtin.zeroCells (Value.int IntKind.u8 0).cells n ++ Builtin.zeroCells (Value.int IntKind.u8 0).cells (G - n), rfl, Nat.le_refl _, ?_, Nat.zero_le _, hle, ?_, ?_⟩⟩
      · rw [hW1]; exact heap_new w.drew _
      · rw [Array.size_append, size_zeroCells, size_zeroCells]
        simp [Value.cells]
        omega
      · simp [u8s]
    have hbel : Below w.heap.size w W1 := by rw [hW1]; exact (Below.refl _ _).drew.alloc (Nat.le_refl _) _
    have HO := Lib.hid hown
    have HB := Lib.hid hbel
    have hq : decide ((0 : Int) < (n : Int)) = true := decide_eq_true (by omega)
    have hG0 : ¬ G = 0 := by omega
    clear hown hbel hW1 hi hz hsz hb hG hle h0
    go_enter Tryz.func186, Tryz.ntmps186
    go_wp2_with (at_builtin; refine Lib.wpList_append_run _ rfl _ _ _ _ rfl _ _ rfl rfl _ _ (hrun _) ?_)
    go_wp2
    go_ret
    exact ⟨_, rfl, HO.out, HB.out⟩

/-- Parts: where each lies, its room, its bytes. -/
abbrev Pt := Option Addr × Nat × List Nat
def flatL (L : List Pt) : List Nat := (L.map fun q => q.2.2).flatten
structure PartsAt (w : World) (g : Nat) (L : List Pt) : Prop where
  cell : ∀ (i : Nat) q, L[i]? = some q → w.cell? ⟨g, i, none⟩ = some (.slice q.1 q.2.2.length q.2.1)
  rd : ∀ q ∈ L, Rd .u8 w q.1 q.2.2 ∧ (q.1 = none → q.2.1 = 0)
theorem PartsAt.below {w w' : World} {g : Nat} {L : List Pt} (h : PartsAt w g L) (hb : Below w.heap.size w w') : PartsAt w' g L :=
  ⟨fun i q hq => below_cell hb _ _ (h.cell i q hq), fun q hq => ⟨(h.rd q hq).1.below hb, (h.rd q hq).2⟩⟩
theorem flatL_snoc (L : List Pt) (i : Nat) (q : Pt) (h : L[i]? = some q) : flatL (L.take (i + 1)) = flatL (L.take i) ++ q.2.2 := by
  have hi := (List.getElem?_eq_some_iff.1 h).1
  rw [List.take_add_one, h]
  simp [flatL]
theorem flatL_le (L : List Pt) (i : Nat) : (flatL (L.take i)).length ≤ (flatL L).length := by
  have : flatL L = flatL (L.take i) ++ flatL (L.drop i) := by
    unfold flatL
    rw [← List.flatten_append, ← List.map_append, List.take_append_drop]
  rw [this, List.length_append]
  omega
set_option maxHeartbeats 800000 in
set_option maxRecDepth 100000 in
theorem concat_any (g : Nat) (L : List Pt) (n : Nat) (w : World) (hn : L.length = n) (hnb : n ≤ 1000) (hP : PartsAt w g L) (hbig : (flatL L).length ≤ 549755813888) :
    Calls Tryz.prog 145 #[.slice (some ⟨g, 0, none⟩) n n] w fun e w' => ∃ v, e = .returned v ∧ own8 w' w.heap.size v (flatL L) ∧ Below w.heap.size w w' := by
  have HP := Lib.hid hP
  have HN := Lib.hid hn
  have HBG := Lib.hid hbig
  clear hP hn hbig
  go_enter Tryz.func145, Tryz.ntmps145
  go_wp2
  go_loop [3, 11] (fun sv iv => ∃ (i s : Nat), i ≤ n ∧ iv = .int .i64 (i : Nat) ∧ sv = .int .i64 (s : Nat) ∧ Hid (s = (flatL (L.take i)).length)) (fun _ iv => n - (intOf iv).toNat)
  case atStart => exact ⟨0, 0, Nat.zero_le _, rfl, rfl, rfl⟩
  case round =>
    obtain ⟨i, s, hi, rfl, rfl, HS⟩ := hrel
    by_cases hlt : i < n
    · obtain ⟨q, hq⟩ : ∃ q, L[i]? = some q := ⟨_, List.getElem?_eq_getElem (by rw [HN.out]; exact hlt)⟩
      have hcell := HP.out.cell i q hq
      have hfs := flatL_snoc L i q hq
      have hle := flatL_le L (i + 1)
      obtain ⟨a, c, xs⟩ := q
      obtain ⟨m, hm⟩ : ∃ m, m = xs.length := ⟨_, rfl⟩
      simp only at hcell hfs
      rw [← hm] at hcell
      have hsm : s + m = (flatL (L.take (i + 1))).length := by rw [hfs, List.length_append, ← HS.out, ← hm]
      have HSM := Lib.hid hsm
      have hsb : s + m ≤ 549755813888 := by have := HBG.out; omega
      have hq2 : decide ((s : Int) + (m : Int) < 0) = false := decide_eq_false (by omega)
      clear hfs hle hm hsm hq
      go_wp2
      go_round
      case rel => exact ⟨i + 1, s + m, by omega, by go_num, by go_num, HSM.out⟩
      case measure => simp [intOf]; omega
    · obtain rfl : i = n := by omega
      have hs : s = (flatL L).length := by rw [HS.out, List.take_of_length_le (by rw [HN.out]; exact Nat.le_refl _)]
      have hsb : s ≤ 549755813888 := by rw [hs]; exact HBG.out
      clear hs
      go_wp2_with fail
      refine (grow_any s _ (by omega)).mono ?_
      rintro e w1 ⟨v1, rfl, ho1, hb1⟩
      have HO1 := Lib.hid ho1
      have HB1 := Lib.hid hb1
      clear ho1 hb1
      go_wp2
      go_loopw [6, 27] (fun v iv wr => ∃ (k : Nat), k ≤ i ∧ iv = .int .i64 (k : Nat) ∧ Hid (own8 wr w.heap.size v (flatL (L.take k))) ∧ Hid (Below w.heap.size w wr)) (fun _ iv _ => i - (intOf iv).toNat)
      case atStart => exact ⟨0, Nat.zero_le _, rfl, HO1.out, HB1.out⟩
      case round =>
        clear HO1 HB1
        obtain ⟨k, hk, rfl, HO, HB⟩ := hrel
        by_cases hlt2 : k < i
        · obtain ⟨q, hq⟩ : ∃ q, L[k]? = some q := ⟨_, List.getElem?_eq_getElem (by rw [HN.out]; exact hlt2)⟩
          have hP := HP.out.below HB.out
          have hcell := hP.cell k q hq
          have hfs := flatL_snoc L k q hq
          have hle := flatL_le L (k + 1)
          have hrd := hP.rd q (List.mem_of_getElem? hq)
          obtain ⟨a, c, xs⟩ := q
          simp only at hcell hfs hrd
          have hle2 : (flatL (L.take k)).length + xs.length ≤ 549755813888 := by rw [hfs, List.length_append] at hle; have := HBG.out; omega
          have HFS := Lib.hid hfs
          have HRD := Lib.hid hrd.1
          have HNA := Lib.hid hrd.2
          have hsz := HB.out.size
          obtain ⟨M, hM⟩ : ∃ M, M = xs.length := ⟨_, rfl⟩
          have HM := Lib.hid hM
          rw [← hM] at hcell
          clear hfs hle hrd hq hP hM
          go_wp2_with (at_builtin; refine wpl_appN 40 5 Tryz.underlying40 info8 rfl (by decide) rfl _ _ rfl w.heap.size _ (flatL (L.take k)).length (u8s (flatL (L.take k))) rfl HO.out a M c rfl (u8s xs) (by rw [u8s_len, HM.out]) (fun h => HRD.out.news (by rw [← HM.out]; exact h)) (fun _ h => HNA.out h) (u8s_one8 _) (by rw [HM.out]; omega) hsz ?_; intro v5 w5 hown5 hg5 _ _)
          refine ⟨⟨k + 1, by omega, by go_num, ?_, HB.out.grown hg5 hsz (fun q hq => (World.ownsRow.lt HO.out q hq).1)⟩, by simp [intOf]; omega⟩
          show w5.ownsRow _ _ _ _ _ _
          rw [HFS.out, List.length_append, ← HM.out, show u8s (flatL (L.take k) ++ xs) = u8s (flatL (L.take k)) ++ u8s xs by simp [u8s]]
          exact hown5
        · obtain rfl : k = i := by omega
          have hO := HO.out
          rw [List.take_of_length_le (by rw [HN.out]; exact Nat.le_refl _)] at hO
          have HO := Lib.hid hO
          clear hO
          go_wp2
          go_ret
          exact ⟨_, rfl, HO.out, HB.out⟩

/-! The program's writing of lengths, items, contents. -/
theorem own8.under {w w' : World} {B : Nat} {v : Value} {zs : List Nat} (h : own8 w B v zs) (hb : Below w.heap.size w w') : own8 w' B v zs :=
  (Chg.of_below hb).owns h (fun k hk => by have := World.ownsRow.lt h k hk; omega)
theorem own8_lit (w : World) (x : Nat) : own8 (w.alloc (.cells #[.int .u8 (x : Nat)] 5)) w.heap.size (.slice (some ⟨w.heap.size, 0, none⟩) 1 1) [x] :=
  ⟨rfl, .inr ⟨w.heap.size, 1, _, rfl, Nat.le_refl _, heap_new w _, Nat.le_refl _, by decide, rfl, rfl⟩⟩
theorem rd_lit (w : World) (x : Nat) : Rd .u8 (w.alloc (.cells #[.int .u8 (x : Nat)] 5)) (some ⟨w.heap.size, 0, none⟩) [x] := own8_rd2 (own8_lit w x)
/-- Two parts, three parts in a new block. -/
theorem parts2 {w : World} {T : TypeId} {p q : Pt} (hp : Rd .u8 w p.1 p.2.2 ∧ (p.1 = none → p.2.1 = 0)) (hq : Rd .u8 w q.1 q.2.2 ∧ (q.1 = none → q.2.1 = 0)) :
    PartsAt (w.alloc (.cells #[.slice p.1 p.2.2.length p.2.1, .slice q.1 q.2.2.length q.2.1] T)) w.heap.size [p, q] := by
  refine ⟨fun i r hr => ?_, fun r hr => ?_⟩
  · rw [cell_alloc (heap_new w _)]
    rcases i with _ | _ | i
    · obtain rfl : p = r := by simpa using hr
      rfl
    · obtain rfl : q = r := by simpa using hr
      rfl
    · simp at hr
  · rcases List.mem_cons.1 hr with rfl | hr
    · exact ⟨rd_alloc hp.1 _, hp.2⟩
    · obtain rfl : r = q := by simpa using hr
      exact ⟨rd_alloc hq.1 _, hq.2⟩
theorem parts3 {w : World} {T : TypeId} {p q s : Pt} (hp : Rd .u8 w p.1 p.2.2 ∧ (p.1 = none → p.2.1 = 0)) (hq : Rd .u8 w q.1 q.2.2 ∧ (q.1 = none → q.2.1 = 0)) (hs : Rd .u8 w s.1 s.2.2 ∧ (s.1 = none → s.2.1 = 0)) :
    PartsAt (w.alloc (.cells #[.slice p.1 p.2.2.length p.2.1, .slice q.1 q.2.2.length q.2.1, .slice s.1 s.2.2.length s.2.1] T)) w.heap.size [p, q, s] := by
  refine ⟨fun i r hr => ?_, fun r hr => ?_⟩
  · rw [cell_alloc (heap_new w _)]
    rcases i with _ | _ | _ | i
    · obtain rfl : p = r := by simpa using hr
      rfl
    · obtain rfl : q = r := by simpa using hr
      rfl
    · obtain rfl : s = r := by simpa using hr
      rfl
    · simp at hr
  · rcases List.mem_cons.1 hr with rfl | hr
    · exact ⟨rd_alloc hp.1 _, hp.2⟩
    · rcases List.mem_cons.1 hr with rfl | hr
      · exact ⟨rd_alloc hq.1 _, hq.2⟩
      · obtain rfl : r = s := by simpa using hr
        exact ⟨rd_alloc hs.1 _, hs.2⟩
/-- A new list of bytes. -/
def New8 (Q : List Nat → Prop) (w : World) (e : Ending) (w' : World) : Prop := Below w.heap.size w w' ∧ ∃ v l, e = .returned v ∧ own8 w' w.heap.size v l ∧ Q l
theorem fl_one {n : Nat} (h : n ≠ 0) : fl [n] ≤ 1 := by
  have := (fl_spec [n]).1
  simpa using this

set_option maxHeartbeats 800000 in
set_option maxRecDepth 100000 in
theorem lengthOf_any (n : Nat) (w : World) (hn : n < 4294967296) :
    Calls Tryz.prog 185 #[.int .i64 (n : Nat)] w (New8 (LenB n) w) := by
  unfold New8
  by_cases h0 : n < 128
  · have hq : decide ((n : Int) < 128) = true := decide_eq_true (by omega)
    go_enter Tryz.func185, Tryz.ntmps185
    go_wp2
    go_ret
    exact ⟨(Below.refl _ _).alloc (Nat.le_refl _) _, _, _, rfl, own8_lit w n, .inl ⟨h0, rfl⟩⟩
  · have hq : decide ((n : Int) < 128) = false := decide_eq_false (by omega)
    go_enter Tryz.func185, Tryz.ntmps185
    go_wp2_with fail
    have hrd : Rd .u64 (w.alloc (.cells #[.int .u64 (n : Nat)] 47)) (some ⟨w.heap.size, 0, none⟩) [n] := fun j hj => ⟨w.heap.size, 0, rfl, fun i hi => by
      rw [Nat.zero_add, cell_alloc (heap_new w _)]
      have : i = 0 := by simpa using hi
      subst this
      rfl⟩
    refine (bytes_any _ 1 1 [n] _ rfl (by decide) (by decide) hrd (fun x hx => by simp at hx; omega)).mono ?_
    rintro e w2 ⟨hb2, a, c, k, zs, rfl, ho, hz, hQ⟩
    have hT : k = 0 ∧ BNum zs n := by
      rcases hQ with ⟨h1, _, _⟩ | ⟨_, h2, h3⟩
      · have := fl_one (show n ≠ 0 by omega); omega
      · rw [val_one] at h3; exact ⟨h2, h3⟩
    obtain ⟨rfl, hN⟩ := hT
    have hm4 : zs.length ≤ 4 := bnum_len hN (by simpa using hn)
    obtain ⟨a', c', e', hc', hr', hn', -⟩ := own8_open ho
    simp only [Value.slice.injEq, true_and] at e'
    obtain ⟨rfl, rfl⟩ := e'
    have HN := Lib.hid hN
    have HR := Lib.hid hr'
    have HNO := Lib.hid hn'
    have HB := Lib.hid (((Below.refl w.heap.size w).alloc (Nat.le_refl _) (.cells #[.int .u64 (n : Nat)] 47)).trans (hb2.mono (by simp)))
    obtain ⟨m, hm⟩ : ∃ m, m = zs.length := ⟨_, rfl⟩
    have HM := Lib.hid hm
    rw [← hm] at hm4 ⊢
    clear hQ hN ho hz hc' hr' hn' hb2 hrd hm
    go_wp2_with fail
    have hm := HM.out
    subst hm
    have hP := parts2 (w := w2.alloc (.cells #[.int .u8 ((128 + zs.length : Nat) : Nat)] 5)) (T := 40) (p := (some ⟨w2.heap.size, 0, none⟩, 1, [128 + zs.length])) (q := (a, c, zs)) ⟨rd_lit w2 (128 + zs.length), fun h => by cases h⟩ ⟨rd_alloc HR.out _, HNO.out⟩
    rw [show (w2.alloc (.cells #[.int .u8 ((128 + zs.length : Nat) : Nat)] 5)).heap.size = w2.heap.size + 1 by simp] at hP
    rw [show (128 : Int) + (zs.length : Int) = ((128 + zs.length : Nat) : Int) by omega]
    refine (concat_any (w2.heap.size + 1) _ 2 _ rfl (by decide) hP (by simp [flatL]; omega)).mono ?_
    rintro e w3 ⟨v, rfl, ho, hb3⟩
    have HO := Lib.hid ho
    have HB3 := Lib.hid (((HB.out.alloc HB.out.size _).alloc (by have := HB.out.size; simp; omega) _).trans (hb3.mono (by have := HB.out.size; simp; omega)))
    clear ho hb3 hP
    go_wp2
    go_ret
    refine ⟨HB3.out, _, _, rfl, owns_base HO.out (by have := HB.out.size; simp; omega), .inr ⟨by omega, zs, HN.out, hm4, by simp [flatL]⟩⟩
set_option maxHeartbeats 800000 in
set_option maxRecDepth 100000 in
theorem laid_any (t : Nat) (a : Option Addr) (len cap : Nat) (c : List Nat) (w : World) (hl : c.length = len) (hbig : len ≤ 16777216) (hna : a = none → cap = 0) (hr : Rd .u8 w a c) :
    Calls Tryz.prog 144 #[.int .u8 (t : Nat), .slice a len cap] w (New8 (ItemB t c) w) := by
  have HL := Lib.hid hl
  have HR := Lib.hid hr
  have HNA := Lib.hid hna
  unfold New8
  clear hl hr hna
  go_enter Tryz.func144, Tryz.ntmps144
  go_wp2_with fail
  refine (lengthOf_any len _ (by omega)).mono ?_
  rintro e w1 ⟨hb, v, l, rfl, ho, hq⟩
  obtain ⟨a1, c1, rfl, hc1, hr1, hn1, -⟩ := own8_open ho
  have h0 : Rd .u8 w1 (some ⟨w.heap.size, 0, none⟩) [t] := (rd_lit w t).below hb
  have HR1 := Lib.hid hr1
  have HQ := Lib.hid hq
  have hB := ((Below.refl w.heap.size w).alloc (Nat.le_refl _) (.cells #[.int .u8 (t : Nat)] 5)).trans (hb.mono (by simp))
  have HB := Lib.hid hB
  have hl := HL.out
  subst hl
  have hP := parts3 (w := w1) (T := 40) (p := (some ⟨w.heap.size, 0, none⟩, 1, [t])) (q := (a1, c1, l)) (s := (a, cap, c)) ⟨h0, fun h => by cases h⟩ ⟨hr1, hn1⟩ ⟨HR.out.below hB, HNA.out⟩
  have HP := Lib.hid hP
  clear hb ho hq hr1 h0 hP hB hc1 hn1
  go_wp2_with fail
  have hl5 := HQ.out.len
  refine (concat_any w1.heap.size _ 3 _ rfl (by decide) HP.out (by simp [flatL]; omega)).mono ?_
  rintro e w3 ⟨v, rfl, ho, hb3⟩
  have HO := Lib.hid ho
  have HB3 := Lib.hid ((HB.out.alloc HB.out.size _).trans (hb3.mono (by have := HB.out.size; simp; omega)))
  clear ho hb3
  go_wp2
  go_ret
  exact ⟨HB3.out, _, _, rfl, owns_base HO.out (by have := HB.out.size; simp; omega), l, HQ.out, by simp [flatL]⟩
end Go.Proofs.YtaookoejdnkkoaaGreatDoor
