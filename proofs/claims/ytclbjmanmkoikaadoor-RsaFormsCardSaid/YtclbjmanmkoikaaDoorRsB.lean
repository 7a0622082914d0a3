import Derived.Test.YtclbjmanmkoikaaDoorRsA
import Derived.Test.YtclbjmanmkoikaaDoorModG
namespace Go.Proofs.YtclbjmanmkoikaaDoor
open Go.RowKit

/-! rsa's small functions. -/
/-- A row of bytes that can be read. -/
def Raw8 (w : World) (v : Value) (l : List Nat) : Prop := ∃ a c, v = .slice a l.length c ∧ l.length ≤ c ∧ (a = none → c = 0) ∧ Rd .u8 w a l ∧ B8 l
theorem Raw8.below {w w' : World} {v : Value} {l : List Nat} (h : Raw8 w v l) (hb : Below w.heap.size w w') : Raw8 w' v l := by
  obtain ⟨a, c, h1, h2, h3, h4, h5⟩ := h
  exact ⟨a, c, h1, h2, h3, h4.below hb, h5⟩
theorem raw_lit (w : World) (x : Nat) (hx : x < 18446744073709551616) : Raw (w.alloc (.cells #[.int .u64 (x : Nat)] 49)) (.slice (some ⟨w.heap.size, 0, none⟩) 1 1) x :=
  ⟨some ⟨w.heap.size, 0, none⟩, 1, [x], rfl, by simp, (fun h => by cases h), fun _ _ => ⟨w.heap.size, 0, rfl, fun i hi => by
    obtain rfl : i = 0 := by simp at hi; omega
    exact World.cell?_alloc_at _ _ _ _ rfl⟩, Bd.nil.cons hx, by simp [val], by simp⟩
theorem r_cmp {w : World} {va vb : Value} {A C : Nat} (ga : Raw w va A) (gb : Raw w vb C) :
    Calls Tryd.prog 11 #[va, vb] w fun e w' => Below w.heap.size w w' ∧ ((A < C ∧ e = .returned (.int .i64 (-1))) ∨ (A = C ∧ e = .returned (.int .i64 0)) ∨ (C < A ∧ e = .returned (.int .i64 1))) := by
  obtain ⟨a, ca, xs, rfl, h1, _, hr1, hb1, rfl, hl1⟩ := ga
  obtain ⟨b, cb, ys, rfl, h2, _, hr2, hb2, rfl, hl2⟩ := gb
  refine (cmp_any a b _ _ ca cb xs ys w rfl rfl (by omega) (by omega) h1 h2 hr1 hr2 hb1 hb2).mono ?_
  rintro e w' ⟨rfl, n, rfl⟩
  refine ⟨⟨rfl, rfl, rfl, Nat.le_refl _, fun _ _ => rfl⟩, ?_⟩
  unfold cmpI
  rcases Nat.lt_trichotomy (val xs) (val ys) with h | h | h
  · exact .inl ⟨h, by rw [if_pos h]⟩
  · exact .inr (.inl ⟨h, by rw [if_neg (by omega), if_pos h]⟩)
  · exact .inr (.inr ⟨h, by rw [if_neg (by omega), if_neg (by omega)]⟩)
set_option maxHeartbeats 800000 in
theorem p_odd {w : World} {v : Value} {n : Nat} (h : Raw w v n) :
    Calls Tryd.prog 36 #[v] w fun e w' => w' = w ∧ ((n % 2 = 1 ∧ e = .returned (.bool true)) ∨ (n % 2 ≠ 1 ∧ e = .returned (.bool false))) := by
  obtain ⟨a, c, zs, rfl, h1, h2, hr, hb, rfl, hl⟩ := h
  cases zs with
  | nil =>
    go_enter Tryd.func36, Tryd.ntmps36
    go_wp2
    go_ret
    exact ⟨rfl, .inr ⟨by simp [val], rfl⟩⟩
  | cons x t =>
    obtain ⟨b, off, rfl⟩ := hr.isAt (by simp)
    have hc := hr.cell (i := 0) (by simp)
    have hx : x < 18446744073709551616 := hb x List.mem_cons_self
    have hand := and_one x hx
    have hv : Hid (val (x :: t) % 2 = x % 2) := by show _ = _; rw [val_cons]; omega
    have hlen : (x :: t).length = t.length + 1 := by simp
    obtain ⟨n, hn⟩ : ∃ n, n = t.length + 1 := ⟨_, rfl⟩
    have h0n : (0 : Int) < (n : Int) := by omega
    have hq : decide ((0 : Int) < (n : Int)) = true := by simpa using h0n
    have hc : w.cell? ⟨b, off, none⟩ = some (.int .u64 (x : Nat)) := by simpa [at0] using hc
    rw [hlen, ← hn]
    clear hr hb hl h1 h2 hlen hn
    go_enter Tryd.func36, Tryd.ntmps36
    go_wp2
    go_ret
    by_cases ho : x % 2 = 1
    · have h1 : ((x : Int) % 2 == 1) = true := by simp; omega
      exact ⟨rfl, .inl ⟨hv.out.trans ho, by show Ending.returned (Value.bool ((x : Int) % 2 == 1)) = _; rw [h1]⟩⟩
    · have h1 : ((x : Int) % 2 == 1) = false := by simp; omega
      exact ⟨rfl, .inr ⟨by rw [hv.out]; exact ho, by show Ending.returned (Value.bool ((x : Int) % 2 == 1)) = _; rw [h1]⟩⟩
set_option maxHeartbeats 800000 in
theorem p_maymod {w : World} {v : Value} {n : Nat} (h : Raw w v n) :
    Calls Tryd.prog 20 #[v] w fun e w' => w' = w ∧ (((368 ≤ bitsN n ∧ bitsN n ≤ 4096 ∧ n % 2 = 1) ∧ e = .returned (.bool true)) ∨ (¬ (368 ≤ bitsN n ∧ bitsN n ≤ 4096 ∧ n % 2 = 1) ∧ e = .returned (.bool false))) := by
  have HR := Lib.hid h
  go_enter Tryd.func20, Tryd.ntmps20
  go_wp2_with fail
  refine (g_bits HR.out).mono ?_
  rintro e w' ⟨k, rfl, hk, -, rfl⟩
  have HK := Lib.hid hk.eq
  clear hk h
  by_cases h1 : 368 ≤ k
  · by_cases h2 : k ≤ 4096
    · have q1 : decide ((368 : Int) ≤ (k : Int)) = true := decide_eq_true (by omega)
      have q2 : decide ((k : Int) ≤ (4096 : Int)) = true := decide_eq_true (by omega)
      have HH := Lib.hid (And.intro h1 h2)
      clear h1 h2
      go_wp2_with fail
      refine (p_odd HR.out).mono ?_
      rintro e w' ⟨rfl, hor⟩
      rcases hor with ⟨ho, rfl⟩ | ⟨ho, rfl⟩
      · have HO := Lib.hid ho
        clear ho
        go_wp2
        go_ret
        exact ⟨rfl, .inl ⟨by rw [← HK.out]; exact ⟨HH.out.1, HH.out.2, HO.out⟩, rfl⟩⟩
      · have HO := Lib.hid ho
        clear ho
        go_wp2
        go_ret
        exact ⟨rfl, .inr ⟨fun h => HO.out h.2.2, rfl⟩⟩
    · have q1 : decide ((368 : Int) ≤ (k : Int)) = true := decide_eq_true (by omega)
      have q2 : decide ((k : Int) ≤ (4096 : Int)) = false := decide_eq_false (by omega)
      have HH := Lib.hid h2
      clear h1 h2
      go_wp2
      go_ret
      exact ⟨rfl, .inr ⟨fun h => HH.out (by rw [HK.out]; exact h.2.1), rfl⟩⟩
  · have q1 : decide ((368 : Int) ≤ (k : Int)) = false := decide_eq_false (by omega)
    have HH := Lib.hid h1
    clear h1
    go_wp2
    go_ret
    exact ⟨rfl, .inr ⟨fun h => HH.out (by rw [HK.out]; exact h.1), rfl⟩⟩
set_option maxHeartbeats 800000 in
theorem p_mayexp {w : World} {vE vN : Value} {E N : Nat} (gE : Raw w vE E) (gN : Raw w vN N) :
    Calls Tryd.prog 21 #[vE, vN] w fun e w' => Below w.heap.size w w' ∧ (((E % 2 = 1 ∧ 3 ≤ E ∧ E < N) ∧ e = .returned (.bool true)) ∨ (¬ (E % 2 = 1 ∧ 3 ≤ E ∧ E < N) ∧ e = .returned (.bool false))) := by
  have HE := Lib.hid gE
  have HN := Lib.hid gN
  have hal : Below w.heap.size w (w.alloc (.cells #[.int .u64 ((3 : Nat) : Int)] 49)) := (Below.refl _ _).alloc (Nat.le_refl _) _
  have HA := Lib.hid hal
  have H3 := Lib.hid (r_cmp (gE.below hal) (raw_lit w 3 (by decide)))
  obtain ⟨aE, lE, cE, rfl⟩ := gE.sl
  obtain ⟨aN, lN, cN, rfl⟩ := gN.sl
  clear gE gN hal
  go_enter Tryd.func21, Tryd.ntmps21
  go_wp2_with fail
  refine (p_odd HE.out).mono ?_
  rintro e w' ⟨rfl, hor⟩
  rcases hor with ⟨ho, rfl⟩ | ⟨ho, rfl⟩
  · have HO := Lib.hid ho
    clear ho
    go_wp2_with fail
    refine H3.out.mono ?_
    rintro e w1 ⟨hb, hor⟩
    have HB := Lib.hid (HA.out.trans (hb.mono HA.out.size))
    clear hb
    have key : (3 ≤ E ∧ ∃ k : Int, (k = 0 ∨ k = 1) ∧ e = .returned (.int .i64 k)) ∨ (E < 3 ∧ e = .returned (.int .i64 (-1))) := by
      rcases hor with ⟨h, rfl⟩ | ⟨h, rfl⟩ | ⟨h, rfl⟩
      · exact .inr ⟨h, rfl⟩
      · exact .inl ⟨by omega, 0, .inl rfl, rfl⟩
      · exact .inl ⟨by omega, 1, .inr rfl, rfl⟩
    clear hor
    rcases key with ⟨h3, k, hk, rfl⟩ | ⟨h3, rfl⟩
    · have HH := Lib.hid h3
      have q : decide ((0 : Int) ≤ k) = true := decide_eq_true (by omega)
      have q2 : decide (k ≥ (0 : Int)) = true := decide_eq_true (by omega)
      have q3 : (0 : Int) ≤ k := by omega
      clear h3 hk
      go_wp2_with fail
      refine (r_cmp (HE.out.below HB.out) (HN.out.below HB.out)).mono ?_
      rintro e w2 ⟨hb, hor⟩
      have HB := Lib.hid (HB.out.trans (hb.mono HB.out.size))
      clear hb
      have key : (E < N ∧ e = .returned (.int .i64 (-1))) ∨ (N ≤ E ∧ ∃ k : Int, (k = 0 ∨ k = 1) ∧ e = .returned (.int .i64 k)) := by
        rcases hor with ⟨h, rfl⟩ | ⟨h, rfl⟩ | ⟨h, rfl⟩
        · exact .inl ⟨h, rfl⟩
        · exact .inr ⟨by omega, 0, .inl rfl, rfl⟩
        · exact .inr ⟨by omega, 1, .inr rfl, rfl⟩
      clear hor
      rcases key with ⟨h3, rfl⟩ | ⟨h3, k2, hk, rfl⟩
      · have HL := Lib.hid h3
        clear h3
        go_wp2
        go_ret
        exact ⟨HB.out, .inl ⟨⟨HO.out, HH.out, HL.out⟩, rfl⟩⟩
      · have HL := Lib.hid h3
        have p1 : decide (k2 < (0 : Int)) = false := decide_eq_false (by omega)
        clear h3 hk
        go_wp2
        go_ret
        exact ⟨HB.out, .inr ⟨fun h => by have := HL.out; omega, rfl⟩⟩
    · have HH := Lib.hid h3
      clear h3
      go_wp2
      go_ret
      exact ⟨HB.out, .inr ⟨fun h => by have := HH.out; omega, rfl⟩⟩
  · have HO := Lib.hid ho
    clear ho
    go_wp2
    go_ret
    exact ⟨Below.refl _ _, .inr ⟨fun h => HO.out h.1, rfl⟩⟩
end Go.Proofs.YtclbjmanmkoikaaDoor
