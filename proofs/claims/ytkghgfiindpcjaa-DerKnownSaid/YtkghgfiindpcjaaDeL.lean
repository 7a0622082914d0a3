import Derived.Test.YtkghgfiindpcjaaDeK
namespace Go.Proofs.Ytkghgfiindpcjaa
open Go.RowKit

/-! The program's writing of lengths, items, contents. -/
theorem own8_open {w : World} {B : Nat} {v : Value} {zs : List Nat} (h : own8 w B v zs) : ∃ a c, v = .slice a zs.length c ∧ zs.length ≤ c ∧ Rd .u8 w a zs ∧ (a = none → c = 0) ∧ c ≤ 9223372036854775807 := by
  rcases h.2 with ⟨hv, h0⟩ | ⟨g, c, cur, hv, _, _, hn, hm, _, _⟩
  · subst hv
    refine ⟨none, 0, by rw [h0], by omega, fun j hj => by omega, fun _ => rfl, by decide⟩
  · subst hv
    exact ⟨_, c, rfl, hn, own8_rd2 h, (fun h => by cases h), hm⟩
theorem own8.under {w w' : World} {B : Nat} {v : Value} {zs : List Nat} (h : own8 w B v zs) (hb : Below w.heap.size w w') : own8 w' B v zs :=
  (Chg.of_below hb).owns h (fun k hk => by have := World.ownsRow.lt h k hk; omega)
theorem own8_lit (w : World) (x : Nat) : own8 (w.alloc (.cells #[.int .u8 (x : Nat)] 5)) w.heap.size (.slice (some ⟨w.heap.size, 0, none⟩) 1 1) [x] :=
  ⟨rfl, .inr ⟨w.heap.size, 1, _, rfl, Nat.le_refl _, heap_new w _, Nat.le_refl _, by decide, rfl, rfl⟩⟩
theorem rd_lit (w : World) (x : Nat) : Rd .u8 (w.alloc (.cells #[.int .u8 (x : Nat)] 5)) (some ⟨w.heap.size, 0, none⟩) [x] := own8_rd2 (own8_lit w x)
/-- Two parts, three parts in a new block. -/
theorem parts2 {w : World} {T : TypeId} {p q : Pt} (hp : Rd .u8 w p.1 p.2.2 ∧ (p.1 = none → p.2.1 = 0)) (hq : Rd .u8 w q.1 q.2.2 ∧ (q.1 = none → q.2.1 = 0)) :
    PartsAt (w.alloc (.cells #[.slice p.1 p.2.2.length p.2.1, .slice q.1 q.2.2.length q.2.1] T)) w.heap.size [p, q] := by
  refine ⟨fun i r hr => ?_, fun r hr => ?_⟩
  · rw [cell_alloc (heap_new w _)]
    rcases i with _ | _ | i
    · obtain rfl : p = r := by simpa using hr
      rfl
    · obtain rfl : q = r := by simpa using hr
      rfl
    · simp at hr
  · rcases List.mem_cons.1 hr with rfl | hr
    · exact ⟨rd_alloc hp.1 _, hp.2⟩
    · obtain rfl : r = q := by simpa using hr
      exact ⟨rd_alloc hq.1 _, hq.2⟩
theorem parts3 {w : World} {T : TypeId} {p q s : Pt} (hp : Rd .u8 w p.1 p.2.2 ∧ (p.1 = none → p.2.1 = 0)) (hq : Rd .u8 w q.1 q.2.2 ∧ (q.1 = none → q.2.1 = 0)) (hs : Rd .u8 w s.1 s.2.2 ∧ (s.1 = none → s.2.1 = 0)) :
    PartsAt (w.alloc (.cells #[.slice p.1 p.2.2.length p.2.1, .slice q.1 q.2.2.length q.2.1, .slice s.1 s.2.2.length s.2.1] T)) w.heap.size [p, q, s] := by
  refine ⟨fun i r hr => ?_, fun r hr => ?_⟩
  · rw [cell_alloc (heap_new w _)]
    rcases i with _ | _ | _ | i
    · obtain rfl : p = r := by simpa using hr
      rfl
    · obtain rfl : q = r := by simpa using hr
      rfl
    · obtain rfl : s = r := by simpa using hr
      rfl
    · simp at hr
  · rcases List.mem_cons.1 hr with rfl | hr
    · exact ⟨rd_alloc hp.1 _, hp.2⟩
    · rcases List.mem_cons.1 hr with rfl | hr
      · exact ⟨rd_alloc hq.1 _, hq.2⟩
      · obtain rfl : r = s := by simpa using hr
        exact ⟨rd_alloc hs.1 _, hs.2⟩
/-- A new list of bytes. -/
def New8 (Q : List Nat → Prop) (w : World) (e : Ending) (w' : World) : Prop := Below w.heap.size w w' ∧ ∃ v l, e = .returned v ∧ own8 w' w.heap.size v l ∧ Q l
theorem fl_one {n : Nat} (h : n ≠ 0) : fl [n] ≤ 1 := by
  have := (fl_spec [n]).1
  simpa using this

set_option maxHeartbeats 800000 in
set_option maxRecDepth 100000 in
theorem lengthOf_any (n : Nat) (w : World) (hn : n < 4294967296) :
    Calls Try.prog 73 #[.int .i64 (n : Nat)] w (New8 (LenB n) w) := by
  unfold New8
  by_cases h0 : n < 128
  · have hq : decide ((n : Int) < 128) = true := decide_eq_true (by omega)
    go_enter Try.func73, Try.ntmps73
    go_wp2
    go_ret
    exact ⟨(Below.refl _ _).alloc (Nat.le_refl _) _, _, _, rfl, own8_lit w n, .inl ⟨h0, rfl⟩⟩
  · have hq : decide ((n : Int) < 128) = false := decide_eq_false (by omega)
    go_enter Try.func73, Try.ntmps73
    go_wp2_with fail
    have hrd : Rd .u64 (w.alloc (.cells #[.int .u64 (n : Nat)] 56)) (some ⟨w.heap.size, 0, none⟩) [n] := fun j hj => ⟨w.heap.size, 0, rfl, fun i hi => by
      rw [Nat.zero_add, cell_alloc (heap_new w _)]
      have : i = 0 := by simpa using hi
      subst this
      rfl⟩
    refine (bytes_any _ 1 1 [n] _ rfl (by decide) (by decide) hrd (fun x hx => by simp at hx; omega)).mono ?_
    rintro e w2 ⟨hb2, a, c, k, zs, rfl, ho, hz, hQ⟩
    have hT : k = 0 ∧ BNum zs n := by
      rcases hQ with ⟨h1, _, _⟩ | ⟨_, h2, h3⟩
      · have := fl_one (show n ≠ 0 by omega); omega
      · rw [val_one] at h3; exact ⟨h2, h3⟩
    obtain ⟨rfl, hN⟩ := hT
    have hm4 : zs.length ≤ 4 := bnum_len hN (by simpa using hn)
    obtain ⟨a', c', e', hc', hr', hn', -⟩ := own8_open ho
    simp only [Value.slice.injEq, true_and] at e'
    obtain ⟨rfl, rfl⟩ := e'
    have HN := Lib.hid hN
    have HR := Lib.hid hr'
    have HNO := Lib.hid hn'
    have HB := Lib.hid (((Below.refl w.heap.size w).alloc (Nat.le_refl _) (.cells #[.int .u64 (n : Nat)] 56)).trans (hb2.mono (by simp)))
    obtain ⟨m, hm⟩ : ∃ m, m = zs.length := ⟨_, rfl⟩
    have HM := Lib.hid hm
    rw [← hm] at hm4 ⊢
    clear hQ hN ho hz hc' hr' hn' hb2 hrd hm
    go_wp2_with fail
    have hm := HM.out
    subst hm
    have hP := parts2 (w := w2.alloc (.cells #[.int .u8 ((128 + zs.length : Nat) : Nat)] 5)) (T := 22) (p := (some ⟨w2.heap.size, 0, none⟩, 1, [128 + zs.length])) (q := (a, c, zs)) ⟨rd_lit w2 (128 + zs.length), fun h => by cases h⟩ ⟨rd_alloc HR.out _, HNO.out⟩
    rw [show (w2.alloc (.cells #[.int .u8 ((128 + zs.length : Nat) : Nat)] 5)).heap.size = w2.heap.size + 1 by simp] at hP
    rw [show (128 : Int) + (zs.length : Int) = ((128 + zs.length : Nat) : Int) by omega]
    refine (concat_any (w2.heap.size + 1) _ 2 _ rfl (by decide) hP (by simp [flatL]; omega)).mono ?_
    rintro e w3 ⟨v, rfl, ho, hb3⟩
    have HO := Lib.hid ho
    have HB3 := Lib.hid (((HB.out.alloc HB.out.size _).alloc (by have := HB.out.size; simp; omega) _).trans (hb3.mono (by have := HB.out.size; simp; omega)))
    clear ho hb3 hP
    go_wp2
    go_ret
    refine ⟨HB3.out, _, _, rfl, owns_base HO.out (by have := HB.out.size; simp; omega), .inr ⟨by omega, zs, HN.out, hm4, by simp [flatL]⟩⟩
/-- An item. -/
def NewI (t : Nat) (c : List Nat) (b : List Nat) : Prop := ItemB t c b
set_option maxHeartbeats 800000 in
set_option maxRecDepth 100000 in
theorem laid_any (t : Nat) (a : Option Addr) (len cap : Nat) (c : List Nat) (w : World) (hl : c.length = len) (hbig : len ≤ 16777216) (hna : a = none → cap = 0) (hr : Rd .u8 w a c) :
    Calls Try.prog 52 #[.int .u8 (t : Nat), .slice a len cap] w (New8 (ItemB t c) w) := by
  have HL := Lib.hid hl
  have HR := Lib.hid hr
  have HNA := Lib.hid hna
  unfold New8
  clear hl hr hna
  go_enter Try.func52, Try.ntmps52
  go_wp2_with fail
  refine (lengthOf_any len _ (by omega)).mono ?_
  rintro e w1 ⟨hb, v, l, rfl, ho, hq⟩
  obtain ⟨a1, c1, rfl, hc1, hr1, hn1, -⟩ := own8_open ho
  have h0 : Rd .u8 w1 (some ⟨w.heap.size, 0, none⟩) [t] := (rd_lit w t).below hb
  have HR1 := Lib.hid hr1
  have HQ := Lib.hid hq
  have hB := ((Below.refl w.heap.size w).alloc (Nat.le_refl _) (.cells #[.int .u8 (t : Nat)] 5)).trans (hb.mono (by simp))
  have HB := Lib.hid hB
  have hl := HL.out
  subst hl
  have hP := parts3 (w := w1) (T := 22) (p := (some ⟨w.heap.size, 0, none⟩, 1, [t])) (q := (a1, c1, l)) (s := (a, cap, c)) ⟨h0, fun h => by cases h⟩ ⟨hr1, hn1⟩ ⟨HR.out.below hB, HNA.out⟩
  have HP := Lib.hid hP
  clear hb ho hq hr1 h0 hP hB hc1 hn1
  go_wp2_with fail
  have hl5 := HQ.out.len
  refine (concat_any w1.heap.size _ 3 _ rfl (by decide) HP.out (by simp [flatL]; omega)).mono ?_
  rintro e w3 ⟨v, rfl, ho, hb3⟩
  have HO := Lib.hid ho
  have HB3 := Lib.hid ((HB.out.alloc HB.out.size _).trans (hb3.mono (by have := HB.out.size; simp; omega)))
  clear ho hb3
  go_wp2
  go_ret
  exact ⟨HB3.out, _, _, rfl, owns_base HO.out (by have := HB.out.size; simp; omega), l, HQ.out, by simp [flatL]⟩
end Go.Proofs.Ytkghgfiindpcjaa
