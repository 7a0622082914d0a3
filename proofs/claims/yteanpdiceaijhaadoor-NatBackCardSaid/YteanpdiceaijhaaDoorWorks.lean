import Derived.Test.YteanpdiceaijhaaDoorTextA
namespace Go.Proofs.YteanpdiceaijhaaDoor
open Go.RowKit

theorem lit_rd {w : World} {cs : Array Value} {xs : List Nat} (e : TypeId) {g : Nat} (hg : g = w.heap.size) (h : cs.toList = u64s xs) : Rd .u64 (w.alloc (.cells cs e)) (some ⟨g, 0, none⟩) xs := by
  subst hg
  intro j hj
  refine ⟨w.heap.size, 0, rfl, fun i hi => ?_⟩
  have h1 := u64s_get xs i hi
  rw [← h] at h1
  rw [Nat.zero_add, World.cell?_alloc_mark]
  simp only [Array.getElem?_toList] at h1
  exact h1
theorem Rd.alloc {k : IntKind} {w : World} {a : Option Addr} {xs : List Nat} (h : Rd k w a xs) (o : Obj) : Rd k (w.alloc o) a xs := h.below ((Below.refl _ _).alloc (Nat.le_refl _) _)
theorem text_of_two {k : Nat} (h0 : 0 < k) (h1 : 18446744073709551616 < 10 ^ (19 * k)) (h2 : 10 ^ (19 * (k - 1)) ≤ 18446744073709551616) : Lib.trimLeftB ((digs (19 * k) 18446744073709551616).reverse.map UInt8.ofNat) 48 = [49, 56, 52, 52, 54, 55, 52, 52, 48, 55, 51, 55, 48, 57, 53, 53, 49, 54, 49, 54] := by
  obtain rfl : k = 2 := by
    rcases Nat.lt_or_ge k 3 with h | h
    · have : k ≠ 1 := fun h => by rw [h] at h1; exact absurd h1 (by decide)
      omega
    · have h3 : 10 ^ (19 * 2) ≤ 10 ^ (19 * (k - 1)) := Nat.pow_le_pow_right (by decide) (by omega)
      exact absurd (Nat.le_trans h3 h2) (by decide)
  decide +kernel
theorem Below.drewM {B : Nat} {a w : World} (h : Below B a w) (n : Nat) : Below B a (w.drewN n) := ⟨h.os, h.tape, h.output, h.size, h.block⟩
theorem Rd.drewM {k : IntKind} {w : World} {a : Option Addr} {xs : List Nat} (h : Rd k w a xs) (n : Nat) : Rd k (w.drewN n) a xs := h
theorem bd_of {xs : List Nat} (h : xs.all (· < 18446744073709551616) = true) : Bd xs := fun x hx => by simpa using List.all_eq_true.1 h x hx
theorem num_of {xs : List Nat} {n : Nat} (h : xs.all (· < 18446744073709551616) = true) (hc : xs.getLast? ≠ some 0) (hv : val xs = n) : Num xs n := ⟨bd_of h, fun hp => by
  intro h0
  apply hc
  rw [List.getLast?_eq_getElem?, List.getElem?_eq_getElem (by omega), ← at0_getElem (by omega), h0], hv⟩
set_option maxHeartbeats 1000000 in
set_option maxRecDepth 100000 in
theorem works_any (w : World) :
    Calls Tryd.prog 24 #[] w fun e w' => e = .returned (.bool true) ∧ Below w.heap.size w w' := by
  go_enter Tryd.func24, Tryd.ntmps24
  go_wp2_with fail
  refine (mul_small (some ⟨w.heap.size, 0, none⟩) (some ⟨w.heap.size + 1, 0, none⟩) 1 2 1 2 [18446744073709551615] [18446744073709551615, 0] _ rfl rfl (by decide) (by decide) (by decide) (by decide) ((lit_rd _ rfl rfl).alloc _) (lit_rd _ (by simp) rfl) (bd_of (by decide)) (bd_of (by decide)) (.inl (by decide))).mono ?_
  rintro e w1 ⟨hbl, hor⟩
  rcases hor with ⟨hn, _⟩ | ⟨_, _, p, ps, rfl, hown, hnum⟩
  · exact absurd ⟨by decide, by decide⟩ hn
  · obtain rfl : ps = [1, 18446744073709551614] := Num.unique hnum (num_of (by decide) (by decide) (by decide))
    have hb1 : Below w.heap.size w w1 := (((Below.refl _ _).alloc (Nat.le_refl _) _).alloc (by simp) _).trans (hbl.mono (by simp; omega))
    obtain ⟨ap, cp, rfl, hrp⟩ := own64.form hown
    have HRP := Lib.hid hrp
    have HB1 := Lib.hid hb1
    clear hown hrp hnum hbl hb1
    go_wp2_with fail
    refine (quo_one (some ⟨w1.heap.size, 0, none⟩) (some ⟨w1.heap.size + 1, 0, none⟩) 2 1 2 1 [5, 1] [9223372036854775808] _ rfl rfl (by decide) (by decide) (by decide) (by decide) (fun h => by cases h) ((lit_rd _ rfl rfl).alloc _) (lit_rd _ (by simp) rfl) (bd_of (by decide)) (bd_of (by decide)) (by decide)).mono ?_
    rintro e w2 ⟨hbl, hor⟩
    rcases hor with ⟨h, _⟩ | ⟨_, _, h, _⟩ | ⟨_, _, _, q, r, qs, rs, rfl, hoq, hor, hnq, hnr, _⟩
    · exact absurd h (by decide)
    · exact absurd h (by decide)
    obtain rfl : qs = [2] := Num.unique hnq (num_of (by decide) (by decide) (by decide))
    obtain rfl : rs = [5] := Num.unique hnr (num_of (by decide) (by decide) (by decide))
    have hb12 : Below w1.heap.size w1 w2 := (((Below.refl _ _).alloc (Nat.le_refl _) _).alloc (by simp) _).trans (hbl.mono (by simp; omega))
    have HRP := Lib.hid (HRP.out.below hb12)
    have HB2 := Lib.hid (HB1.out.trans (hb12.mono HB1.out.size))
    obtain ⟨aq, cq, rfl, hrq⟩ := own64.form hoq
    obtain ⟨ar, cr, rfl, hrr⟩ := own64.form hor
    have HRQ := Lib.hid hrq
    have HRR := Lib.hid hrr
    clear hoq hor hrq hrr hnq hnr hbl hb12 HB1
    go_wp2_with fail
    refine (text_any (some ⟨w2.heap.size, 0, none⟩) 2 2 [0, 1] _ rfl (by decide) (by decide) (fun h => by cases h) (lit_rd _ rfl rfl) (bd_of (by decide))).mono ?_
    rintro e w3 ⟨hbl, hor⟩
    rcases hor with ⟨h, _⟩ | ⟨h, _⟩ | ⟨_, k, h0, h1, h2, rfl⟩
    · exact absurd h (by decide)
    · exact absurd h (by decide)
    rw [show val [0, 1] = 18446744073709551616 from rfl] at h1 h2 ⊢
    rw [text_of_two h0 h1 h2]
    have hb12 : Below w2.heap.size w2 w3 := ((Below.refl _ _).alloc (Nat.le_refl _) _).trans (hbl.mono (by simp))
    have HRP := Lib.hid (HRP.out.below hb12)
    have HRQ := Lib.hid (HRQ.out.below hb12)
    have HRR := Lib.hid (HRR.out.below hb12)
    have HB3 := Lib.hid (HB2.out.trans (hb12.mono HB2.out.size))
    clear h0 h1 h2 hbl hb12 HB2
    go_wp2_with fail
    refine (sub_below (some ⟨w3.heap.size, 0, none⟩) (some ⟨w3.heap.size + 1, 0, none⟩) 1 1 1 1 [1] [2] _ rfl rfl (by decide) (by decide) (by decide) (by decide) ((lit_rd _ rfl rfl).alloc _) (lit_rd _ (by simp) rfl) (bd_of (by decide)) (bd_of (by decide)) (by decide)).mono ?_
    rintro e w4 ⟨hbl, hor⟩
    rcases hor with ⟨h, _⟩ | ⟨_, _, _, rfl⟩ | ⟨_, _, h, _⟩
    · exact absurd h (by decide)
    rotate_left
    · exact absurd h (by decide)
    have hb12 : Below w3.heap.size w3 w4 := (((Below.refl _ _).alloc (Nat.le_refl _) _).alloc (by simp) _).trans (hbl.mono (by simp; omega))
    have HRP := Lib.hid (HRP.out.below hb12)
    have HRQ := Lib.hid (HRQ.out.below hb12)
    have HRR := Lib.hid (HRR.out.below hb12)
    have HB4 := Lib.hid (HB3.out.trans (hb12.mono HB3.out.size))
    clear hbl hb12 HB3
    go_wp2_with fail
    refine (words_same ap (some ⟨w4.heap.size, 0, none⟩) 2 cp 2 [1, 18446744073709551614] _ rfl (by decide) (HRP.out.alloc _) (lit_rd _ rfl rfl)).mono ?_
    rintro e w5 ⟨rfl, nd, hw5⟩
    have hb12 : Below w4.heap.size w4 w5 := by rw [hw5]; exact Below.drewM ((Below.refl _ _).alloc (Nat.le_refl _) _) nd
    have HRQ := Lib.hid (HRQ.out.below hb12)
    have HRR := Lib.hid (HRR.out.below hb12)
    have HB5 := Lib.hid (HB4.out.trans (hb12.mono HB4.out.size))
    clear hb12 HB4 hw5 HRP
    go_wp2_with fail
    refine (words_same aq (some ⟨w5.heap.size, 0, none⟩) 1 cq 1 [2] _ rfl (by decide) (HRQ.out.alloc _) (lit_rd _ rfl rfl)).mono ?_
    rintro e w6 ⟨rfl, nd, hw6⟩
    have hb12 : Below w5.heap.size w5 w6 := by rw [hw6]; exact Below.drewM ((Below.refl _ _).alloc (Nat.le_refl _) _) nd
    have HRR := Lib.hid (HRR.out.below hb12)
    have HB6 := Lib.hid (HB5.out.trans (hb12.mono HB5.out.size))
    clear hb12 HB5 hw6 HRQ
    go_wp2_with fail
    refine (words_same ar (some ⟨w6.heap.size, 0, none⟩) 1 cr 1 [5] _ rfl (by decide) (HRR.out.alloc _) (lit_rd _ rfl rfl)).mono ?_
    rintro e w7 ⟨rfl, nd, hw7⟩
    have hb12 : Below w6.heap.size w6 w7 := by rw [hw7]; exact Below.drewM ((Below.refl _ _).alloc (Nat.le_refl _) _) nd
    have HB7 := Lib.hid (HB6.out.trans (hb12.mono HB6.out.size))
    clear hb12 HB6 hw7 HRR
    go_wp2
    go_ret
    exact ⟨rfl, HB7.out⟩
end Go.Proofs.YteanpdiceaijhaaDoor
