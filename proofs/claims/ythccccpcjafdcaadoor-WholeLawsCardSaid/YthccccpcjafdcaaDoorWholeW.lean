import Derived.Test.YthccccpcjafdcaaDoorWholeL
namespace Go.Proofs.YthccccpcjafdcaaDoor
open Go.RowKit

/-- A whole number's block, kept. -/
structure Keep (B g : Nat) (n : Bool) (a : Option Addr) (zs : List Nat) (c : Nat) (W : World) : Prop where
  blk : W.heap[g]? = some (WO n a zs.length c)
  own : own64 W B (.slice a zs.length c) zs
theorem Keep.below {B g : Nat} {n : Bool} {a : Option Addr} {zs : List Nat} {c : Nat} {W W' : World} (h : Keep B g n a zs c W) (hb : Below W.heap.size W W') : Keep B g n a zs c W' :=
  ⟨by rw [hb.block g (lt_of_block h.blk)]; exact h.blk, own64.under h.own hb⟩
theorem Keep.cells {B g : Nat} {n : Bool} {a : Option Addr} {zs : List Nat} {c : Nat} {W : World} (h : Keep B g n a zs c W) : W.cell? ⟨g, 0, none⟩ = some (.bool n) ∧ W.cell? ⟨g, 1, none⟩ = some (.slice a zs.length c) := by
  have h2 := h.blk
  unfold WO at h2
  refine ⟨?_, ?_⟩ <;> simp [World.cell?, h2]
theorem Keep.new {B : Nat} {n : Bool} {a : Option Addr} {zs : List Nat} {c : Nat} {W : World} (h : own64 W B (.slice a zs.length c) zs) : Keep B W.heap.size n a zs c (W.alloc (.cells #[.bool n, .slice a zs.length c] 44)) :=
  ⟨heap_new _ _, own64.under h ((Below.refl _ _).alloc (Nat.le_refl _) _)⟩
theorem wquo_small (n m : Bool) (a b : Option Addr) (ca lb cb x : Nat) (ys : List Nat) (w : World) (hca : 1 ≤ ca) (hlb : ys.length = lb) (hl : lb ≤ 1) (hcb : lb ≤ cb) (hra : Rd .u64 w a [x]) (hrb : Rd .u64 w b ys) (hx : x < 18446744073709551616) (bY : Bd ys) (hy : val ys < LIM) (ht : Tabs w) (ha : a = none → ca = 0) :
    Calls Tryd.prog 30 #[.agg #[.bool n, .slice a 1 ca], .agg #[.bool m, .slice b lb cb]] w (WTold (fun k p zs => (val ys = 0 ∧ k = 11 ∧ p = false ∧ zs = []) ∨ (0 < val ys ∧ k = 0 ∧ p = decide (Int.tdiv (wv n [x]) (wv m ys) < 0) ∧ Num zs (x / val ys))) w) := by
  have bx : Bd [x] := Bd.nil.cons hx
  have hfl : fl ys ≤ 1 := Nat.le_trans (fl_spec ys).1 (by omega)
  refine (wquo_of n m a b 1 ca lb cb [x] ys w rfl hlb (Nat.le_of_lt (by omega)) (by omega) hca hcb hra hrb bx bY ht (fun W hb => quo_one a b 1 lb ca cb [x] ys W rfl hlb (Nat.le_of_lt (by omega)) (by omega) hca hcb ha (hra.below hb) (hrb.below hb) bx bY hfl)).mono ?_
  rintro e w' ⟨hb, p, a', c', k, zs, rfl, ho, hQ⟩
  refine ⟨hb, p, a', c', k, zs, rfl, ho, ?_⟩
  rcases hQ with ⟨h, _⟩ | ⟨_, h1, rfl, rfl, rfl⟩ | ⟨_, h1, rfl, rfl, hN⟩
  · exact absurd ⟨by rw [val_one]; exact lim_one hx, hy⟩ h
  · exact .inl ⟨h1, rfl, rfl, rfl⟩
  · rw [tdiv_abs, val_one] at hN
    exact .inr ⟨h1, rfl, rfl, hN⟩
theorem wrem_small (n m : Bool) (a b : Option Addr) (ca cb x y : Nat) (w : World) (hca : 1 ≤ ca) (hcb : 1 ≤ cb) (hra : Rd .u64 w a [x]) (hrb : Rd .u64 w b [y]) (hx : x < 18446744073709551616) (hy : y < 18446744073709551616) (h0 : 0 < y) (ha : a = none → ca = 0) :
    Calls Tryd.prog 31 #[.agg #[.bool n, .slice a 1 ca], .agg #[.bool m, .slice b 1 cb]] w (WTold (fun k p zs => k = 0 ∧ p = decide (Int.tmod (wv n [x]) (wv m [y]) < 0) ∧ Num zs (x % y)) w) := by
  have bx : Bd [x] := Bd.nil.cons hx
  have bY : Bd [y] := Bd.nil.cons hy
  refine (wrem_of n m a b 1 ca 1 cb [x] [y] w rfl rfl (Nat.le_of_lt (by omega)) (Nat.le_of_lt (by omega)) hca hcb hra hrb bx bY (fun W hb => quo_one a b 1 1 ca cb [x] [y] W rfl rfl (Nat.le_of_lt (by omega)) (Nat.le_of_lt (by omega)) hca hcb ha (hra.below hb) (hrb.below hb) bx bY (fl_one y))).mono ?_
  rintro e w' ⟨hb, p, a', c', k, zs, rfl, ho, hQ⟩
  refine ⟨hb, p, a', c', k, zs, rfl, ho, ?_⟩
  rcases hQ with ⟨h, _⟩ | ⟨_, h1, _⟩ | ⟨_, h1, rfl, rfl, hN⟩
  · exact absurd ⟨by rw [val_one]; exact lim_one hx, by rw [val_one]; exact lim_one hy⟩ h
  · rw [val_one] at h1; omega
  · rw [tmod_abs, val_one, val_one] at hN
    exact ⟨rfl, rfl, hN⟩
theorem own64.none {w : World} {B : Nat} {a : Option Addr} {n c : Nat} {zs : List Nat} (h : own64 w B (.slice a n c) zs) : a = none → c = 0 := (own64.room h).2
theorem dec_eight {l : List UInt8} (h : IsDec l 8) : l = [56] := h.unique ⟨by decide, by decide, by simp, fun h => absurd h (by decide)⟩

set_option maxHeartbeats 2000000 in
set_option maxRecDepth 100000 in
theorem wworks_any (w : World) (ht : Tabs w) :
    Calls Tryd.prog 29 #[] w fun e w' => e = .returned (.bool true) ∧ Below w.heap.size w w' := by
  have HT := Lib.hid (fun (W : World) (h : Below w.heap.size w W) => ht.below h)
  clear ht
  go_enter Tryd.func29, Tryd.ntmps29
  go_wp2_with fail
  refine (int_any (-7) _ (by decide) (by decide)).mono ?_
  rintro e w1 ⟨hb1, aa, ca, zs, rfl, hoa, hN⟩
  obtain rfl : zs = [7] := Num.unique hN (num_of (by decide) (by decide) (by decide))
  rw [show decide ((-7 : Int) < 0) = true from rfl]
  have HB1 := Lib.hid hb1
  have HOA := Lib.hid hoa
  clear hoa hN hb1
  go_wp2_with fail
  refine (int_any 2 _ (by decide) (by decide)).mono ?_
  rintro e w2 ⟨hb2, ab, cb, zs, rfl, hob, hN⟩
  obtain rfl : zs = [2] := Num.unique hN (num_of (by decide) (by decide) (by decide))
  rw [show decide ((2 : Int) < 0) = false from rfl]
  have hb12 := HB1.out.trans (hb2.mono HB1.out.size)
  have KA := Lib.hid ((Keep.new (n := true) (own64.under HOA.out hb2)).below ((Below.refl _ _).alloc (Nat.le_refl _) (.cells #[.bool false, .slice ab 1 cb] 44)))
  have hkb := Keep.new (n := false) (own64.under (owns_base hob HB1.out.size) ((Below.refl _ _).alloc (Nat.le_refl _) (.cells #[.bool true, .slice aa 1 ca] 44)))
  rw [show (w2.alloc (.cells #[.bool true, .slice aa 1 ca] 44)).heap.size = w2.heap.size + 1 by simp] at hkb
  have KB := Lib.hid hkb
  have HB := Lib.hid ((hb12.alloc hb12.size (.cells #[.bool true, .slice aa 1 ca] 44)).alloc (by have := hb12.size; simp <;> omega) (.cells #[.bool false, .slice ab 1 cb] 44))
  clear hob hN hb2 HB1 HOA hkb hb12
  have g0 := KA.out.cells
  obtain ⟨x0, y0⟩ := g0
  have g1 := KB.out.cells
  obtain ⟨x1, y1⟩ := g1
  go_wp2_with fail
  refine (wquo_small true false aa ab ca 1 cb 7 [2] _ (own64.room KA.out.own).1 rfl (by decide) (own64.room KB.out.own).1 (own64.rd KA.out.own).2 (own64.rd KB.out.own).2 (by decide) (bd_of (by decide)) (by rw [val_one]; exact lim_one (by decide)) (HT.out _ HB.out) (own64.none KA.out.own)).mono ?_
  rintro e w3 ⟨hb, p', aq, cq, k', zs, rfl, ho, hQ⟩
  obtain ⟨rfl, rfl, rfl⟩ : k' = 0 ∧ p' = true ∧ zs = [3] := by
    rcases hQ with ⟨h, _⟩ | ⟨_, h1, h2, h3⟩
    · exact absurd h (by decide)
    · exact ⟨h1, by rw [h2]; decide, h3.unique (num_one (by decide) (by decide))⟩
  clear x0 y0 x1 y1
  have KA := Lib.hid (KA.out.below hb)
  have KB := Lib.hid (KB.out.below hb)
  have ho := owns_base ho HB.out.size
  have HB := Lib.hid (HB.out.trans (hb.mono HB.out.size))
  clear hQ hb
  have KQ := Lib.hid (Keep.new (n := true) ho)
  have hal : Below w3.heap.size w3 (w3.alloc (.cells #[.bool true, .slice aq 1 cq] 44)) := (Below.refl _ _).alloc (Nat.le_refl _) _
  have KA := Lib.hid (KA.out.below hal)
  have KB := Lib.hid (KB.out.below hal)
  have HB := Lib.hid (HB.out.alloc HB.out.size (.cells #[.bool true, .slice aq 1 cq] 44))
  clear hal
  clear ho
  have g0 := KA.out.cells
  obtain ⟨x0, y0⟩ := g0
  have g1 := KB.out.cells
  obtain ⟨x1, y1⟩ := g1
  have g2 := KQ.out.cells
  obtain ⟨x2, y2⟩ := g2
  go_wp2_with fail
  refine (wrem_small true false aa ab ca cb 7 2 _ (own64.room KA.out.own).1 (own64.room KB.out.own).1 (own64.rd KA.out.own).2 (own64.rd KB.out.own).2 (by decide) (by decide) (by decide) (own64.none KA.out.own)).mono ?_
  rintro e w4 ⟨hb, p', ar, cr, k', zs, rfl, ho, hQ⟩
  obtain ⟨rfl, rfl, rfl⟩ : k' = 0 ∧ p' = true ∧ zs = [1] := by
    obtain ⟨h1, h2, h3⟩ := hQ
    exact ⟨h1, by rw [h2]; decide, h3.unique (num_one (by decide) (by decide))⟩
  clear x0 y0 x1 y1 x2 y2
  have KA := Lib.hid (KA.out.below hb)
  have KB := Lib.hid (KB.out.below hb)
  have KQ := Lib.hid (KQ.out.below hb)
  have ho := owns_base ho HB.out.size
  have HB := Lib.hid (HB.out.trans (hb.mono HB.out.size))
  clear hQ hb
  have KR := Lib.hid (Keep.new (n := true) ho)
  have hal : Below w4.heap.size w4 (w4.alloc (.cells #[.bool true, .slice ar 1 cr] 44)) := (Below.refl _ _).alloc (Nat.le_refl _) _
  have KA := Lib.hid (KA.out.below hal)
  have KB := Lib.hid (KB.out.below hal)
  have KQ := Lib.hid (KQ.out.below hal)
  have HB := Lib.hid (HB.out.alloc HB.out.size (.cells #[.bool true, .slice ar 1 cr] 44))
  clear hal
  clear ho
  go_wp2_with fail
  refine (int_any (-2) _ (by decide) (by decide)).mono ?_
  rintro e w5 ⟨hb, aU, cU, zs, rfl, ho, hN⟩
  obtain rfl : zs = [2] := Num.unique hN (num_one (by decide) (by decide))
  rw [show decide ((-2 : Int) < 0) = true from rfl]
  have KA := Lib.hid (KA.out.below hb)
  have KB := Lib.hid (KB.out.below hb)
  have KQ := Lib.hid (KQ.out.below hb)
  have KR := Lib.hid (KR.out.below hb)
  have HOU := Lib.hid (owns_base ho HB.out.size)
  have HB := Lib.hid (HB.out.trans (hb.mono HB.out.size))
  clear hN hb ho
  go_wp2_with fail
  refine (int_any (3) _ (by decide) (by decide)).mono ?_
  rintro e w6 ⟨hb, aV, cV, zs, rfl, ho, hN⟩
  obtain rfl : zs = [3] := Num.unique hN (num_one (by decide) (by decide))
  rw [show decide ((3 : Int) < 0) = false from rfl]
  have KA := Lib.hid (KA.out.below hb)
  have KB := Lib.hid (KB.out.below hb)
  have KQ := Lib.hid (KQ.out.below hb)
  have KR := Lib.hid (KR.out.below hb)
  have HOU := Lib.hid (own64.under HOU.out hb)
  have HOV := Lib.hid (owns_base ho HB.out.size)
  have HB := Lib.hid (HB.out.trans (hb.mono HB.out.size))
  clear hN hb ho
  go_wp2_with fail
  refine (pow_works aU aV cU cV _ (own64.room HOU.out).1 (own64.room HOV.out).1 (own64.rd HOU.out).2 (own64.rd HOV.out).2 (HT.out _ HB.out)).mono ?_
  rintro e w7 ⟨hb, p', ap, cp, k', zs, rfl, ho, rfl, rfl, rfl⟩
  have KA := Lib.hid (KA.out.below hb)
  have KB := Lib.hid (KB.out.below hb)
  have KQ := Lib.hid (KQ.out.below hb)
  have KR := Lib.hid (KR.out.below hb)
  have ho := owns_base ho HB.out.size
  have HB := Lib.hid (HB.out.trans (hb.mono HB.out.size))
  clear hb
  have KP := Lib.hid (Keep.new (n := true) ho)
  have hal : Below w7.heap.size w7 (w7.alloc (.cells #[.bool true, .slice ap 1 cp] 44)) := (Below.refl _ _).alloc (Nat.le_refl _) _
  have KA := Lib.hid (KA.out.below hal)
  have KB := Lib.hid (KB.out.below hal)
  have KQ := Lib.hid (KQ.out.below hal)
  have KR := Lib.hid (KR.out.below hal)
  have HB := Lib.hid (HB.out.alloc HB.out.size (.cells #[.bool true, .slice ap 1 cp] 44))
  clear hal
  clear ho HOU HOV
  have g0 := KA.out.cells
  obtain ⟨x0, y0⟩ := g0
  have g1 := KB.out.cells
  obtain ⟨x1, y1⟩ := g1
  have g2 := KQ.out.cells
  obtain ⟨x2, y2⟩ := g2
  have g3 := KR.out.cells
  obtain ⟨x3, y3⟩ := g3
  have g4 := KP.out.cells
  obtain ⟨x4, y4⟩ := g4
  go_wp2_with fail
  refine (wtext_any true ap 1 cp [8] _ rfl (by decide) (own64.room KP.out.own).1 (own64.none KP.out.own) (own64.rd KP.out.own).2 (bd_of (by decide))).mono ?_
  rintro e w8 ⟨hb, hQ⟩
  obtain rfl : e = .returned (.tuple #[.string ⟨#[45, 56]⟩, .int .i64 0]) := by
    rcases hQ with ⟨h, _⟩ | ⟨_, l, hd, rfl⟩
    · exact absurd h (Nat.not_le.2 (by rw [val_one]; exact lim_one (by decide)))
    · rw [val_one] at hd
      rw [dec_eight hd]; rfl
  clear x0 y0 x1 y1 x2 y2 x3 y3 x4 y4
  have KA := Lib.hid (KA.out.below hb)
  have KB := Lib.hid (KB.out.below hb)
  have KQ := Lib.hid (KQ.out.below hb)
  have KR := Lib.hid (KR.out.below hb)
  have KP := Lib.hid (KP.out.below hb)
  have HB := Lib.hid (HB.out.trans (hb.mono HB.out.size))
  clear hQ hb
  have g0 := KA.out.cells
  obtain ⟨x0, y0⟩ := g0
  have g1 := KB.out.cells
  obtain ⟨x1, y1⟩ := g1
  have g2 := KQ.out.cells
  obtain ⟨x2, y2⟩ := g2
  have g3 := KR.out.cells
  obtain ⟨x3, y3⟩ := g3
  have g4 := KP.out.cells
  obtain ⟨x4, y4⟩ := g4
  go_wp2_with fail
  refine (wquo_small true false aa none ca 0 0 7 [] _ (own64.room KA.out.own).1 rfl (by decide) (by decide) (own64.rd KA.out.own).2 (Rd.nil _ _ _) (by decide) Bd.nil (Nat.lt_of_lt_of_le (by decide) (Nat.succ_le_of_lt (lim_one (x := 0) (by decide)))) (HT.out _ HB.out) (own64.none KA.out.own)).mono ?_
  rintro e w9 ⟨hb, p', az, cz, k', zs, rfl, ho, hQ⟩
  obtain ⟨rfl, rfl, rfl⟩ : k' = 11 ∧ p' = false ∧ zs = [] := by
    rcases hQ with ⟨_, h1, h2, h3⟩ | ⟨h, _⟩
    · exact ⟨h1, h2, h3⟩
    · exact absurd h (by decide)
  clear x0 y0 x1 y1 x2 y2 x3 y3 x4 y4
  have KA := Lib.hid (KA.out.below hb)
  have KB := Lib.hid (KB.out.below hb)
  have KQ := Lib.hid (KQ.out.below hb)
  have KR := Lib.hid (KR.out.below hb)
  have KP := Lib.hid (KP.out.below hb)
  have HB := Lib.hid (HB.out.trans (hb.mono HB.out.size))
  have hal : Below w9.heap.size w9 (w9.alloc (.cells #[.bool false, .slice az 0 cz] 44)) := (Below.refl _ _).alloc (Nat.le_refl _) _
  have KA := Lib.hid (KA.out.below hal)
  have KB := Lib.hid (KB.out.below hal)
  have KQ := Lib.hid (KQ.out.below hal)
  have KR := Lib.hid (KR.out.below hal)
  have KP := Lib.hid (KP.out.below hal)
  have HB := Lib.hid (HB.out.alloc HB.out.size (.cells #[.bool false, .slice az 0 cz] 44))
  clear hQ hb ho hal
  have g0 := KA.out.cells
  obtain ⟨x0, y0⟩ := g0
  have g1 := KB.out.cells
  obtain ⟨x1, y1⟩ := g1
  have g2 := KQ.out.cells
  obtain ⟨x2, y2⟩ := g2
  have g3 := KR.out.cells
  obtain ⟨x3, y3⟩ := g3
  have g4 := KP.out.cells
  obtain ⟨x4, y4⟩ := g4
  go_wp2_with fail
  refine (int64_some true aq 1 cq [3] _ rfl (by decide) (own64.room KQ.out.own).1 (own64.rd KQ.out.own).2 (bd_of (by decide)) (HT.out _ HB.out) (by decide) (by decide) (by decide)).mono ?_
  rintro e w10 ⟨rfl, hb⟩
  rw [show wv true [3] = (-3 : Int) from rfl]
  clear x0 y0 x1 y1 x2 y2 x3 y3 x4 y4
  have KA := Lib.hid (KA.out.below hb)
  have KB := Lib.hid (KB.out.below hb)
  have KQ := Lib.hid (KQ.out.below hb)
  have KR := Lib.hid (KR.out.below hb)
  have KP := Lib.hid (KP.out.below hb)
  have HB := Lib.hid (HB.out.trans (hb.mono HB.out.size))
  clear hb
  have g0 := KA.out.cells
  obtain ⟨x0, y0⟩ := g0
  have g1 := KB.out.cells
  obtain ⟨x1, y1⟩ := g1
  have g2 := KQ.out.cells
  obtain ⟨x2, y2⟩ := g2
  have g3 := KR.out.cells
  obtain ⟨x3, y3⟩ := g3
  have g4 := KP.out.cells
  obtain ⟨x4, y4⟩ := g4
  go_wp2_with fail
  refine (int64_some true ar 1 cr [1] _ rfl (by decide) (own64.room KR.out.own).1 (own64.rd KR.out.own).2 (bd_of (by decide)) (HT.out _ HB.out) (by decide) (by decide) (by decide)).mono ?_
  rintro e w11 ⟨rfl, hb⟩
  rw [show wv true [1] = (-1 : Int) from rfl]
  clear x0 y0 x1 y1 x2 y2 x3 y3 x4 y4
  have KA := Lib.hid (KA.out.below hb)
  have KB := Lib.hid (KB.out.below hb)
  have KQ := Lib.hid (KQ.out.below hb)
  have KR := Lib.hid (KR.out.below hb)
  have KP := Lib.hid (KP.out.below hb)
  have HB := Lib.hid (HB.out.trans (hb.mono HB.out.size))
  clear hb
  clear HT KA KB KQ KR KP
  go_wp2
  go_ret
  exact ⟨rfl, HB.out⟩
end Go.Proofs.YthccccpcjafdcaaDoor
