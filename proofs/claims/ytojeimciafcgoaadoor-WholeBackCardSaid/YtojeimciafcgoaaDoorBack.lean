import Derived.Test.YtojeimciafcgoaaDoorWholeS
namespace Go.Proofs.YtojeimciafcgoaaDoor
open Go.RowKit

/-- A number's text with its sign. -/
def tx (b : Bool) (m : List UInt8) : List UInt8 := if b then 45 :: m else m
theorem hasPrefix_dig {m : List UInt8} (hd : ∀ c ∈ m, isDig c = true) : Lib.hasPrefix m [45] = false := by
  cases m with
  | nil => rfl
  | cons c t =>
    have h : c ≠ 45 := fun h => by have := hd c (by simp); rw [h] at this; exact absurd this (by decide)
    simp [Lib.hasPrefix, List.isPrefixOf]
    exact fun h2 => h h2.symm
theorem trimPrefix_dig {m : List UInt8} (hd : ∀ c ∈ m, isDig c = true) : Lib.trimPrefix m [45] = m := by
  unfold Lib.trimPrefix; rw [hasPrefix_dig hd]; rfl
theorem hasPrefix_dash (m : List UInt8) : Lib.hasPrefix (45 :: m) [45] = true := by simp [Lib.hasPrefix, List.isPrefixOf]
theorem trimPrefix_dash (m : List UInt8) : Lib.trimPrefix (45 :: m) [45] = m := by unfold Lib.trimPrefix; rw [hasPrefix_dash]; rfl
theorem decB_of {m : List UInt8} (hd : ∀ c ∈ m, isDig c = true) (hne : m ≠ []) : decB m = true := by
  unfold decB
  rw [List.all_eq_true.2 hd, decide_eq_true (List.length_pos_iff.2 hne)]; rfl
theorem parse_tx (b : Bool) (m : List UInt8) (v : Nat) (k : Int) (n : Bool) (zs : List Nat) (hd : ∀ c ∈ m, isDig c = true) (hne : m ≠ []) (hv : dval m = v) (hlim : v < LIM) (hlen : m.length ≤ 65535) (hb : b = true → 0 < v)
    (h : WParseTells (tx b m) k n zs) : k = 0 ∧ n = b ∧ Num zs v := by
  have hl : (tx b m).length ≤ 65536 := by unfold tx; split <;> (try simp) <;> omega
  have e1 : Lib.trimPrefix (tx b m) [45] = m := by unfold tx; cases b; exact trimPrefix_dig hd; exact trimPrefix_dash m
  have e2 : Lib.hasPrefix (tx b m) [45] = b := by unfold tx; cases b; exact hasPrefix_dig hd; exact hasPrefix_dash m
  unfold WParseTells at h
  rw [e1, e2, hv, decB_of hd hne] at h
  rcases h with ⟨h1, _⟩ | ⟨_, h1, _⟩ | ⟨_, _, h1, _⟩ | ⟨_, _, _, h1, h2, h3⟩
  · omega
  · cases h1
  · omega
  · refine ⟨h1, ?_, h3⟩
    rw [h2]
    cases b
    · rfl
    · rw [decide_eq_true (hb rfl)]; rfl
theorem parse_dash (b : Bool) (m : List UInt8) (k : Int) (n : Bool) (zs : List Nat) (hd : ∀ c ∈ m, isDig c = true) (hne : m ≠ []) (hlim : dval m < LIM) (hlen : m.length ≤ 65534)
    (h : WParseTells (45 :: tx b m) k n zs) : k = if b then 12 else 0 := by
  have hl : (45 :: tx b m).length ≤ 65536 := by unfold tx; split <;> (try simp) <;> omega
  unfold WParseTells at h
  rw [trimPrefix_dash] at h
  cases b
  · simp only [tx, Bool.false_eq_true, if_false] at h hl ⊢
    rw [decB_of hd hne] at h
    rcases h with ⟨h1, _⟩ | ⟨_, h1, _⟩ | ⟨_, _, h1, _⟩ | ⟨_, _, _, h1, _⟩
    · omega
    · cases h1
    · omega
    · exact h1
  · simp only [tx, if_true] at h hl ⊢
    have hf : decB (45 :: m) = false := by unfold decB; simp [isDig]
    rw [hf] at h
    rcases h with ⟨h1, _⟩ | ⟨_, _, h1, _⟩ | ⟨_, h1, _⟩ | ⟨_, h1, _⟩
    · omega
    · exact h1
    · cases h1
    · cases h1
theorem parse_zero (k : Int) (n : Bool) (zs : List Nat) (h : WParseTells [45, 48] k n zs) : k = 0 ∧ n = false ∧ zs = [] := by
  have hlim : 0 < LIM := lim_one (by decide)
  unfold WParseTells at h
  rw [trimPrefix_dash, show decB [48] = true from by decide, show dval [48] = 0 from rfl] at h
  rcases h with ⟨h1, _⟩ | ⟨_, h1, _⟩ | ⟨_, _, h1, _⟩ | ⟨_, _, _, h1, h2, h3⟩
  · simp at h1
  · cases h1
  · omega
  · exact ⟨h1, by rw [h2]; simp, h3.unique Num.nil⟩
theorem str_app (a b : List UInt8) : (⟨a.toArray⟩ : ByteArray) ++ ⟨b.toArray⟩ = ⟨(a ++ b).toArray⟩ := by rw [ByteArray.mk_append_mk]
theorem str_cut (l : List UInt8) : (⟨#[45, 48, 48, 48]⟩ : ByteArray) ++ (⟨(45 :: l).toArray⟩ : ByteArray).extract 1 (l.length + 1) = ⟨(45 :: 48 :: 48 :: 48 :: l).toArray⟩ := by
  rw [ext_back _ _ _ (by simp)]
  exact str_app [45, 48, 48, 48] l
theorem str_three (l : List UInt8) : (⟨#[48, 48, 48]⟩ : ByteArray) ++ ⟨l.toArray⟩ = ⟨(48 :: 48 :: 48 :: l).toArray⟩ := str_app [48, 48, 48] l
theorem str_dash (l : List UInt8) : (⟨#[45]⟩ : ByteArray) ++ ⟨l.toArray⟩ = ⟨(45 :: l).toArray⟩ := str_app [45] l
theorem dval_noughts (l : List UInt8) : dval (48 :: 48 :: 48 :: l) = dval l := by
  rw [dval_cons, dval_cons, dval_cons]; simp
theorem dig_noughts {l : List UInt8} (hd : ∀ c ∈ l, isDig c = true) : ∀ c ∈ 48 :: 48 :: 48 :: l, isDig c = true := by
  intro c hc
  simp only [List.mem_cons] at hc
  rcases hc with rfl | rfl | rfl | hc
  · rfl
  · rfl
  · rfl
  · exact hd c hc

set_option maxHeartbeats 2000000 in
set_option maxRecDepth 100000 in
theorem wback_neg (n : Bool) (a : Option Addr) (la ca : Nat) (xs : List Nat) (w : World) (hla : xs.length = la) (hba : la ≤ 9223372036854775807) (hra : Rd .u64 w a xs) (bx : Bd xs) (ht : Tabs w) (hs : decide (SW n xs 64 < 0) = true) :
    Calls Tryd.prog 9 #[.agg #[.bool n, .slice a la ca]] w fun e w' => e = .returned (.bool true) ∧ Below w.heap.size w w' := by
  have HT := Lib.hid (fun (W : World) (h : Below w.heap.size w W) => ht.below h)
  have HBX := Lib.hid bx
  have HR := Lib.hid (hra.alloc (.cells #[.bool n, .slice a la ca] 56))
  have HLIM : Hid ((SW n xs 64).natAbs < LIM) := sw_lim n xs 64 bx (by decide)
  have HS : Hid (decide (SW n xs 64 < 0) = true) := hs
  clear hra bx ht hs
  go_enter Tryd.func9, Tryd.ntmps9
  go_wp2_with fail
  refine (wsome_any n a la ca 64 xs _ hla hba (by decide) HR.out HBX.out).mono ?_
  rintro e w1 ⟨hb, aa, cA, zs, rfl, ho, hN⟩
  have hwv : wv (decide (SW n xs 64 < 0)) zs = SW n xs 64 := wv_int hN
  have HSPOS : Hid (0 < (SW n xs 64).natAbs) := by show _ < _; have h2 := of_decide_eq_true HS.out; omega
  rw [HS.out] at hwv ⊢
  have HSG : Hid (decide (sg (SW n xs 64) < 0) = true) := by show _ = _; rw [sg_neg]; exact HS.out
  have HLL : Hid (zs.length ≤ 64) := (hN.len_le (k := 64)).2 HLIM.out
  generalize SW n xs 64 = Z at *
  obtain ⟨v, hv⟩ : ∃ v, v = Z.natAbs := ⟨_, rfl⟩
  rw [← hv] at hN HLIM HSPOS
  have HV : Hid (val zs = v) := hN.vl
  have HWV := Lib.hid hwv
  have HNZ := Lib.hid hN
  have HB0 : Below w.heap.size w (w.alloc (.cells #[.bool n, .slice a la ca] 56)) := (Below.refl _ _).alloc (Nat.le_refl _) _
  have HB := Lib.hid (HB0.trans (hb.mono HB0.size))
  have ho1 := owns_base ho HB0.size
  clear ho hb HB0 hN hwv hv HR HBX
  have KA := Lib.hid (Keep.new (n := true) ho1)
  have hal : Below w1.heap.size w1 (w1.alloc (.cells #[.bool true, .slice aa zs.length cA] 56)) := (Below.refl _ _).alloc (Nat.le_refl _) _
  have HB := Lib.hid (HB.out.alloc HB.out.size (.cells #[.bool true, .slice aa zs.length cA] 56))
  clear hal
  clear ho1
  have g0 := KA.out.cells
  obtain ⟨x0, y0⟩ := g0
  go_wp2_with fail
  refine (wtext_any true aa zs.length cA zs _ rfl (by have := HLL.out; omega) (own64.room KA.out.own).1 (own64.none KA.out.own) (own64.rd KA.out.own).2 HNZ.out.bd).mono ?_
  rintro e w2 ⟨hb, hQ⟩
  rw [HV.out, HWV.out] at hQ
  obtain ⟨l, hd, rfl⟩ : ∃ l, IsDec l v ∧ e = .returned (.tuple #[.string ⟨(45 :: l).toArray⟩, .int .i64 0]) := by
    rcases hQ with ⟨h, _⟩ | ⟨_, l, hd, rfl⟩
    · exact absurd h (Nat.not_le.2 HLIM.out)
    · refine ⟨l, hd, ?_⟩
      rw [if_pos (of_decide_eq_true HS.out)]
  clear x0 y0
  have KA := Lib.hid (KA.out.below hb)
  have HB := Lib.hid (HB.out.trans (hb.mono HB.out.size))
  have HD := Lib.hid hd
  have hlen : l.length ≤ 2467 := hd.len_le (Nat.lt_of_lt_of_le HLIM.out lim_lt)
  clear hQ hb hd
  have g0 := KA.out.cells
  obtain ⟨x0, y0⟩ := g0
  go_wp2_with fail
  refine (wparse_any ⟨(45 :: l).toArray⟩ _ (by simp [ByteArray.size]; omega)).mono ?_
  rintro e w3 ⟨hb, p', aB, cB, k', zB, rfl, ho, hQ⟩
  obtain ⟨rfl, rfl, hz⟩ := parse_tx true l v k' p' zB HD.out.dig HD.out.ne HD.out.vl HLIM.out (by omega) (fun _ => HSPOS.out) (by simpa [tx] using hQ)
  obtain rfl : zs = zB := HNZ.out.unique hz
  clear hz
  clear x0 y0
  have KA := Lib.hid (KA.out.below hb)
  have ho1 := owns_base ho HB.out.size
  have HB := Lib.hid (HB.out.trans (hb.mono HB.out.size))
  clear hQ hb ho
  have KB := Lib.hid (Keep.new (n := true) ho1)
  have hal : Below w3.heap.size w3 (w3.alloc (.cells #[.bool true, .slice aB zs.length cB] 56)) := (Below.refl _ _).alloc (Nat.le_refl _) _
  have KA := Lib.hid (KA.out.below hal)
  have HB := Lib.hid (HB.out.alloc HB.out.size (.cells #[.bool true, .slice aB zs.length cB] 56))
  clear hal
  clear ho1
  go_wp2_with fail
  generalize w3.alloc (.cells #[.bool true, .slice aB zs.length cB] 56) = W0 at *
  generalize w1.heap.size = ga at *
  generalize w3.heap.size = gb at *
  have hqs : decide (sg Z < 0) = true := HSG.out
  have hix : ((((⟨(45 :: l).toArray⟩ : ByteArray)[0]'(by simp [ByteArray.size])).toNat : Int) == 45) = true := by simp [ByteArray.getElem_eq_getElem_data]
  have hql : decide ((l.length : Int) + 1 < 1) = false := by rw [decide_eq_false_iff_not]; omega
  have HSA : Hid (W0.drew.cell? ⟨ga, 0, none⟩ = some (.bool true) ∧ W0.drew.cell? ⟨ga, 1, none⟩ = some (.slice aa zs.length cA) ∧ W0.drew.cell? ⟨gb, 0, none⟩ = some (.bool true) ∧ W0.drew.cell? ⟨gb, 1, none⟩ = some (.slice aB zs.length cB) ∧ Below W0.heap.size W0 W0.drew) :=
    ⟨KA.out.cells.1, KA.out.cells.2, KB.out.cells.1, KB.out.cells.2, (Below.refl _ _).drew⟩
  have HKB : Hid (∀ W W', (W.cell? ⟨ga, 0, none⟩ = some (.bool true) ∧ W.cell? ⟨ga, 1, none⟩ = some (.slice aa zs.length cA) ∧ W.cell? ⟨gb, 0, none⟩ = some (.bool true) ∧ W.cell? ⟨gb, 1, none⟩ = some (.slice aB zs.length cB) ∧ Below W0.heap.size W0 W) → Below W.heap.size W W' → (W'.cell? ⟨ga, 0, none⟩ = some (.bool true) ∧ W'.cell? ⟨ga, 1, none⟩ = some (.slice aa zs.length cA) ∧ W'.cell? ⟨gb, 0, none⟩ = some (.bool true) ∧ W'.cell? ⟨gb, 1, none⟩ = some (.slice aB zs.length cB) ∧ Below W0.heap.size W0 W')) :=
    fun W W' h hb => ⟨below_cell hb _ _ h.1, below_cell hb _ _ h.2.1, below_cell hb _ _ h.2.2.1, below_cell hb _ _ h.2.2.2.1, h.2.2.2.2.trans (hb.mono h.2.2.2.2.size)⟩
  have HKW : Hid (∀ W, (W.cell? ⟨ga, 0, none⟩ = some (.bool true) ∧ W.cell? ⟨ga, 1, none⟩ = some (.slice aa zs.length cA) ∧ W.cell? ⟨gb, 0, none⟩ = some (.bool true) ∧ W.cell? ⟨gb, 1, none⟩ = some (.slice aB zs.length cB) ∧ Below W0.heap.size W0 W) → Below W0.heap.size W0 W) := fun W h => h.2.2.2.2
  go_region_held3 (fun W => W.cell? ⟨ga, 0, none⟩ = some (.bool true) ∧ W.cell? ⟨ga, 1, none⟩ = some (.slice aa zs.length cA) ∧ W.cell? ⟨gb, 0, none⟩ = some (.bool true) ∧ W.cell? ⟨gb, 1, none⟩ = some (.slice aB zs.length cB) ∧ Below W0.heap.size W0 W)
    (first | exact HSA.out | assumption | (refine HKB.out _ _ ?_ ((Below.refl _ _).alloc (Nat.le_refl _) _); assumption) | (refine HKB.out _ _ ?_ hb3; assumption))
    (first
    | (go_at_call 39; (with_reducible refine (wsame2_any true aa aB zs.length cA cB zs _ rfl ?hl ?ha ?hb).mono ?_)
       (case hl => have := HLL.out; omega)
       (case ha => (refine (own64.rd KA.out.own).2.below (HKW.out _ ?_); assumption))
       (case hb => (refine (own64.rd KB.out.own).2.below (HKW.out _ ?_); assumption))
       rintro e w5 ⟨rfl, hb3⟩)
    | (go_at_call 40; (with_reducible refine (wsign_any true aa zs.length cA zs _ rfl ?hl ?hc ?ha ?hd).mono ?_)
       (case hl => have := HLL.out; omega)
       (case hc => exact (own64.room KA.out.own).1)
       (case ha => (refine (own64.rd KA.out.own).2.below (HKW.out _ ?_); assumption))
       (case hd => exact HNZ.out.bd)
       rintro e w6 ⟨rfl, rfl⟩
       rw [HWV.out]))
  all_goals
    have HBW := Lib.hid (HKW.out _ (by assumption))
    go_wp2_with fail
    have KA := Lib.hid (KA.out.below HBW.out)
    have HB := Lib.hid (HB.out.trans (HBW.out.mono HB.out.size))
    clear KB HBW HSA HKB HKW hb3
    rw [str_cut]
    refine (wparse_any ⟨(45 :: 48 :: 48 :: 48 :: l).toArray⟩ _ (by simp [ByteArray.size]; omega)).mono ?_
    rintro e w7 ⟨hb, p', aC, cC, k', zC, rfl, ho, hQ⟩
    obtain ⟨rfl, rfl, hz⟩ := parse_tx true (48 :: 48 :: 48 :: l) v k' p' zC (dig_noughts HD.out.dig) (by simp) (by rw [dval_noughts]; exact HD.out.vl) HLIM.out (by simp; omega) (fun _ => HSPOS.out) (by simpa [tx] using hQ)
    obtain rfl : zs = zC := HNZ.out.unique hz
    have KA := Lib.hid (KA.out.below hb)
    have ho1 := owns_base ho HB.out.size
    have HB := Lib.hid (HB.out.trans (hb.mono HB.out.size))
    clear hQ hb ho hz
    have KC := Lib.hid (Keep.new (n := true) ho1)
    have hal : Below w7.heap.size w7 (w7.alloc (.cells #[.bool true, .slice aC zs.length cC] 56)) := (Below.refl _ _).alloc (Nat.le_refl _) _
    have KA := Lib.hid (KA.out.below hal)
    have HB := Lib.hid (HB.out.alloc HB.out.size (.cells #[.bool true, .slice aC zs.length cC] 56))
    clear hal
    clear ho1
    go_wp2_with fail
    refine (wparse_any ⟨#[45, 48]⟩ _ (by decide)).mono ?_
    rintro e w8 ⟨hb, p', aD, cD, k', zD, rfl, ho, hQ⟩
    obtain ⟨rfl, rfl, rfl⟩ := parse_zero k' p' zD hQ
    have KA := Lib.hid (KA.out.below hb)
    have KC := Lib.hid (KC.out.below hb)
    have ho1 := owns_base ho HB.out.size
    have HB := Lib.hid (HB.out.trans (hb.mono HB.out.size))
    clear hQ hb ho
    have KD := Lib.hid (Keep.new (n := false) ho1)
    have hal : Below w8.heap.size w8 (w8.alloc (.cells #[.bool false, .slice aD 0 cD] 56)) := (Below.refl _ _).alloc (Nat.le_refl _) _
    have KA := Lib.hid (KA.out.below hal)
    have KC := Lib.hid (KC.out.below hal)
    have HB := Lib.hid (HB.out.alloc HB.out.size (.cells #[.bool false, .slice aD 0 cD] 56))
    clear hal
    clear ho1
    go_wp2_with fail
    rw [str_dash]
    refine (wparse_any ⟨(45 :: (45 :: 48 :: 48 :: 48 :: l)).toArray⟩ _ (by simp [ByteArray.size]; omega)).mono ?_
    rintro e w9 ⟨hb, p', aE, cE, k', zE, rfl, ho, hQ⟩
    obtain rfl : k' = 12 := parse_dash true (48 :: 48 :: 48 :: l) k' p' zE (dig_noughts HD.out.dig) (by simp) (by rw [dval_noughts, HD.out.vl]; exact HLIM.out) (by simp; omega) (by simpa [tx] using hQ)
    have hal : Below w9.heap.size w9 (w9.alloc (.cells #[.bool p', .slice aE zE.length cE] 56)) := (Below.refl _ _).alloc (Nat.le_refl _) _
    have KA := Lib.hid (KA.out.below hb)
    have KC := Lib.hid (KC.out.below hb)
    have KD := Lib.hid (KD.out.below hb)
    have KA := Lib.hid (KA.out.below hal)
    have KC := Lib.hid (KC.out.below hal)
    have KD := Lib.hid (KD.out.below hal)
    have HB := Lib.hid ((HB.out.trans (hb.mono HB.out.size)).alloc (HB.out.trans (hb.mono HB.out.size)).size (.cells #[.bool p', .slice aE zE.length cE] 56))
    clear hQ hb ho hal
    have g0 := KA.out.cells
    obtain ⟨x0, y0⟩ := g0
    have g1 := KC.out.cells
    obtain ⟨x1, y1⟩ := g1
    have g2 := KD.out.cells
    obtain ⟨x2, y2⟩ := g2
    go_wp2_with fail
    refine (wsame2_any true aa aC zs.length cA cC zs _ rfl (by have := HLL.out; omega) (own64.rd KA.out.own).2 (own64.rd KC.out.own).2).mono ?_
    rintro e w10 ⟨rfl, hb⟩
    clear x0 y0 x1 y1 x2 y2
    have KA := Lib.hid (KA.out.below hb)
    have KC := Lib.hid (KC.out.below hb)
    have KD := Lib.hid (KD.out.below hb)
    have HB := Lib.hid (HB.out.trans (hb.mono HB.out.size))
    clear hb
    have g0 := KA.out.cells
    obtain ⟨x0, y0⟩ := g0
    have g1 := KC.out.cells
    obtain ⟨x1, y1⟩ := g1
    have g2 := KD.out.cells
    obtain ⟨x2, y2⟩ := g2
    go_wp2_with fail
    refine (wsame2_any false aD none 0 cD 0 [] _ rfl (by decide) (own64.rd KD.out.own).2 (Rd.nil _ _ _)).mono ?_
    rintro e w11 ⟨rfl, hb⟩
    clear x0 y0 x1 y1 x2 y2
    have HB := Lib.hid (HB.out.trans (hb.mono HB.out.size))
    clear hb KA KC KD
    go_wp2_with fail
    refine (wworks_any _ (HT.out _ HB.out)).mono ?_
    rintro e w12 ⟨rfl, hb⟩
    have HB := Lib.hid (HB.out.trans (hb.mono HB.out.size))
    clear hb
    go_wp2
    go_ret
    exact ⟨rfl, HB.out⟩

set_option maxHeartbeats 2000000 in
set_option maxRecDepth 100000 in
theorem wback_pos (n : Bool) (a : Option Addr) (la ca : Nat) (xs : List Nat) (w : World) (hla : xs.length = la) (hba : la ≤ 9223372036854775807) (hra : Rd .u64 w a xs) (bx : Bd xs) (ht : Tabs w) (hs : decide (SW n xs 64 < 0) = false) :
    Calls Tryd.prog 9 #[.agg #[.bool n, .slice a la ca]] w fun e w' => e = .returned (.bool true) ∧ Below w.heap.size w w' := by
  have HT := Lib.hid (fun (W : World) (h : Below w.heap.size w W) => ht.below h)
  have HBX := Lib.hid bx
  have HR := Lib.hid (hra.alloc (.cells #[.bool n, .slice a la ca] 56))
  have HLIM : Hid ((SW n xs 64).natAbs < LIM) := sw_lim n xs 64 bx (by decide)
  have HS : Hid (decide (SW n xs 64 < 0) = false) := hs
  clear hra bx ht hs
  go_enter Tryd.func9, Tryd.ntmps9
  go_wp2_with fail
  refine (wsome_any n a la ca 64 xs _ hla hba (by decide) HR.out HBX.out).mono ?_
  rintro e w1 ⟨hb, aa, cA, zs, rfl, ho, hN⟩
  have hwv : wv (decide (SW n xs 64 < 0)) zs = SW n xs 64 := wv_int hN
  have HSPOS : Hid (0 ≤ (SW n xs 64).natAbs) := Nat.zero_le _
  rw [HS.out] at hwv ⊢
  have HSG : Hid (decide (sg (SW n xs 64) < 0) = false) := by show _ = _; rw [sg_neg]; exact HS.out
  have HLL : Hid (zs.length ≤ 64) := (hN.len_le (k := 64)).2 HLIM.out
  generalize SW n xs 64 = Z at *
  obtain ⟨v, hv⟩ : ∃ v, v = Z.natAbs := ⟨_, rfl⟩
  rw [← hv] at hN HLIM HSPOS
  have HV : Hid (val zs = v) := hN.vl
  have HWV := Lib.hid hwv
  have HNZ := Lib.hid hN
  have HB0 : Below w.heap.size w (w.alloc (.cells #[.bool n, .slice a la ca] 56)) := (Below.refl _ _).alloc (Nat.le_refl _) _
  have HB := Lib.hid (HB0.trans (hb.mono HB0.size))
  have ho1 := owns_base ho HB0.size
  clear ho hb HB0 hN hwv hv HR HBX
  have KA := Lib.hid (Keep.new (n := false) ho1)
  have hal : Below w1.heap.size w1 (w1.alloc (.cells #[.bool false, .slice aa zs.length cA] 56)) := (Below.refl _ _).alloc (Nat.le_refl _) _
  have HB := Lib.hid (HB.out.alloc HB.out.size (.cells #[.bool false, .slice aa zs.length cA] 56))
  clear hal
  clear ho1
  have g0 := KA.out.cells
  obtain ⟨x0, y0⟩ := g0
  go_wp2_with fail
  refine (wtext_any false aa zs.length cA zs _ rfl (by have := HLL.out; omega) (own64.room KA.out.own).1 (own64.none KA.out.own) (own64.rd KA.out.own).2 HNZ.out.bd).mono ?_
  rintro e w2 ⟨hb, hQ⟩
  rw [HV.out, HWV.out] at hQ
  obtain ⟨l, hd, rfl⟩ : ∃ l, IsDec l v ∧ e = .returned (.tuple #[.string ⟨l.toArray⟩, .int .i64 0]) := by
    rcases hQ with ⟨h, _⟩ | ⟨_, l, hd, rfl⟩
    · exact absurd h (Nat.not_le.2 HLIM.out)
    · refine ⟨l, hd, ?_⟩
      rw [if_neg (of_decide_eq_false HS.out)]
  clear x0 y0
  have KA := Lib.hid (KA.out.below hb)
  have HB := Lib.hid (HB.out.trans (hb.mono HB.out.size))
  have HD := Lib.hid hd
  have hlen : l.length ≤ 2467 := hd.len_le (Nat.lt_of_lt_of_le HLIM.out lim_lt)
  clear hQ hb hd
  have g0 := KA.out.cells
  obtain ⟨x0, y0⟩ := g0
  go_wp2_with fail
  refine (wparse_any ⟨l.toArray⟩ _ (by simp [ByteArray.size]; omega)).mono ?_
  rintro e w3 ⟨hb, p', aB, cB, k', zB, rfl, ho, hQ⟩
  obtain ⟨rfl, rfl, hz⟩ := parse_tx false l v k' p' zB HD.out.dig HD.out.ne HD.out.vl HLIM.out (by omega) (fun h => by cases h) (by simpa [tx] using hQ)
  obtain rfl : zs = zB := HNZ.out.unique hz
  clear hz
  clear x0 y0
  have KA := Lib.hid (KA.out.below hb)
  have ho1 := owns_base ho HB.out.size
  have HB := Lib.hid (HB.out.trans (hb.mono HB.out.size))
  clear hQ hb ho
  have KB := Lib.hid (Keep.new (n := false) ho1)
  have hal : Below w3.heap.size w3 (w3.alloc (.cells #[.bool false, .slice aB zs.length cB] 56)) := (Below.refl _ _).alloc (Nat.le_refl _) _
  have KA := Lib.hid (KA.out.below hal)
  have HB := Lib.hid (HB.out.alloc HB.out.size (.cells #[.bool false, .slice aB zs.length cB] 56))
  clear hal
  clear ho1
  obtain ⟨c, t, rfl⟩ := List.exists_cons_of_ne_nil HD.out.ne
  have hcd : 48 ≤ c.toNat ∧ c.toNat ≤ 57 := by simpa [isDig] using HD.out.dig c (by simp)
  have hc45 : ((c.toNat : Int) == 45) = false := by rw [beq_eq_false_iff_ne]; omega
  have hcl : (c :: t).length = t.length + 1 := rfl
  have htl : t.length ≤ 2467 := by rw [hcl] at hlen; omega
  clear hcd hlen hcl
  go_wp2_with fail
  generalize w3.alloc (.cells #[.bool false, .slice aB zs.length cB] 56) = W0 at *
  generalize w1.heap.size = ga at *
  generalize w3.heap.size = gb at *
  have hqs : decide (sg Z < 0) = false := HSG.out
  have hix : ((((⟨(c :: t).toArray⟩ : ByteArray)[0]'(by simp [ByteArray.size])).toNat : Int) == 45) = false := by have h0 := hc45; simpa [ByteArray.getElem_eq_getElem_data] using h0
  have hql : decide ((t.length : Int) + 1 < 1) = false := by rw [decide_eq_false_iff_not]; omega
  have HSA : Hid (W0.drew.cell? ⟨ga, 0, none⟩ = some (.bool false) ∧ W0.drew.cell? ⟨ga, 1, none⟩ = some (.slice aa zs.length cA) ∧ W0.drew.cell? ⟨gb, 0, none⟩ = some (.bool false) ∧ W0.drew.cell? ⟨gb, 1, none⟩ = some (.slice aB zs.length cB) ∧ Below W0.heap.size W0 W0.drew) :=
    ⟨KA.out.cells.1, KA.out.cells.2, KB.out.cells.1, KB.out.cells.2, (Below.refl _ _).drew⟩
  have HKB : Hid (∀ W W', (W.cell? ⟨ga, 0, none⟩ = some (.bool false) ∧ W.cell? ⟨ga, 1, none⟩ = some (.slice aa zs.length cA) ∧ W.cell? ⟨gb, 0, none⟩ = some (.bool false) ∧ W.cell? ⟨gb, 1, none⟩ = some (.slice aB zs.length cB) ∧ Below W0.heap.size W0 W) → Below W.heap.size W W' → (W'.cell? ⟨ga, 0, none⟩ = some (.bool false) ∧ W'.cell? ⟨ga, 1, none⟩ = some (.slice aa zs.length cA) ∧ W'.cell? ⟨gb, 0, none⟩ = some (.bool false) ∧ W'.cell? ⟨gb, 1, none⟩ = some (.slice aB zs.length cB) ∧ Below W0.heap.size W0 W')) :=
    fun W W' h hb => ⟨below_cell hb _ _ h.1, below_cell hb _ _ h.2.1, below_cell hb _ _ h.2.2.1, below_cell hb _ _ h.2.2.2.1, h.2.2.2.2.trans (hb.mono h.2.2.2.2.size)⟩
  have HKW : Hid (∀ W, (W.cell? ⟨ga, 0, none⟩ = some (.bool false) ∧ W.cell? ⟨ga, 1, none⟩ = some (.slice aa zs.length cA) ∧ W.cell? ⟨gb, 0, none⟩ = some (.bool false) ∧ W.cell? ⟨gb, 1, none⟩ = some (.slice aB zs.length cB) ∧ Below W0.heap.size W0 W) → Below W0.heap.size W0 W) := fun W h => h.2.2.2.2
  go_region_held3 (fun W => W.cell? ⟨ga, 0, none⟩ = some (.bool false) ∧ W.cell? ⟨ga, 1, none⟩ = some (.slice aa zs.length cA) ∧ W.cell? ⟨gb, 0, none⟩ = some (.bool false) ∧ W.cell? ⟨gb, 1, none⟩ = some (.slice aB zs.length cB) ∧ Below W0.heap.size W0 W)
    (first | exact HSA.out | assumption | (refine HKB.out _ _ ?_ ((Below.refl _ _).alloc (Nat.le_refl _) _); assumption) | (refine HKB.out _ _ ?_ hb3; assumption))
    (first
    | (go_at_call 39; (with_reducible refine (wsame2_any false aa aB zs.length cA cB zs _ rfl ?hl ?ha ?hb).mono ?_)
       (case hl => have := HLL.out; omega)
       (case ha => (refine (own64.rd KA.out.own).2.below (HKW.out _ ?_); assumption))
       (case hb => (refine (own64.rd KB.out.own).2.below (HKW.out _ ?_); assumption))
       rintro e w5 ⟨rfl, hb3⟩)
    | (go_at_call 40; (with_reducible refine (wsign_any false aa zs.length cA zs _ rfl ?hl ?hc ?ha ?hd).mono ?_)
       (case hl => have := HLL.out; omega)
       (case hc => exact (own64.room KA.out.own).1)
       (case ha => (refine (own64.rd KA.out.own).2.below (HKW.out _ ?_); assumption))
       (case hd => exact HNZ.out.bd)
       rintro e w6 ⟨rfl, rfl⟩
       rw [HWV.out]))
  all_goals
    have HBW := Lib.hid (HKW.out _ (by assumption))
    go_wp2_with fail
    have KA := Lib.hid (KA.out.below HBW.out)
    have HB := Lib.hid (HB.out.trans (HBW.out.mono HB.out.size))
    clear KB HBW HSA HKB HKW hb3
    rw [str_three]
    refine (wparse_any ⟨(48 :: 48 :: 48 :: c :: t).toArray⟩ _ (by simp [ByteArray.size]; omega)).mono ?_
    rintro e w7 ⟨hb, p', aC, cC, k', zC, rfl, ho, hQ⟩
    obtain ⟨rfl, rfl, hz⟩ := parse_tx false (48 :: 48 :: 48 :: c :: t) v k' p' zC (dig_noughts HD.out.dig) (by simp) (by rw [dval_noughts]; exact HD.out.vl) HLIM.out (by simp; omega) (fun h => by cases h) (by simpa [tx] using hQ)
    obtain rfl : zs = zC := HNZ.out.unique hz
    have KA := Lib.hid (KA.out.below hb)
    have ho1 := owns_base ho HB.out.size
    have HB := Lib.hid (HB.out.trans (hb.mono HB.out.size))
    clear hQ hb ho hz
    have KC := Lib.hid (Keep.new (n := false) ho1)
    have hal : Below w7.heap.size w7 (w7.alloc (.cells #[.bool false, .slice aC zs.length cC] 56)) := (Below.refl _ _).alloc (Nat.le_refl _) _
    have KA := Lib.hid (KA.out.below hal)
    have HB := Lib.hid (HB.out.alloc HB.out.size (.cells #[.bool false, .slice aC zs.length cC] 56))
    clear hal
    clear ho1
    go_wp2_with fail
    refine (wparse_any ⟨#[45, 48]⟩ _ (by decide)).mono ?_
    rintro e w8 ⟨hb, p', aD, cD, k', zD, rfl, ho, hQ⟩
    obtain ⟨rfl, rfl, rfl⟩ := parse_zero k' p' zD hQ
    have KA := Lib.hid (KA.out.below hb)
    have KC := Lib.hid (KC.out.below hb)
    have ho1 := owns_base ho HB.out.size
    have HB := Lib.hid (HB.out.trans (hb.mono HB.out.size))
    clear hQ hb ho
    have KD := Lib.hid (Keep.new (n := false) ho1)
    have hal : Below w8.heap.size w8 (w8.alloc (.cells #[.bool false, .slice aD 0 cD] 56)) := (Below.refl _ _).alloc (Nat.le_refl _) _
    have KA := Lib.hid (KA.out.below hal)
    have KC := Lib.hid (KC.out.below hal)
    have HB := Lib.hid (HB.out.alloc HB.out.size (.cells #[.bool false, .slice aD 0 cD] 56))
    clear hal
    clear ho1
    go_wp2_with fail
    rw [str_dash]
    refine (wparse_any ⟨(45 :: (48 :: 48 :: 48 :: c :: t)).toArray⟩ _ (by simp [ByteArray.size]; omega)).mono ?_
    rintro e w9 ⟨hb, p', aE, cE, k', zE, rfl, ho, hQ⟩
    obtain rfl : k' = 0 := parse_dash false (48 :: 48 :: 48 :: c :: t) k' p' zE (dig_noughts HD.out.dig) (by simp) (by rw [dval_noughts, HD.out.vl]; exact HLIM.out) (by simp; omega) (by simpa [tx] using hQ)
    have hal : Below w9.heap.size w9 (w9.alloc (.cells #[.bool p', .slice aE zE.length cE] 56)) := (Below.refl _ _).alloc (Nat.le_refl _) _
    have KA := Lib.hid (KA.out.below hb)
    have KC := Lib.hid (KC.out.below hb)
    have KD := Lib.hid (KD.out.below hb)
    have KA := Lib.hid (KA.out.below hal)
    have KC := Lib.hid (KC.out.below hal)
    have KD := Lib.hid (KD.out.below hal)
    have HB := Lib.hid ((HB.out.trans (hb.mono HB.out.size)).alloc (HB.out.trans (hb.mono HB.out.size)).size (.cells #[.bool p', .slice aE zE.length cE] 56))
    clear hQ hb ho hal
    have g0 := KA.out.cells
    obtain ⟨x0, y0⟩ := g0
    have g1 := KC.out.cells
    obtain ⟨x1, y1⟩ := g1
    have g2 := KD.out.cells
    obtain ⟨x2, y2⟩ := g2
    go_wp2_with fail
    refine (wsame2_any false aa aC zs.length cA cC zs _ rfl (by have := HLL.out; omega) (own64.rd KA.out.own).2 (own64.rd KC.out.own).2).mono ?_
    rintro e w10 ⟨rfl, hb⟩
    clear x0 y0 x1 y1 x2 y2
    have KA := Lib.hid (KA.out.below hb)
    have KC := Lib.hid (KC.out.below hb)
    have KD := Lib.hid (KD.out.below hb)
    have HB := Lib.hid (HB.out.trans (hb.mono HB.out.size))
    clear hb
    have g0 := KA.out.cells
    obtain ⟨x0, y0⟩ := g0
    have g1 := KC.out.cells
    obtain ⟨x1, y1⟩ := g1
    have g2 := KD.out.cells
    obtain ⟨x2, y2⟩ := g2
    go_wp2_with fail
    refine (wsame2_any false aD none 0 cD 0 [] _ rfl (by decide) (own64.rd KD.out.own).2 (Rd.nil _ _ _)).mono ?_
    rintro e w11 ⟨rfl, hb⟩
    clear x0 y0 x1 y1 x2 y2
    have HB := Lib.hid (HB.out.trans (hb.mono HB.out.size))
    clear hb KA KC KD
    go_wp2_with fail
    refine (wworks_any _ (HT.out _ HB.out)).mono ?_
    rintro e w12 ⟨rfl, hb⟩
    have HB := Lib.hid (HB.out.trans (hb.mono HB.out.size))
    clear hb
    go_wp2
    go_ret
    exact ⟨rfl, HB.out⟩
end Go.Proofs.YtojeimciafcgoaaDoor
