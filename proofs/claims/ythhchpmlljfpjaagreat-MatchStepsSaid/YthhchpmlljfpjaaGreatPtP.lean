import Derived.Test.YthhchpmlljfpjaaGreatPtN
import Derived.Test.YthhchpmlljfpjaaGreatPtO
namespace Go.Proofs.YthhchpmlljfpjaaGreat
open Go.RowKit

/-! A bracket. -/
/-- The reader's place. -/
def posAt (w : World) (rb : Nat) : Nat := match w.cell? ⟨rb, 1, none⟩ with | some (.int _ n) => n.toNat | _ => 0
theorem RB.pos {w : World} {rb : Nat} {s : ByteArray} {i o : Nat} (h : RB w rb s i o) : posAt w rb = i := by
  unfold posAt
  rw [h.cells.2.1]
  simp
@[reducible] def Z8 : Obj := .cells #[.int .i64 0, .int .u64 0, .int .u64 0, .int .u64 0, .int .u64 0, .int .i64 0, .int .i64 0, .slice none 0 0] 42
@[reducible] def zero8 : List Value := [.int .i64 0, .int .u64 0, .int .u64 0, .int .u64 0, .int .u64 0, .int .i64 0, .int .i64 0, .slice none 0 0]
theorem SB.set4 {w : World} {g : Nat} {s t : S4} (h : SB w g s) : SB ((((w.setCell ⟨g, 0, none⟩ (.int .u64 (t.a : Nat))).setCell ⟨g, 1, none⟩ (.int .u64 (t.b : Nat))).setCell ⟨g, 2, none⟩ (.int .u64 (t.c : Nat))).setCell ⟨g, 3, none⟩ (.int .u64 (t.d : Nat))) g t := CB.set4 h _ _ _ _
/-- What a bracket's items make, turned or not. -/
def BrkP (b : Bool) (t : List Nat) (res : Res PT) : Prop := ∃ f, Brk true .zero t f ∧ res = match f with | .no e => .no e | .ok t r => .ok (setT (if b then t.cpl else t)) r
/-- What is known at a round's head. -/
structure BrL (w wr : World) (rb gs : Nat) (s : ByteArray) (i o n : Nat) (acc : S4) : Prop where
  rs : RS w wr rb s i o
  le : i ≤ n
  zero : CB wr 42 w.heap.size zero8
  set : SB wr gs acc
  fit : acc.fit
theorem BrL.go {w wr w2 : World} {rb gs : Nat} {s : ByteArray} {i j o n : Nat} {acc : S4} (h : BrL w wr rb gs s i o n acc) (k : RS wr w2 rb s j o) (hgn : gs ≠ rb) (hne : w.heap.size ≠ rb) (hj : j ≤ n := by first | omega | assumption) : BrL w w2 rb gs s j o n acc :=
  ⟨h.rs.trans k, hj, CB.chg h.zero k.chg hne, CB.chg h.set k.chg hgn, h.fit⟩
theorem BrL.alloc {w wr : World} {rb gs : Nat} {s : ByteArray} {i o n : Nat} {acc : S4} (h : BrL w wr rb gs s i o n acc) (x : Obj) : BrL w (wr.alloc x) rb gs s i o n acc := ⟨h.rs.alloc x, h.le, CB.alloc h.zero x, CB.alloc h.set x, h.fit⟩
theorem BrL.below {w wr w2 : World} {rb gs : Nat} {s : ByteArray} {i o n : Nat} {acc : S4} (h : BrL w wr rb gs s i o n acc) (hb : Below wr.heap.size wr w2) : BrL w w2 rb gs s i o n acc := ⟨h.rs.below hb, h.le, CB.below h.zero hb, CB.below h.set hb, h.fit⟩
theorem BrL.put {w wr w' : World} {rb gs : Nat} {s : ByteArray} {i o n : Nat} {acc t : S4} (h : BrL w wr rb gs s i o n acc) (k : Chg (fun k => k = gs) wr w') (hc : SB w' gs t) (ht : t.fit) (hg1 : w.heap.size < gs) (hg2 : rb < gs) : BrL w w' rb gs s i o n t :=
  ⟨RS.put h.rs k (by omega) (by omega), h.le, CB.chg h.zero k (by omega), hc, ht⟩
theorem head93 {t : List Nat} : [93].isPrefixOf t = true ↔ t.head? = some 93 := by
  cases t with
  | nil => simp [List.isPrefixOf]
  | cons c r => simp [List.isPrefixOf]; exact eq_comm
set_option maxHeartbeats 800000 in
set_option maxRecDepth 100000 in
theorem p_bracket_go (rb : Nat) (s : ByteArray) (i i0 o : Nat) (w : World) (n : Nat) (b : Bool) (hn : s.size = n) (hbig : n ≤ 1099511627776) (hn32 : n < 4294967281) (hi : i ≤ i0) (hi0 : i0 ≤ n) (hg : Gl w) (hrb : 0 < rb) (hr : RB w rb s i o)
    (htk : ∀ W, RB W rb s i o → Calls Tryz.prog 59 #[.pointer (some ⟨rb, 0, none⟩), .string ⟨#[94]⟩] W fun e w' => e = .returned (.bool b) ∧ RS W w' rb s i0 o) :
    Calls Tryz.prog 105 #[.pointer (some ⟨rb, 0, none⟩)] w fun e w' => TreeRet rb s i o n (fun _ => BrkP b ((bsN s).drop i0)) w e w' := by
  have hrl := CB.lt hr
  have hne : w.heap.size ≠ rb := by omega
  have hl : (bsN s).length = n := by rw [bsN_len, hn]
  have hr1 : RB (w.alloc Z8) rb s i o := CB.alloc hr _
  have HZ : Hid (CB (w.alloc Z8) 42 w.heap.size zero8) := CB.new w 42 zero8
  have HS0 := Lib.hid ((RS.refl hr).alloc Z8)
  have HL := Lib.hid hl
  clear hl
  go_enter Tryz.func105, Tryz.ntmps105
  go_wp2_with (go_at_call 59; (with_reducible refine (htk _ hr1).mono ?_); rintro e w1 ⟨rfl, hs⟩; have HZ1 := Lib.hid (CB.chg HZ.out hs.chg hne); have HS1 := Lib.hid (HS0.out.trans hs))
  have hgs : w.heap.size < w1.heap.size := CB.lt HZ1.out
  have hrs : rb < w1.heap.size := CB.lt hs.box
  obtain ⟨gs, hgs2⟩ : ∃ gs, w1.heap.size = gs := ⟨_, rfl⟩
  have HSB : Hid (SB (w1.alloc Z4) gs .zero) := by rw [← hgs2]; exact CB.new w1 _ S4.zero.cells
  have hg1 : w.heap.size < gs := by omega
  have hg2 : rb < gs := by omega
  rw [hgs2]
  go_loopw [6] (fun fv wr => ∃ (f : Bool) (i : Nat) (acc : S4), fv = .bool f ∧ i0 ≤ i ∧ Hid (BrL w wr rb gs s i o n acc) ∧ Hid (∀ res, Brk f acc ((bsN s).drop i) res → Brk true .zero ((bsN s).drop i0) res)) (fun _ wr => n - posAt wr rb)
  case atStart => exact ⟨true, i0, .zero, rfl, Nat.le_refl _, ⟨HS1.out.alloc _, hi0, CB.alloc HZ1.out _, HSB.out, S4.zero_fit⟩, fun _ h => h⟩
  case round =>
    obtain ⟨f, i, acc, rfl, hii, HL1, HB⟩ := hrel
    have hgn : gs ≠ rb := by omega
    have HG1 : Hid (Gl wr) := hg.chg HL1.out.rs.chg hrb
    have hbox := HL1.out.rs.box
    cases f
    · by_cases hh : ((bsN s).drop i).head? = some 93
      · have h93 : [93].isPrefixOf ((bsN s).drop i) = true := head93.2 hh
        have hp : Hid ((bsN ⟨#[93]⟩).isPrefixOf ((bsN s).drop i) = true) := h93
        obtain ⟨r, hr93⟩ : ∃ r, (bsN s).drop i = 93 :: r := by
          cases hd : (bsN s).drop i with
          | nil => rw [hd] at hh; cases hh
          | cons c r => rw [hd] at hh; simp at hh; exact ⟨r, by rw [hh]⟩
        obtain ⟨q1, _, q3⟩ := drop_cons hr93
        have hi1 : i + 1 ≤ n := by have := HL.out; omega
        have HS : Hid (Brk true .zero ((bsN s).drop i0) (.ok acc ((bsN s).drop (i + 1)))) := HB.out _ (by rw [hr93, q3]; exact .stop acc r)
        clear hh h93 hr93 q1 q3
        cases b
        · skip
          go_wp2_with (first | (go_at_call 59; (with_reducible refine (p_takes_yes rb s _ i o _ n 1 hn hbig hi1 rfl hp.out hbox).mono ?_); rintro e w1b ⟨rfl, hs1⟩; have HLt := Lib.hid (BrL.go HL1.out hs1 hgn hne hi1); have hw := SB.four HLt.out.set) | (go_at_call 106; (with_reducible refine (p_setOf acc _).mono ?_); rintro e w4 ⟨rfl, hb4⟩; have HLe := Lib.hid (HLt.out.below hb4)) | (refine wpl_storeS 42 (.tmp 2) _ rfl rfl (t := 42) (g := w.heap.size) (cur := zero8) (vs := #[.int .i64 1, .int .u64 (acc.a : Nat), .int .u64 (acc.b : Nat), .int .u64 (acc.c : Nat), .int .u64 (acc.d : Nat), .int .i64 0, .int .i64 0, .slice none 0 0]) ?_ ?_ ?_ ?_ ?_ ?_ ?_; exact HLe.out.zero; rfl; rfl; rfl; exact infoNode; rfl; intro w5 hc5 hch5 hsz5))
          refine bodyPost_ret (results_cbT rfl rfl rfl hc5 Tryz.underlying42 infoNode) rfl ?_
          exact ⟨i + 1, o, RS.put HLe.out.rs hch5 (Nat.le_refl _) hne, by omega, hi1, .inl ⟨leafN 1 acc, leafN_new _ _ _ _, rfl, ⟨.ok acc ((bsN s).drop (i + 1)), HS.out, by rw [leafN_pt]; rfl⟩, rfl⟩⟩
        · skip
          go_wp2_with (first | (go_at_call 59; (with_reducible refine (p_takes_yes rb s _ i o _ n 1 hn hbig hi1 rfl hp.out hbox).mono ?_); rintro e w1b ⟨rfl, hs1⟩; have HLt := Lib.hid (BrL.go HL1.out hs1 hgn hne hi1); have hw := SB.four HLt.out.set) | (go_at_call 118; (with_reducible refine (p_others acc HL1.out.fit _).mono ?_); rintro e w2 ⟨T, rfl, hT, hb2⟩; have HLo := Lib.hid (HLt.out.below hb2); have hlt3 := CB.lt HLo.out.set) | (refine wpl_storeS 39 (.tmp 5) _ rfl rfl (t := 39) (g := gs) (cur := acc.cells) (vs := #[.int .u64 (T.a : Nat), .int .u64 (T.b : Nat), .int .u64 (T.c : Nat), .int .u64 (T.d : Nat)]) ?_ ?_ ?_ ?_ ?_ ?_ ?_; exact HLo.out.set; rfl; rfl; rfl; exact infoSet; rfl; intro w3 hc3 hch3 hsz3; have HLq := Lib.hid (HLo.out.put hch3 (t := T) hc3 (by rw [hT.out]; exact S4.of_fit _) hg1 hg2); have hw3 := SB.four HLq.out.set) | (go_at_call 106; (with_reducible refine (p_setOf T _).mono ?_); rintro e w4 ⟨rfl, hb4⟩; have HLe := Lib.hid (HLq.out.below hb4)) | (refine wpl_storeS 42 (.tmp 2) _ rfl rfl (t := 42) (g := w.heap.size) (cur := zero8) (vs := #[.int .i64 1, .int .u64 (T.a : Nat), .int .u64 (T.b : Nat), .int .u64 (T.c : Nat), .int .u64 (T.d : Nat), .int .i64 0, .int .i64 0, .slice none 0 0]) ?_ ?_ ?_ ?_ ?_ ?_ ?_; exact HLe.out.zero; rfl; rfl; rfl; exact infoNode; rfl; intro w5 hc5 hch5 hsz5))
          refine bodyPost_ret (results_cbT rfl rfl rfl hc5 Tryz.underlying42 infoNode) rfl ?_
          exact ⟨i + 1, o, RS.put HLe.out.rs hch5 (Nat.le_refl _) hne, by omega, hi1, .inl ⟨leafN 1 T, leafN_new _ _ _ _, rfl, ⟨.ok acc ((bsN s).drop (i + 1)), HS.out, by rw [leafN_pt]; rw [show T = acc.cpl from hT.out]; rfl⟩, rfl⟩⟩
      · have HH := Lib.hid hh
        have hp : Hid ((bsN ⟨#[93]⟩).isPrefixOf ((bsN s).drop i) = false) := Bool.eq_false_iff.2 fun e => hh (head93.1 e)
        clear hh
        go_wp2_with (first | (go_at_call 59; (with_reducible refine (p_takes_no rb s _ i o _ n hn HL1.out.le hp.out hbox).mono ?_); rintro e w1b ⟨rfl, hs1⟩; have HL1b := Lib.hid (BrL.go HL1.out hs1 hgn hne HL1.out.le); have HG1 := Lib.hid (HG1.out.chg hs1.chg hrb)) | (go_at_call 116; (with_reducible refine (p_item rb s i o _ n hn hbig hn32 HL1b.out.le HG1.out hrb hs1.box).mono ?_); rintro e w2 ⟨j, S, k, hs2, hj, hjn, hS, rfl, hk⟩; have HK := Lib.hid hk; clear hk; have HL2 := Lib.hid (BrL.go HL1b.out hs2 hgn hne); have hw := SB.four HL2.out.set; have hlt3 := CB.lt HL2.out.set; have HL2a := Lib.hid (HL2.out.alloc (.cells S.cells.toArray 39))) | (go_at_call 117; (with_reducible refine (p_both acc S HL2.out.fit hS _).mono ?_); rintro e w3 ⟨T, rfl, hT, hb3⟩; have HL3 := Lib.hid (HL2a.out.below hb3)) | (refine wpl_storeS 42 (.tmp 2) _ rfl rfl (t := 42) (g := w.heap.size) (cur := zero8) (vs := #[.int .i64 0, .int .u64 0, .int .u64 0, .int .u64 0, .int .u64 0, .int .i64 0, .int .i64 0, .slice none 0 0]) ?_ ?_ ?_ ?_ ?_ ?_ ?_; exact HL2a.out.zero; rfl; rfl; rfl; exact infoNode; rfl; intro w4 hc4 hch4 hsz4) | (refine wpl_storeS 39 (.tmp 5) _ rfl rfl (t := 39) (g := gs) (cur := acc.cells) (vs := #[.int .u64 (T.a : Nat), .int .u64 (T.b : Nat), .int .u64 (T.c : Nat), .int .u64 (T.d : Nat)]) ?_ ?_ ?_ ?_ ?_ ?_ ?_; exact HL3.out.set; rfl; rfl; rfl; exact infoSet; rfl; intro w4 hc4 hch4 hsz4))
        · have hk0 : k ≠ 0 := by simpa using (by assumption : (k != 0) = true)
          have hm := (HK.out.resolve_left fun h => hk0 h.1).2
          refine bodyPost_ret (results_cbT rfl rfl rfl hc4 Tryz.underlying42 infoNode) rfl ?_
          exact ⟨j, o, RS.put HL2a.out.rs hch4 (Nat.le_refl _) hne, by omega, hjn, .inr ⟨k, hk0, ⟨.no k.toNat, HB.out _ (.err (.inr HH.out) hm), rfl⟩, rfl⟩⟩
        · have hk0 : k = 0 := by simpa using (by assumption : (k != 0) = false)
          have hm := (HK.out.resolve_right fun h => h.1 hk0).2
          have HN : Hid (BrL w w4 rb gs s j o n (acc.or S)) := by
            have h : BrL w w4 rb gs s j o n T := HL3.out.put hch4 hc4 (by rw [hT.out]; exact S4.or_fit HL2.out.fit hS) hg1 hg2
            rw [hT.out] at h
            exact h
          have HB2 : Hid (∀ res, Brk false (acc.or S) ((bsN s).drop j) res → Brk true .zero ((bsN s).drop i0) res) := fun res hres => HB.out _ (.step (.inr HH.out) hm.2 hres)
          have hpos := HN.out.rs.box.pos
          have hpos0 := HL1.out.rs.box.pos
          have hij := hm.1
          go_wp2
          go_roundw
          case rel => exact ⟨false, j, acc.or S, rfl, by omega, HN.out, HB2.out⟩
          case measure => rw [hpos, hpos0]; omega

    · go_wp2_with (first | (go_at_call 116; (with_reducible refine (p_item rb s i o _ n hn hbig hn32 HL1.out.le HG1.out hrb hbox).mono ?_); rintro e w2 ⟨j, S, k, hs2, hj, hjn, hS, rfl, hk⟩; have HK := Lib.hid hk; clear hk; have HL2 := Lib.hid (BrL.go HL1.out hs2 hgn hne); have hw := SB.four HL2.out.set; have hlt3 := CB.lt HL2.out.set; have HL2a := Lib.hid (HL2.out.alloc (.cells S.cells.toArray 39))) | (go_at_call 117; (with_reducible refine (p_both acc S HL2.out.fit hS _).mono ?_); rintro e w3 ⟨T, rfl, hT, hb3⟩; have HL3 := Lib.hid (HL2a.out.below hb3)) | (refine wpl_storeS 42 (.tmp 2) _ rfl rfl (t := 42) (g := w.heap.size) (cur := zero8) (vs := #[.int .i64 0, .int .u64 0, .int .u64 0, .int .u64 0, .int .u64 0, .int .i64 0, .int .i64 0, .slice none 0 0]) ?_ ?_ ?_ ?_ ?_ ?_ ?_; exact HL2a.out.zero; rfl; rfl; rfl; exact infoNode; rfl; intro w4 hc4 hch4 hsz4) | (refine wpl_storeS 39 (.tmp 5) _ rfl rfl (t := 39) (g := gs) (cur := acc.cells) (vs := #[.int .u64 (T.a : Nat), .int .u64 (T.b : Nat), .int .u64 (T.c : Nat), .int .u64 (T.d : Nat)]) ?_ ?_ ?_ ?_ ?_ ?_ ?_; exact HL3.out.set; rfl; rfl; rfl; exact infoSet; rfl; intro w4 hc4 hch4 hsz4))
      · have hk0 : k ≠ 0 := by simpa using (by assumption : (k != 0) = true)
        have hm := (HK.out.resolve_left fun h => hk0 h.1).2
        refine bodyPost_ret (results_cbT rfl rfl rfl hc4 Tryz.underlying42 infoNode) rfl ?_
        exact ⟨j, o, RS.put HL2a.out.rs hch4 (Nat.le_refl _) hne, by omega, hjn, .inr ⟨k, hk0, ⟨.no k.toNat, HB.out _ (.err (.inl rfl) hm), rfl⟩, rfl⟩⟩
      · have hk0 : k = 0 := by simpa using (by assumption : (k != 0) = false)
        have hm := (HK.out.resolve_right fun h => h.1 hk0).2
        have HN : Hid (BrL w w4 rb gs s j o n (acc.or S)) := by
          have h : BrL w w4 rb gs s j o n T := HL3.out.put hch4 hc4 (by rw [hT.out]; exact S4.or_fit HL2.out.fit hS) hg1 hg2
          rw [hT.out] at h
          exact h
        have HB2 : Hid (∀ res, Brk false (acc.or S) ((bsN s).drop j) res → Brk true .zero ((bsN s).drop i0) res) := fun res hres => HB.out _ (.step (.inl rfl) hm.2 hres)
        have hpos := HN.out.rs.box.pos
        have hpos0 := HL1.out.rs.box.pos
        have hij := hm.1
        go_wp2
        go_roundw
        case rel => exact ⟨false, j, acc.or S, rfl, by omega, HN.out, HB2.out⟩
        case measure => rw [hpos, hpos0]; omega

end Go.Proofs.YthhchpmlljfpjaaGreat
