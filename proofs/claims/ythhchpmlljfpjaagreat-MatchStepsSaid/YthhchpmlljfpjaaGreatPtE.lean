import Derived.Test.YthhchpmlljfpjaaGreatPtA
namespace Go.Proofs.YthhchpmlljfpjaaGreat
open Go.RowKit

/-! The program's reader: a text, a place, how many parentheses are open. -/
theorem Chg.drewN {S : Nat → Prop} {a w : World} (h : Chg S a w) (n : Nat) : Chg S a (w.drewN n) := ⟨h.os, h.tape, h.output, h.size, h.block⟩
theorem CB.drewN {w : World} {t : TypeId} {g : Nat} {cs : List Value} (h : CB w t g cs) (n : Nat) : CB (w.drewN n) t g cs := h
/-- The reader at a place. -/
def RB (w : World) (rb : Nat) (s : ByteArray) (i o : Nat) : Prop := CB w 84 rb [.string s, .int .i64 (i : Nat), .int .i64 (o : Nat)]
theorem RB.cells {w : World} {rb : Nat} {s : ByteArray} {i o : Nat} (h : RB w rb s i o) : w.cell? ⟨rb, 0, none⟩ = some (.string s) ∧ w.cell? ⟨rb, 1, none⟩ = some (.int .i64 (i : Nat)) ∧ w.cell? ⟨rb, 2, none⟩ = some (.int .i64 (o : Nat)) ∧
    w.frozen? ⟨rb, 1, none⟩ = false ∧ w.frozen? ⟨rb, 2, none⟩ = false := ⟨CB.cell h 0, CB.cell h 1, CB.cell h 2, CB.free h 1, CB.free h 2⟩
theorem RB.at {w : World} {rb : Nat} {s : ByteArray} {i o : Nat} (h : RB w rb s i o) (j : Nat) {v : Value} (hv : v = .int .i64 (j : Nat)) : RB (w.setCell ⟨rb, 1, none⟩ v) rb s j o := by
  subst hv
  exact CB.set h 1 _
theorem RB.open {w : World} {rb : Nat} {s : ByteArray} {i o : Nat} (h : RB w rb s i o) (j : Nat) {v : Value} (hv : v = .int .i64 (j : Nat)) : RB (w.setCell ⟨rb, 2, none⟩ v) rb s i j := by
  subst hv
  exact CB.set h 2 _
/-- The reader has gone on to a place; nothing else that was there has changed. -/
structure RS (w0 w : World) (rb : Nat) (s : ByteArray) (i o : Nat) : Prop where
  box : RB w rb s i o
  chg : Chg (fun k => k = rb) w0 w
theorem RS.refl {w : World} {rb : Nat} {s : ByteArray} {i o : Nat} (h : RB w rb s i o) : RS w w rb s i o := ⟨h, Chg.refl _ _⟩
theorem RS.trans {a b c : World} {rb : Nat} {s : ByteArray} {i o j p : Nat} (h : RS a b rb s i o) (k : RS b c rb s j p) : RS a c rb s j p := ⟨k.box, h.chg.trans k.chg⟩
theorem RS.drewN {a b : World} {rb : Nat} {s : ByteArray} {i o : Nat} (h : RS a b rb s i o) (n : Nat) : RS a (b.drewN n) rb s i o := ⟨h.box, h.chg.drewN n⟩
theorem RS.alloc {a b : World} {rb : Nat} {s : ByteArray} {i o : Nat} (h : RS a b rb s i o) (x : Obj) : RS a (b.alloc x) rb s i o := ⟨CB.alloc h.box x, h.chg.alloc x⟩

theorem hasPre (a p : ByteArray) : Lib.hasPrefix a.data.toList p.data.toList = (bsN p).isPrefixOf (bsN a) := by
  unfold Lib.hasPrefix bsN
  generalize p.data.toList = x
  generalize a.data.toList = y
  induction x generalizing y with
  | nil => simp
  | cons c t ih =>
    cases y with
    | nil => simp
    | cons d u =>
      simp only [List.isPrefixOf, List.map_cons, ih]
      congr 1
      rw [Bool.eq_iff_iff]
      simp only [beq_iff_eq]
      exact UInt8.toNat_inj.symm
theorem bsN_from (s : ByteArray) (i : Nat) : bsN (s.extract i s.size) = (bsN s).drop i := by
  rw [bsN_extract, List.take_of_length_le]
  rw [List.length_drop, bsN_len]
  omega

theorem p_ended (rb : Nat) (s : ByteArray) (i o : Nat) (w : World) (n : Nat) (hn : s.size = n) (hr : RB w rb s i o) :
    Calls Tryz.prog 45 #[.pointer (some ⟨rb, 0, none⟩)] w fun e w' => e = .returned (.bool (decide (i = n))) ∧ ∃ k, w' = w.drewN k := by
  obtain ⟨h0, h1, _⟩ := hr.cells
  have hd : ((i : Int) == (n : Int)) = decide (i = n) := by rw [Bool.eq_iff_iff]; simp; omega
  go_enter Tryz.func45, Tryz.ntmps45
  go_wp2
  go_quiet (fail)
  go_wp2
  go_ret
  exact ⟨rfl, _, rfl⟩
theorem q_ended {rb : Nat} {s : ByteArray} {i o : Nat} {w : World} {k n : Nat} {b : Bool} (hn : s.size = n) (hr : RB w rb s i o) (hb : decide (i = n) = b) :
    Calls Tryz.prog 45 #[.pointer (some ⟨rb, 0, none⟩)] (w.drewN k) fun e w' => e = .returned (.bool b) ∧ ∃ m, w' = w.drewN m := by
  subst hb
  exact Calls.quiet_of (p_ended rb s i o (w.drewN k) n hn (CB.drewN hr k))
theorem p_stands (rb : Nat) (s p : ByteArray) (i o : Nat) (w : World) (n : Nat) (hn : s.size = n) (hi : i ≤ n) (hr : RB w rb s i o) :
    Calls Tryz.prog 79 #[.pointer (some ⟨rb, 0, none⟩), .string p] w fun e w' => e = .returned (.bool ((bsN p).isPrefixOf ((bsN s).drop i))) ∧ ∃ k, w' = w.drewN k := by
  obtain ⟨h0, h1, _⟩ := hr.cells
  have c1 : (0 : Int) ≤ (i : Int) := by omega
  have c2 : (i : Int) ≤ (s.size : Int) := by omega
  have c3 : i ≤ s.size := by omega
  go_enter Tryz.func79, Tryz.ntmps79
  go_wp2
  go_quiet ((go_at_call 92; exact Calls.quiet_of_same (Tryz.strings_HasPrefix _ _ _)))
  go_wp2
  go_ret
  refine ⟨?_, _, rfl⟩
  rw [hasPre, ← bsN_from, hn]
  rfl
theorem p_takes_yes (rb : Nat) (s p : ByteArray) (i o : Nat) (w : World) (n k : Nat) (hn : s.size = n) (hbig : n ≤ 1099511627776) (hi : i + k ≤ n) (hk : p.size = k) (hp : (bsN p).isPrefixOf ((bsN s).drop i) = true) (hr : RB w rb s i o) :
    Calls Tryz.prog 59 #[.pointer (some ⟨rb, 0, none⟩), .string p] w fun e w' => e = .returned (.bool true) ∧ RS w w' rb s (i + k) o := by
  obtain ⟨h0, h1, h2, f1, f2⟩ := hr.cells
  go_enter Tryz.func59, Tryz.ntmps59
  go_wp2_with (go_at_call 79; refine (p_stands rb s p i o _ n hn (by omega) hr).mono ?_; rintro e w' ⟨rfl, m, rfl⟩; rw [hp])
  go_ret
  exact ⟨rfl, RB.at (CB.drewN hr m) (i + k) (by go_num), Chg.setCell (S := fun k => k = rb) ((Chg.refl _ _).drewN m) (p := ⟨rb, 1, none⟩) rfl _⟩
theorem p_takes_no (rb : Nat) (s p : ByteArray) (i o : Nat) (w : World) (n : Nat) (hn : s.size = n) (hi : i ≤ n) (hp : (bsN p).isPrefixOf ((bsN s).drop i) = false) (hr : RB w rb s i o) :
    Calls Tryz.prog 59 #[.pointer (some ⟨rb, 0, none⟩), .string p] w fun e w' => e = .returned (.bool false) ∧ RS w w' rb s i o := by
  obtain ⟨h0, h1, h2, f1, f2⟩ := hr.cells
  go_enter Tryz.func59, Tryz.ntmps59
  go_wp2_with (go_at_call 79; refine (p_stands rb s p i o _ n hn (by omega) hr).mono ?_; rintro e w' ⟨rfl, m, rfl⟩; rw [hp])
  go_ret
  exact ⟨rfl, (RS.refl hr).drewN m⟩
/-- A letter at a place. -/
theorem drop_at {l : List Nat} {i : Nat} (h : i < l.length) : l.drop i = at0 l i :: l.drop (i + 1) := by
  rw [at0_getElem h]; exact List.drop_eq_getElem_cons h
theorem p_take_yes (rb : Nat) (s : ByteArray) (i o : Nat) (w : World) (n c : Nat) (hn : s.size = n) (hbig : n ≤ 1099511627776) (hi : i < n) (hc : at0 (bsN s) i = c) (hr : RB w rb s i o) :
    Calls Tryz.prog 103 #[.pointer (some ⟨rb, 0, none⟩)] w fun e w' => e = .returned (.tuple #[.int .u8 (c : Nat), .bool true]) ∧ RS w w' rb s (i + 1) o := by
  obtain ⟨h0, h1, h2, f1, f2⟩ := hr.cells
  have x1 : ∀ W, (Instr.index 9 (.string s) (.int .i64 (i : Int))).run Tryz.prog W = .ok (.int .u8 (c : Nat)) W := idx_str 9 Tryz.underlying9 s i c (by omega) hc
  have hd : decide (i = n) = false := decide_eq_false (by omega)
  have c1 : (0 : Int) ≤ (i : Int) := by omega
  have c2 : (i : Int) < (s.size : Int) := by omega
  clear hc
  go_enter Tryz.func103, Tryz.ntmps103
  go_wp2_with (go_at_call 45; refine (p_ended rb s i o _ n hn hr).mono ?_; rintro e w' ⟨rfl, m, rfl⟩; rw [hd])
  have y0 : (w.drewN m).cell? ⟨rb, 0, none⟩ = some (.string s) := h0
  have y1 : (w.drewN m).cell? ⟨rb, 1, none⟩ = some (.int .i64 (i : Nat)) := h1
  go_quiet (fail)
  go_wp2
  go_ret2
  exact ⟨rfl, RB.at (CB.drewN hr _) (i + 1) (by go_num), Chg.setCell (S := fun k => k = rb) ((Chg.refl _ _).drewN _) (p := ⟨rb, 1, none⟩) rfl _⟩
theorem p_take_no (rb : Nat) (s : ByteArray) (i o : Nat) (w : World) (hi : i = s.size) (hr : RB w rb s i o) :
    Calls Tryz.prog 103 #[.pointer (some ⟨rb, 0, none⟩)] w fun e w' => e = .returned (.tuple #[.int .u8 0, .bool false]) ∧ RS w w' rb s i o := by
  have hd : decide (i = s.size) = true := decide_eq_true hi
  clear hi
  go_enter Tryz.func103, Tryz.ntmps103
  go_wp2_with (go_at_call 45; refine (p_ended rb s i o _ s.size rfl hr).mono ?_; rintro e w' ⟨rfl, m, rfl⟩; rw [hd])
  go_ret2
  exact ⟨rfl, (RS.refl hr).drewN m⟩
/-- Where a letter stands among some. -/
theorem idxByte_some (l : List UInt8) (c : Nat) (hc : c < 256) : decide (0 ≤ Lib.indexByte l ((c : Int).toNat.toUInt8)) = decide (c ∈ l.map UInt8.toNat) := by
  rw [Int.toNat_natCast]
  induction l with
  | nil => rfl
  | cons b t ih =>
    have hge := Lib.indexByte_ge t c.toUInt8
    have hb : (b == c.toUInt8) = decide (c = b.toNat) := by
      rw [Bool.eq_iff_iff]
      simp only [beq_iff_eq, decide_eq_true_eq]
      constructor
      · rintro rfl
        exact (UInt8.toNat_ofNat_of_lt' hc).symm
      · rintro rfl
        exact (UInt8.ofNat_toNat).symm
    unfold Lib.indexByte
    rw [hb]
    by_cases h : c = b.toNat
    · simp [h]
    · simp only [h, decide_false, Bool.false_eq_true, if_false, List.map_cons, List.mem_cons, false_or]
      rw [← ih]
      by_cases h2 : Lib.indexByte t c.toUInt8 = -1
      · simp [h2]
      · simp only [beq_iff_eq, h2, if_false]
        rw [Bool.eq_iff_iff]
        simp only [decide_eq_true_eq]
        omega
theorem ret_bool {a b : Bool} (h : a = b) : Ending.returned (.bool a) = .returned (.bool b) := by rw [h]
theorem p_repeats (rb : Nat) (s : ByteArray) (i o : Nat) (w : World) (n : Nat) (hn : s.size = n) (hbig : n ≤ 1099511627776) (hi : i ≤ n) (b : Bool) (hb : b = true ↔ hd isRep ((bsN s).drop i)) (hr : RB w rb s i o) :
    Calls Tryz.prog 94 #[.pointer (some ⟨rb, 0, none⟩)] w fun e w' => e = .returned (.bool b) ∧ ∃ k, w' = w.drewN k := by
  obtain ⟨h0, h1, h2, f1, f2⟩ := hr.cells
  have c1 : (0 : Int) ≤ (i : Int) := by omega
  by_cases hlt : i < n
  · have hd : decide (i = n) = false := decide_eq_false (by omega)
    obtain ⟨c, hc⟩ : ∃ c, at0 (bsN s) i = c := ⟨_, rfl⟩
    have x1 : ∀ W, (Instr.index 9 (.string s) (.int .i64 (i : Int))).run Tryz.prog W = .ok (.int .u8 (c : Nat)) W := idx_str 9 Tryz.underlying9 s i c (by omega) hc
    have c2 : (i : Int) < (s.size : Int) := by omega
    have hc8 : c < 256 := by rw [← hc]; exact (bsN_8 s).at0 i
    have hx := idxByte_some [42, 43, 63, 123] c hc8
    have hbb : b = decide (c ∈ ([42, 43, 63, 123] : List Nat)) := by
      rw [drop_at (by rw [bsN_len]; omega), hc] at hb
      rw [Bool.eq_iff_iff, hb]
      simp [Proofs.YthhchpmlljfpjaaGreat.hd, isRep]
    have hx2 : Hid (decide (0 ≤ Lib.indexByte [42, 43, 63, 123] (UInt8.ofNat c)) = b) := hx.trans hbb.symm
    clear hb hc hx hbb
    go_enter Tryz.func94, Tryz.ntmps94
    go_wp2
    go_quiet ((first | (go_at_call 45; exact q_ended hn hr hd) | (go_at_call 109; exact Calls.quiet_of_same (Tryz.strings_IndexByte _ _ _))))
    go_wp2
    go_ret
    exact ⟨ret_bool hx2.out, _, rfl⟩
  · have hd : decide (i = n) = true := decide_eq_true (by omega)
    have hbb : b = false := by
      cases b with
      | false => rfl
      | true =>
        have := hb.1 rfl
        rw [List.drop_eq_nil_of_le (by rw [bsN_len]; omega)] at this
        exact this.elim
    subst hbb
    clear hb
    go_enter Tryz.func94, Tryz.ntmps94
    go_wp2
    go_quiet ((go_at_call 45; exact q_ended hn hr hd))
    go_wp2
    go_ret
    exact ⟨rfl, _, rfl⟩
end Go.Proofs.YthhchpmlljfpjaaGreat
