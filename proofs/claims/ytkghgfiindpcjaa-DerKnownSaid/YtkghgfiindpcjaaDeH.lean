import Derived.Test.YtkghgfiindpcjaaDeG
namespace Go.Proofs.Ytkghgfiindpcjaa
open Go.RowKit

/-! An integer's content: the program's and the reference's reading. -/
theorem intOK_split (b : List Nat) :
    (b.length = 0 ∧ intOK b = false) ∨ (0 < b.length ∧ 128 ≤ at0 b 0 ∧ intOK b = false) ∨ (b.length = 1 ∧ at0 b 0 < 128 ∧ intOK b = true) ∨
    (1 < b.length ∧ 0 < at0 b 0 ∧ at0 b 0 < 128 ∧ intOK b = true) ∨ (1 < b.length ∧ at0 b 0 = 0 ∧ 128 ≤ at0 b 1 ∧ intOK b = true) ∨ (1 < b.length ∧ at0 b 0 = 0 ∧ at0 b 1 < 128 ∧ intOK b = false) := by
  by_cases h0 : b.length = 0
  · exact .inl ⟨h0, by simp [intOK, h0]⟩
  refine .inr ?_
  by_cases h1 : 128 ≤ at0 b 0
  · exact .inl ⟨by omega, h1, by simp [intOK]; intro _ h; omega⟩
  refine .inr ?_
  by_cases h2 : b.length = 1
  · exact .inl ⟨h2, by omega, by simp [intOK, h2]; omega⟩
  refine .inr ?_
  by_cases h3 : at0 b 0 = 0
  · refine .inr ?_
    by_cases h4 : 128 ≤ at0 b 1
    · exact .inl ⟨by omega, h3, h4, by simp [intOK, h3, h4]; omega⟩
    · exact .inr ⟨by omega, h3, by omega, by simp [intOK, h3]; intro _; exact ⟨h2, by omega⟩⟩
  · exact .inl ⟨by omega, by omega, by omega, by simp [intOK, h3]; omega⟩

set_option maxHeartbeats 800000 in
set_option maxRecDepth 100000 in
theorem isContent_any (a : Option Addr) (len cap : Nat) (b : List Nat) (w : World) (hl : b.length = len) (hbig : len ≤ 1099511627776) (hr : Rd .u8 w a b) :
    Calls Try.prog 65 #[.slice a len cap] w fun e w' => e = .returned (.bool (intOK b)) ∧ w = w' := by
  have hsp := intOK_split b
  rw [hl] at hsp
  obtain ⟨R, hR⟩ : ∃ R, R = intOK b := ⟨_, rfl⟩
  rw [← hR] at hsp ⊢
  clear hR
  rcases hsp with ⟨h0, rfl⟩ | hsp
  · subst h0
    clear hr
    go_enter Try.func65, Try.ntmps65
    go_wp2
    go_ret
    exact ⟨rfl, rfl⟩
  · have h1 : 0 < len := by omega
    obtain ⟨bb, off, rfl, hc⟩ := hr.get (by omega)
    have c0 := hc 0 (by omega)
    rw [show b.getD 0 0 = at0 b 0 from rfl] at c0
    have HC := Lib.hid hc
    have HL := Lib.hid hl
    obtain ⟨x, hx⟩ : ∃ x, x = at0 b 0 := ⟨_, rfl⟩
    rw [← hx] at hsp c0
    rw [Nat.add_zero] at c0
    have hq0 : ((len : Int) == 0) = false := by simp; omega
    clear hc hr hl hx
    rcases hsp with ⟨-, h2, rfl⟩ | ⟨h2, h3, rfl⟩ | ⟨h2, h3, h4, rfl⟩ | hsp
    · have hq1 : decide ((128 : Int) ≤ (x : Int)) = true := decide_eq_true (by omega)
      go_enter Try.func65, Try.ntmps65
      go_wp2
      go_ret
      exact ⟨rfl, rfl⟩
    · have hq1 : decide ((128 : Int) ≤ (x : Int)) = false := decide_eq_false (by omega)
      subst h2
      go_enter Try.func65, Try.ntmps65
      go_wp2
      go_ret
      exact ⟨rfl, rfl⟩
    · have hq1 : decide ((128 : Int) ≤ (x : Int)) = false := decide_eq_false (by omega)
      have hq2 : ((len : Int) == 1) = false := by simp; omega
      have hq3 : decide ((0 : Int) < (x : Int)) = true := decide_eq_true (by omega)
      go_enter Try.func65, Try.ntmps65
      go_wp2
      go_ret
      exact ⟨rfl, rfl⟩
    · have hor : 1 < len ∧ x = 0 ∧ ((128 ≤ at0 b 1 ∧ R = true) ∨ (at0 b 1 < 128 ∧ R = false)) := by
        rcases hsp with ⟨h2, h3, h4, h5⟩ | ⟨h2, h3, h4, h5⟩
        · exact ⟨h2, h3, .inl ⟨h4, h5⟩⟩
        · exact ⟨h2, h3, .inr ⟨h4, h5⟩⟩
      obtain ⟨h2, rfl, hor⟩ := hor
      have hq2 : ((len : Int) == 1) = false := by simp; omega
      have c1 := HC.out 1 (by rw [HL.out]; omega)
      rw [show b.getD 1 0 = at0 b 1 from rfl] at c1
      obtain ⟨y, hy⟩ : ∃ y, y = at0 b 1 := ⟨_, rfl⟩
      rw [← hy] at c1 hor
      clear hy hsp
      rcases hor with ⟨h3, rfl⟩ | ⟨h3, rfl⟩
      · have hq4 : decide ((128 : Int) ≤ (y : Int)) = true := decide_eq_true (by omega)
        go_enter Try.func65, Try.ntmps65
        go_wp2
        go_ret
        exact ⟨rfl, rfl⟩
      · have hq4 : decide ((128 : Int) ≤ (y : Int)) = false := decide_eq_false (by omega)
        go_enter Try.func65, Try.ntmps65
        go_wp2
        go_ret
        exact ⟨rfl, rfl⟩

theorem bits_le {n k m : Nat} (h : BitsIs n k) : k ≤ m ↔ n < 2 ^ m := by
  rcases h with ⟨rfl, rfl⟩ | ⟨h0, h1, h2⟩
  · exact ⟨fun _ => Nat.two_pow_pos _, fun _ => Nat.zero_le _⟩
  · constructor
    · intro hk
      exact Nat.lt_of_lt_of_le h2 (Nat.pow_le_pow_right (by decide) hk)
    · intro hn
      refine Nat.le_of_not_lt fun hk => ?_
      have := Nat.pow_le_pow_right (n := 2) (by decide) (show m ≤ k - 1 by omega)
      omega
set_option exponentiation.threshold 10000 in
theorem lim8 : (2 : Nat) ^ 4096 ≤ 18446744073709551616 ^ 128 := by decide
set_option exponentiation.threshold 10000 in
theorem lim64 : (2 : Nat) ^ 4096 = 18446744073709551616 ^ 64 := by decide
/-- What an integer's content tells. -/
def NumTells (b : List Nat) (k : Int) (zs : List Nat) : Prop := intE b = k ∧ (k = 0 → Num zs (bval b)) ∧ (k ≠ 0 → zs = [])
theorem NumTells.one {b : List Nat} {k k' : Int} {zs zs' : List Nat} (h : NumTells b k zs) (g : NumTells b k' zs') : k = k' ∧ zs = zs' := by
  obtain ⟨rfl, h1, h2⟩ := h
  obtain ⟨rfl, g1, g2⟩ := g
  refine ⟨rfl, ?_⟩
  by_cases h : intE b = 0
  · exact (h1 h).unique (g1 h)
  · rw [h2 h, g2 h]
theorem NumTells.no {b : List Nat} (h : intE b ≠ 0) : NumTells b (intE b) [] := ⟨rfl, fun e => absurd e h, fun _ => rfl⟩
theorem NumTells.yes {b : List Nat} {zs : List Nat} (h : intE b = 0) (hn : Num zs (bval b)) : NumTells b 0 zs := ⟨h, fun _ => hn, fun e => absurd rfl e⟩
theorem intE_yes {b : List Nat} (h : intOK b = true) (hb : bval b < 2 ^ 4096) : intE b = 0 := by rw [intE, h, if_pos rfl, if_pos hb]
theorem intE_big {b : List Nat} (h : intOK b = true) (hb : ¬ bval b < 2 ^ 4096) : intE b = 3 := by rw [intE, h, if_pos rfl, if_neg hb]
theorem intE_no {b : List Nat} (h : intOK b = false) : intE b = 73 := by rw [intE, h]; rfl
theorem intE_lt {b : List Nat} (h : intE b = 0) : bval b < 2 ^ 4096 := by
  unfold intE at h
  split at h
  · split at h
    · assumption
    · simp at h
  · simp at h

/-- What reading a number gives. -/
def NofPost (b : List Nat) (w : World) (e : Ending) (w' : World) : Prop :=
  Below w.heap.size w w' ∧ ((∃ a c zs, e = .returned (.slice a zs.length c) ∧ own64 w' w.heap.size (.slice a zs.length c) zs ∧ zs.length ≤ 128 ∧ NumTells b 0 zs) ∨ (∃ k, k ≠ 0 ∧ intE b = k ∧ e = pan k))
set_option maxHeartbeats 800000 in
set_option maxRecDepth 100000 in
theorem numberOf_any (a : Option Addr) (len cap : Nat) (b : List Nat) (w : World) (hl : b.length = len) (hbig : len ≤ 1099511627776) (hcap : len ≤ cap) (h8 : B8 b) (hr : Rd .u8 w a b) :
    Calls Try.prog 42 #[.slice a len cap] w (NofPost b w) := by
  have HL := Lib.hid hl
  have HR := Lib.hid hr
  have H8 := Lib.hid h8
  unfold NofPost
  clear hl hr h8
  cases hk : intOK b with
  | false =>
    have HP := Lib.hid (intE_no hk)
    have HK := Lib.hid hk
    clear hk
    go_enter Try.func42, Try.ntmps42
    go_wp2_with fail
    refine (isContent_any a len cap b _ HL.out hbig HR.out).mono ?_
    rintro e w' ⟨rfl, rfl⟩
    rw [HK.out]
    go_wp2_with fail
    refine (demand_no _ _).mono ?_
    rintro e w' ⟨rfl, rfl⟩
    go_wp2
    exact ⟨rfl, Below.refl _ _, .inr ⟨73, by decide, HP.out, rfl⟩⟩
  | true =>
    have HK := Lib.hid hk
    clear hk
    go_enter Try.func42, Try.ntmps42
    go_wp2_with fail
    refine (isContent_any a len cap b _ HL.out hbig HR.out).mono ?_
    rintro e w' ⟨rfl, rfl⟩
    rw [HK.out]
    go_wp2_with fail
    refine (demand_yes _ _).mono ?_
    rintro e w' ⟨rfl, rfl⟩
    go_wp2_with fail
    refine (from_any a len cap b _ HL.out hbig hcap H8.out HR.out).mono ?_
    intro e w1 h
    obtain ⟨hb1, a1, c1, k, zs, rfl, ho, hzl, hT⟩ := h.told
    have HB := Lib.hid hb1
    have HO := Lib.hid ho
    clear h hb1 ho
    rcases hT with ⟨h1, rfl, rfl⟩ | ⟨h1, rfl, hn⟩
    · have HP := Lib.hid (intE_big HK.out (fun h => by have := lim8; omega))
      clear h1
      go_wp2_with fail
      refine (demand_no _ _).mono ?_
      rintro e w' ⟨rfl, rfl⟩
      go_wp2
      exact ⟨rfl, HB.out, .inr ⟨3, by decide, HP.out, rfl⟩⟩
    · have HN := Lib.hid hn
      have hrd := (own64.rd HO.out).2
      have hrm := (own64.room HO.out).1
      have HRD := Lib.hid hrd
      clear h1 hn hrd
      go_wp2_with fail
      refine (bits_any a1 zs.length c1 zs _ rfl (by omega) hrm HRD.out HN.out.bd).mono ?_
      rintro e w2 ⟨⟨q, rfl, hq, hqs⟩, rfl⟩
      rw [HN.out.vl] at hq
      have hle := bits_le (m := 4096) hq
      clear hq hqs
      by_cases hq4 : q ≤ 4096
      · have hd : decide ((q : Int) ≤ 4096) = true := decide_eq_true (by omega)
        have HP := Lib.hid (NumTells.yes (intE_yes HK.out (hle.1 hq4)) HN.out)
        clear hle hq4
        go_wp2_with fail
        refine (demand_yes _ _).mono ?_
        rintro e w' ⟨rfl, rfl⟩
        go_wp2
        go_ret
        exact ⟨HB.out, .inl ⟨_, _, _, rfl, HO.out, hzl, HP.out⟩⟩
      · have hd : decide ((q : Int) ≤ 4096) = false := decide_eq_false (by omega)
        have HP := Lib.hid (intE_big HK.out (fun h => hq4 (hle.2 h)))
        clear hle hq4
        go_wp2_with fail
        refine (demand_no _ _).mono ?_
        rintro e w' ⟨rfl, rfl⟩
        go_wp2
        exact ⟨rfl, HB.out, .inr ⟨3, by decide, HP.out, rfl⟩⟩

set_option maxHeartbeats 800000 in
set_option maxRecDepth 100000 in
theorem intClo_any (p : Addr) (a : Option Addr) (len cap : Nat) (b : List Nat) (w : World) (hp : w.cell? p = some (.slice a len cap)) (hl : b.length = len) (hbig : len ≤ 1099511627776) (hcap : len ≤ cap) (h8 : B8 b) (hr : Rd .u8 w a b) :
    Calls Try.prog 41 #[.pointer (some p)] w (NofPost b w) := by
  have HL := Lib.hid hl
  have HR := Lib.hid hr
  have H8 := Lib.hid h8
  clear hl hr h8
  go_enter Try.func41, Try.ntmps41
  go_wp2_with fail
  refine (numberOf_any a len cap b _ HL.out hbig hcap H8.out HR.out).mono ?_
  rintro e w1 ⟨hb, ⟨a1, c1, zs, rfl, ho, hz, hT⟩ | ⟨k, hk, hi, rfl⟩⟩
  · have HB := Lib.hid hb
    have HO := Lib.hid ho
    have HT := Lib.hid hT
    clear hb ho hT
    go_wp2
    go_ret
    exact ⟨HB.out, .inl ⟨_, _, _, rfl, HO.out, hz, HT.out⟩⟩
  · have HB := Lib.hid hb
    have HI := Lib.hid hi
    clear hb hi
    go_wp2
    exact ⟨rfl, HB.out, .inr ⟨k, hk, HI.out, rfl⟩⟩
theorem keepN {b : List Nat} {W : World} : KeepE W.heap.size (NofPost b (W.alloc (.cells #[.int .i64 0] 24))) := by
  rintro e w' ⟨hb, hor⟩
  refine ⟨by rw [hb.block _ (by simp)]; exact heap_new _ _, ?_⟩
  rcases hor with ⟨a, c, zs, rfl, _⟩ | ⟨k, _, _, rfl⟩
  · exact .inl ⟨_, rfl⟩
  · exact .inr ⟨_, rfl⟩
set_option maxHeartbeats 800000 in
set_option maxRecDepth 100000 in
theorem integer_any (a : Option Addr) (len cap : Nat) (b : List Nat) (w : World) (hl : b.length = len) (hbig : len ≤ 1099511627776) (hcap : len ≤ cap) (h8 : B8 b) (hr : Rd .u8 w a b) :
    Calls Try.prog 12 #[.slice a len cap] w (Told (NumTells b) w) := by
  have hmf : ∀ (fn : Fn) (first cap : Array Value) (w : World), (Instr.makeFunc fn first cap).run Try.prog w = .ok (.func fn first cap) w := fun _ _ _ _ => rfl
  have HL := Lib.hid hl
  have HR := Lib.hid hr
  have H8 := Lib.hid h8
  clear hl hr h8
  go_enter Try.func12, Try.ntmps12
  go_wp2_with fail
  obtain ⟨W0, hW0⟩ : ∃ W0, W0 = w.alloc (.cells #[.slice a len cap] 22) := ⟨_, rfl⟩
  have hB0 : Below w.heap.size w W0 := by rw [hW0]; exact (Below.refl _ _).alloc (Nat.le_refl _) _
  have hcp : W0.cell? ⟨w.heap.size, 0, none⟩ = some (.slice a len cap) := by rw [hW0]; exact cell_alloc (i := 0) (heap_new _ _)
  rw [← hW0]
  have HB0 := Lib.hid hB0
  have hR2 : Rd .u8 (W0.alloc (.cells #[.int .i64 0] 24)) a b := rd_alloc (HR.out.below hB0) _
  have hcp2 := below_cell ((Below.refl W0.heap.size W0).alloc (Nat.le_refl _) (.cells #[.int .i64 0] 24)) _ _ hcp
  refine (caught_w _ W0 (intClo_any _ a len cap b _ hcp2 HL.out hbig hcap H8.out hR2) keepN).mono ?_
  clear hcp hcp2 hW0 hB0 hR2
  rintro e w1 ⟨e0, w0, ⟨hb, hor⟩, hh⟩
  have hsz : w.heap.size ≤ W0.heap.size := HB0.out.size
  have hb1 : Below w.heap.size w w0 := HB0.out.trans ((((Below.refl W0.heap.size W0).alloc (Nat.le_refl _) (.cells #[.int .i64 0] 24)).mono hsz).trans (hb.mono (by simp; omega)))
  rcases hh with ⟨x, he0, rfl, hw1⟩ | ⟨k, he0, rfl, hw1⟩
  · rcases hor with ⟨a1, c1, zs, he, ho, hz, hT⟩ | ⟨k, hk, hi, he⟩
    · rw [he] at he0
      simp only [Ending.returned.injEq] at he0
      subst he0
      have hb2 : Below w.heap.size w w1 := by
        rw [hw1]
        exact hb1.setCell (p := ⟨W0.heap.size, 0, none⟩) hsz _
      have ho2 : own64 w1 w.heap.size (.slice a1 zs.length c1) zs := by
        rw [hw1]
        refine ((Chg.refl (fun k => k = W0.heap.size) w0).setCell rfl _).owns (owns_base ho (by simp; omega)) fun k hk => ?_
        have := World.ownsRow.lt ho k hk
        simp at this
        omega
      have HB2 := Lib.hid hb2
      have HO2 := Lib.hid ho2
      have HT := Lib.hid hT
      clear hT hb2 ho2 ho hw1 hb hb1 HB0 he
      go_wp2
      go_ret2
      exact ⟨HB2.out, _, _, _, _, rfl, HO2.out, hz, HT.out⟩
    · rw [he] at he0
      cases he0
  · rcases hor with ⟨a1, c1, zs, he, ho, hz, hT⟩ | ⟨k', hk, hi, he⟩
    · rw [he] at he0
      cases he0
    · rw [he] at he0
      simp only [pan, Ending.panicked.injEq, List.cons.injEq, PanicEntry.mk.injEq, Value.iface.injEq, Value.int.injEq, true_and, and_true] at he0
      subst he0
      have hb2 : Below w.heap.size w w1 := by
        rw [hw1]
        exact hb1.setCell (p := ⟨W0.heap.size, 0, none⟩) hsz _
      have HP := Lib.hid (NumTells.no (b := b) (by rw [hi]; exact hk))
      rw [hi] at HP
      have HB2 := Lib.hid hb2
      clear hi he hb2 hw1 hb hb1 HB0
      go_wp2
      go_ret2
      exact ⟨HB2.out, none, 0, _, [], rfl, World.ownsRow_nil _ _ _ _, by decide, HP.out⟩
end Go.Proofs.Ytkghgfiindpcjaa
