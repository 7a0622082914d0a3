import Derived.Test.YtkghgfiindpcjaaDeM
namespace Go.Proofs.Ytkghgfiindpcjaa
open Go.RowKit

/-! The program's Encode. -/
theorem ItemB.len {t : Nat} {c b : List Nat} (h : ItemB t c b) : b.length ≤ c.length + 6 := by
  obtain ⟨l, hl, rfl⟩ := h
  have := hl.len
  simp
  omega
/-- A content, an item of it, in memory. -/
def EC (w : World) (n : Nat) (v : Value) (W : World) : Prop := ∃ a c l, v = .slice a (List.length l) c ∧ own8 W w.heap.size v l ∧ n < 2 ^ 4096 ∧ IntB n l ∧ l.length ≤ 1025
def EI (w : World) (n : Nat) (v : Value) (W : World) : Prop := ∃ a c x l, v = .slice a (List.length x) c ∧ own8 W w.heap.size v x ∧ n < 2 ^ 4096 ∧ IntB n l ∧ ItemB 2 l x ∧ x.length ≤ 1031
def Both (n e : Nat) (y : List Nat) : Prop := n < 2 ^ 4096 ∧ e < 2 ^ 4096 ∧ y.length ≤ 2062 ∧ ∃ cn ce xn xe, IntB n cn ∧ IntB e ce ∧ ItemB 2 cn xn ∧ ItemB 2 ce xe ∧ y = xn ++ xe
def EncSp (w : World) (g : Nat) (aN : Option Addr) (lN cN : Nat) (aE : Option Addr) (lE cE : Nat) (n e : Nat) (j : Nat) (v : Value) (W : World) : Prop :=
  match j with
  | 0 => v = .pointer (some ⟨g, 0, none⟩)
  | 1 => v = .slice aN lN cN
  | 2 => EC w n v W
  | 3 => EI w n v W
  | 4 => v = .pointer (some ⟨g, 1, none⟩)
  | 5 => v = .slice aE lE cE
  | 6 => EC w e v W
  | 7 => EI w e v W
  | 8 => ∃ g' L, v = .slice (some ⟨g', 0, none⟩) 2 2 ∧ PartsAt W g' L ∧ L.length = 2 ∧ Both n e (flatL L)
  | 9 => ∃ a c l, v = .slice a (List.length l) c ∧ own8 W w.heap.size v l ∧ Both n e l
  | _ => ∃ a c l, v = .slice a (List.length l) c ∧ own8 W w.heap.size v l ∧ n < 2 ^ 4096 ∧ e < 2 ^ 4096 ∧ KeyB n e l
theorem EncSp.below {w : World} {g : Nat} {aN : Option Addr} {lN cN : Nat} {aE : Option Addr} {lE cE : Nat} {n e : Nat} (j : Nat) (v : Value) (W W' : World) (h : EncSp w g aN lN cN aE lE cE n e j v W) (hb : Below W.heap.size W W') : EncSp w g aN lN cN aE lE cE n e j v W' := by
  unfold EncSp at *
  split at h <;> first
    | exact h
    | (obtain ⟨a, c, l, ev, ho, hr⟩ := h; exact ⟨a, c, l, ev, own8.under ho hb, hr⟩)
    | (obtain ⟨a, c, x, l, ev, ho, hr⟩ := h; exact ⟨a, c, x, l, ev, own8.under ho hb, hr⟩)
    | (obtain ⟨g', L, ev, hP, hr⟩ := h; exact ⟨g', L, ev, hP.below hb, hr⟩)
/-- What writing a key gives. -/
def EncCPost (n k : Nat) (w : World) (e : Ending) (w' : World) : Prop :=
  Below w.heap.size w w' ∧ ((n < 2 ^ 4096 ∧ k < 2 ^ 4096 ∧ ∃ a c b, e = .returned (.slice a (List.length b) c) ∧ own8 w' w.heap.size (.slice a (List.length b) c) b ∧ KeyB n k b) ∨ (¬ (n < 2 ^ 4096 ∧ k < 2 ^ 4096) ∧ e = pan 3))

set_option maxHeartbeats 1600000 in
set_option maxRecDepth 100000 in
theorem encClo_any (g : Nat) (aN : Option Addr) (lN cN : Nat) (Ns : List Nat) (aE : Option Addr) (lE cE : Nat) (Es : List Nat) (w : World) (h0 : w.cell? ⟨g, 0, none⟩ = some (.slice aN lN cN)) (h1 : w.cell? ⟨g, 1, none⟩ = some (.slice aE lE cE))
    (hlN : Ns.length = lN) (hbN : lN ≤ 1048576) (hcN : lN ≤ cN) (hrN : Rd .u64 w aN Ns) (bxN : Bd Ns) (hlE : Es.length = lE) (hbE : lE ≤ 1048576) (hcE : lE ≤ cE) (hrE : Rd .u64 w aE Es) (bxE : Bd Es) :
    Calls Try.prog 51 #[.pointer (some ⟨g, 0, none⟩)] w (EncCPost (val Ns) (val Es) w) := by
  have HLN := Lib.hid hlN
  have HRN := Lib.hid hrN
  have HXN := Lib.hid bxN
  have HLE := Lib.hid hlE
  have HRE := Lib.hid hrE
  have HXE := Lib.hid bxE
  unfold EncCPost
  clear hlN hrN bxN hlE hrE bxE
  go_enter Try.func51, Try.ntmps51
  go_wp2_with fail
  refine wp_region_sp (by kernel_rfl) (by kernel_rfl) (fun W => Below w.heap.size w W) (EncSp w g aN lN cN aE lE cE (val Ns) (val Es))
    (fun W W' h hb => h.trans (hb.mono h.size)) (fun j u W W' _ h hb => EncSp.below j u W W' h hb) (Below.refl _ _).drew ?step ?fin
  case step =>
    intro i op L val a W ho hdep hH hi hsp K' hK'
    have hil : i < 12 := (Array.getElem?_eq_some_iff.1 ho).1
    have hcs : i = 0 ∨ i = 1 ∨ i = 2 ∨ i = 3 ∨ i = 4 ∨ i = 5 ∨ i = 6 ∨ i = 7 ∨ i = 8 ∨ i = 9 ∨ i = 10 ∨ i = 11 := by omega
    have HSP := Lib.hid hsp
    have HDEP := Lib.hid hdep
    clear hsp hdep
    rcases hcs with rfl | rfl | rfl | rfl | rfl | rfl | rfl | rfl | rfl | rfl | rfl | rfl
    · obtain rfl := Option.some.inj ho
      have e0 := (hH.rest 0 (fun j hj _ => (of_decide_eq_true (by kernel_rfl) : ∀ j, j < 12 → dstAt _ j ≠ some 0) j hj)).trans (rfl : _ = some (Value.pointer (some ⟨g, 0, none⟩)))
      go_simp
      exact hK'.out _ _ (Below.refl _ _) rfl
    · obtain rfl := Option.some.inj ho
      have hL0 : L 0 = true := HDEP.out ⟨0, .data⟩ (by simp) rfl
      have e0 := hH.own 0 _ (by decide) rfl hL0 (of_decide_eq_true (by kernel_rfl))
      rw [show val 0 = Value.pointer (some ⟨g, 0, none⟩) from HSP.out 0 (by decide) hL0] at e0
      have hcc := below_cell hi _ _ h0
      go_simp
      exact hK'.out _ _ (Below.refl _ _) rfl
    · obtain rfl := Option.some.inj ho
      have hL1 : L 1 = true := HDEP.out ⟨1, .data⟩ (by simp) rfl
      have e1 := hH.own 1 _ (by decide) rfl hL1 (of_decide_eq_true (by kernel_rfl))
      rw [show val 1 = Value.slice aN lN cN from HSP.out 1 (by decide) hL1] at e1
      go_simp
      refine (contentOf_any aN lN cN Ns _ HLN.out hbN hcN (HRN.out.below hi) HXN.out).mono ?_
      rintro e w3 ⟨hb3, ⟨hn, v, l, rfl, hol, hib, hll⟩ | ⟨hn, rfl⟩⟩
      · obtain ⟨a1, c1, rfl, -, -, -, -⟩ := own8_open hol
        exact hK'.out _ _ hb3 ⟨a1, c1, l, rfl, owns_base hol hi.size, hn, hib, hll⟩
      · exact ⟨hH.defs, hi.trans (hb3.mono hi.size), .inr ⟨fun h => hn h.1, rfl⟩⟩
    · obtain rfl := Option.some.inj ho
      have hL2 : L 2 = true := HDEP.out ⟨2, .data⟩ (by simp) rfl
      have e2 := hH.own 2 _ (by decide) rfl hL2 (of_decide_eq_true (by kernel_rfl))
      have s2 : EC w (Go.Proofs.Ytkghgfiindpcjaa.val Ns) (val 2) W := HSP.out 2 (by decide) hL2
      obtain ⟨a1, c1, l, ev, ho1, hn1, hib, hll⟩ := s2
      rw [ev] at e2 ho1
      obtain ⟨a2, c2, e2, -, hr2, hn2, -⟩ := own8_open ho1
      simp only [Value.slice.injEq, true_and] at e2
      obtain ⟨rfl, rfl⟩ := e2
      have HRZ := Lib.hid hr2
      have HIB := Lib.hid hib
      have HNO := Lib.hid hn2
      have HLL := Lib.hid hll
      clear ho1 hr2 hib hn2 hll
      obtain ⟨q, hq⟩ : ∃ q, q = l.length := ⟨_, rfl⟩
      have HQ := Lib.hid hq
      rw [← hq] at e2
      clear hq
      go_simp
      refine (laid_any 2 a1 q c1 l _ HQ.out.symm (by have := HLL.out; have := HQ.out; omega) HNO.out HRZ.out).mono ?_
      rintro e w3 ⟨hb3, v, x, rfl, hox, hxi⟩
      obtain ⟨a3, c3, rfl, -, -, -, -⟩ := own8_open hox
      exact hK'.out _ _ hb3 ⟨a3, c3, x, l, rfl, owns_base hox hi.size, hn1, HIB.out, hxi, by have := hxi.len; have := HLL.out; omega⟩
    · obtain rfl := Option.some.inj ho
      have e0 := (hH.rest 0 (fun j hj _ => (of_decide_eq_true (by kernel_rfl) : ∀ j, j < 12 → dstAt _ j ≠ some 0) j hj)).trans (rfl : _ = some (Value.pointer (some ⟨g, 0, none⟩)))
      go_simp
      exact hK'.out _ _ (Below.refl _ _) rfl
    · obtain rfl := Option.some.inj ho
      have hL4 : L 4 = true := HDEP.out ⟨4, .data⟩ (by simp) rfl
      have e4 := hH.own 4 _ (by decide) rfl hL4 (of_decide_eq_true (by kernel_rfl))
      rw [show val 4 = Value.pointer (some ⟨g, 1, none⟩) from HSP.out 4 (by decide) hL4] at e4
      have hcc := below_cell hi _ _ h1
      go_simp
      exact hK'.out _ _ (Below.refl _ _) rfl
    · obtain rfl := Option.some.inj ho
      have hL5 : L 5 = true := HDEP.out ⟨5, .data⟩ (by simp) rfl
      have e5 := hH.own 5 _ (by decide) rfl hL5 (of_decide_eq_true (by kernel_rfl))
      rw [show val 5 = Value.slice aE lE cE from HSP.out 5 (by decide) hL5] at e5
      go_simp
      refine (contentOf_any aE lE cE Es _ HLE.out hbE hcE (HRE.out.below hi) HXE.out).mono ?_
      rintro e w3 ⟨hb3, ⟨hn, v, l, rfl, hol, hib, hll⟩ | ⟨hn, rfl⟩⟩
      · obtain ⟨a1, c1, rfl, -, -, -, -⟩ := own8_open hol
        exact hK'.out _ _ hb3 ⟨a1, c1, l, rfl, owns_base hol hi.size, hn, hib, hll⟩
      · exact ⟨hH.defs, hi.trans (hb3.mono hi.size), .inr ⟨fun h => hn h.2, rfl⟩⟩
    · obtain rfl := Option.some.inj ho
      have hL6 : L 6 = true := HDEP.out ⟨6, .data⟩ (by simp) rfl
      have e6 := hH.own 6 _ (by decide) rfl hL6 (of_decide_eq_true (by kernel_rfl))
      have s6 : EC w (Go.Proofs.Ytkghgfiindpcjaa.val Es) (val 6) W := HSP.out 6 (by decide) hL6
      obtain ⟨a1, c1, l, ev, ho1, hn1, hib, hll⟩ := s6
      rw [ev] at e6 ho1
      obtain ⟨a2, c2, e2, -, hr2, hn2, -⟩ := own8_open ho1
      simp only [Value.slice.injEq, true_and] at e2
      obtain ⟨rfl, rfl⟩ := e2
      have HRZ := Lib.hid hr2
      have HIB := Lib.hid hib
      have HNO := Lib.hid hn2
      have HLL := Lib.hid hll
      clear ho1 hr2 hib hn2 hll
      obtain ⟨q, hq⟩ : ∃ q, q = l.length := ⟨_, rfl⟩
      have HQ := Lib.hid hq
      rw [← hq] at e6
      clear hq
      go_simp
      refine (laid_any 2 a1 q c1 l _ HQ.out.symm (by have := HLL.out; have := HQ.out; omega) HNO.out HRZ.out).mono ?_
      rintro e w3 ⟨hb3, v, x, rfl, hox, hxi⟩
      obtain ⟨a3, c3, rfl, -, -, -, -⟩ := own8_open hox
      exact hK'.out _ _ hb3 ⟨a3, c3, x, l, rfl, owns_base hox hi.size, hn1, HIB.out, hxi, by have := hxi.len; have := HLL.out; omega⟩
    · obtain rfl := Option.some.inj ho
      have hL3 : L 3 = true := HDEP.out ⟨3, .data⟩ (by simp) rfl
      have e3 := hH.own 3 _ (by decide) rfl hL3 (of_decide_eq_true (by kernel_rfl))
      have s3 : EI w (Go.Proofs.Ytkghgfiindpcjaa.val Ns) (val 3) W := HSP.out 3 (by decide) hL3
      obtain ⟨a1, c1, x1, l1, ev1, ho1, hn1, hib1, hit1, hlx1⟩ := s3
      have hL7 : L 7 = true := HDEP.out ⟨7, .data⟩ (by simp) rfl
      have e7 := hH.own 7 _ (by decide) rfl hL7 (of_decide_eq_true (by kernel_rfl))
      have s7 : EI w (Go.Proofs.Ytkghgfiindpcjaa.val Es) (val 7) W := HSP.out 7 (by decide) hL7
      obtain ⟨a2, c2, x2, l2, ev2, ho2, hn2, hib2, hit2, hlx2⟩ := s7
      rw [ev1] at e3 ho1
      rw [ev2] at e7 ho2
      obtain ⟨a3, c3, q3, -, hr1, hno1, -⟩ := own8_open ho1
      obtain ⟨a4, c4, q4, -, hr2, hno2, -⟩ := own8_open ho2
      simp only [Value.slice.injEq, true_and] at q3 q4
      obtain ⟨rfl, rfl⟩ := q3
      obtain ⟨rfl, rfl⟩ := q4
      have hP := parts2 (w := W) (T := 22) (p := (a1, c1, x1)) (q := (a2, c2, x2)) ⟨hr1, hno1⟩ ⟨hr2, hno2⟩
      have HP := Lib.hid hP
      have HBO : Hid (Both (Go.Proofs.Ytkghgfiindpcjaa.val Ns) (Go.Proofs.Ytkghgfiindpcjaa.val Es) (flatL [(a1, c1, x1), (a2, c2, x2)])) := ⟨hn1, hn2, by simp [flatL]; omega, l1, l2, x1, x2, hib1, hib2, hit1, hit2, by simp [flatL]⟩
      clear hP hr1 hr2 hno1 hno2 ho1 ho2 hib1 hib2 hit1 hit2
      go_simp
      exact hK'.out _ _ ((Below.refl _ _).alloc (Nat.le_refl _) _) ⟨_, _, rfl, HP.out, rfl, HBO.out⟩
    · obtain rfl := Option.some.inj ho
      have hL8 : L 8 = true := HDEP.out ⟨8, .data⟩ (by simp) rfl
      have e8 := hH.own 8 _ (by decide) rfl hL8 (of_decide_eq_true (by kernel_rfl))
      have s8 : ∃ g' L, val 8 = .slice (some ⟨g', 0, none⟩) 2 2 ∧ PartsAt W g' L ∧ L.length = 2 ∧ Both (Go.Proofs.Ytkghgfiindpcjaa.val Ns) (Go.Proofs.Ytkghgfiindpcjaa.val Es) (flatL L) := HSP.out 8 (by decide) hL8
      obtain ⟨g', L2, ev, hP, hl2, hBO⟩ := s8
      rw [ev] at e8
      have HP := Lib.hid hP
      have HBO := Lib.hid hBO
      clear hP hBO
      go_simp
      refine (concat_any g' L2 2 _ hl2 (by decide) HP.out (by have := HBO.out.2.2.1; omega)).mono ?_
      rintro e w3 ⟨v, rfl, hol, hb3⟩
      obtain ⟨a1, c1, rfl, -, -, -, -⟩ := own8_open hol
      exact hK'.out _ _ hb3 ⟨a1, c1, _, rfl, owns_base hol hi.size, HBO.out⟩
    · obtain rfl := Option.some.inj ho
      have hL9 : L 9 = true := HDEP.out ⟨9, .data⟩ (by simp) rfl
      have e9 := hH.own 9 _ (by decide) rfl hL9 (of_decide_eq_true (by kernel_rfl))
      have s9 : ∃ a c l, val 9 = .slice a (List.length l) c ∧ own8 W w.heap.size (val 9) l ∧ Both (Go.Proofs.Ytkghgfiindpcjaa.val Ns) (Go.Proofs.Ytkghgfiindpcjaa.val Es) l := HSP.out 9 (by decide) hL9
      obtain ⟨a1, c1, l, ev, ho1, hBO⟩ := s9
      rw [ev] at e9 ho1
      obtain ⟨a2, c2, e2, -, hr2, hn2, -⟩ := own8_open ho1
      simp only [Value.slice.injEq, true_and] at e2
      obtain ⟨rfl, rfl⟩ := e2
      have HRZ := Lib.hid hr2
      have HNO := Lib.hid hn2
      have HBO := Lib.hid hBO
      clear ho1 hr2 hn2 hBO
      obtain ⟨q, hq⟩ : ∃ q, q = l.length := ⟨_, rfl⟩
      have HQ := Lib.hid hq
      rw [← hq] at e9
      clear hq
      go_simp
      refine (laid_any 48 a1 q c1 l _ HQ.out.symm (by have := HBO.out.2.2.1; have := HQ.out; omega) HNO.out HRZ.out).mono ?_
      rintro e w3 ⟨hb3, v, x, rfl, hox, hxi⟩
      obtain ⟨a3, c3, rfl, -, -, -, -⟩ := own8_open hox
      obtain ⟨hn1, hn3, -, cn, ce, xn, xe, g1, g2, g3, g4, rfl⟩ := HBO.out
      exact hK'.out _ _ hb3 ⟨a3, c3, x, rfl, owns_base hox hi.size, hn1, hn3, cn, ce, xn, xe, g1, g2, g3, g4, hxi⟩
    · obtain rfl := Option.some.inj ho
      have hL10 : L 10 = true := HDEP.out ⟨10, .data⟩ (by simp) rfl
      have e10 := hH.own 10 _ (by decide) rfl hL10 (of_decide_eq_true (by kernel_rfl))
      have h10 := HSP.out 10 (by decide) hL10
      go_simp
      exact hK'.out _ _ (Below.refl _ _) h10
  case fin =>
    intro val W hi hsp
    obtain ⟨a1, c1, b, e11, ho, hn, hk, hkey⟩ : ∃ a c l, val 11 = .slice a (List.length l) c ∧ own8 W w.heap.size (val 11) l ∧ Go.Proofs.Ytkghgfiindpcjaa.val Ns < 2 ^ 4096 ∧ Go.Proofs.Ytkghgfiindpcjaa.val Es < 2 ^ 4096 ∧ KeyB (Go.Proofs.Ytkghgfiindpcjaa.val Ns) (Go.Proofs.Ytkghgfiindpcjaa.val Es) l := hsp 11 (by decide)
    rw [e11] at ho
    simp only [List.size_toArray, List.length_cons, List.length_nil, Nat.zero_add, Nat.reduceAdd, putAll, dstAt, Act.put, List.getElem?_toArray, List.getElem?_cons_zero, List.getElem?_cons_succ, Option.bind_some, List.setIfInBounds_toArray, List.set_cons_zero, List.set_cons_succ]
    rw [e11]
    have HO := Lib.hid ho
    have HI := Lib.hid hi
    have HK := Lib.hid hkey
    have HN := Lib.hid hn
    have HE := Lib.hid hk
    clear ho hi hsp e11 hkey hn hk
    go_wp2
    go_ret
    exact ⟨HI.out, .inl ⟨HN.out, HE.out, _, _, _, rfl, HO.out, HK.out⟩⟩
end Go.Proofs.Ytkghgfiindpcjaa
