import Derived.Test.YtaookoejdnkkoaaGreatDoorQ08
import Derived.Test.YtaookoejdnkkoaaGreatDoorQ07
import Derived.Laws.StructEq
import Derived.Lib.Bytealg
import Derived.Lib.ConvBytes
import Derived.Lib.LastIndexByte
import Derived.Lib.SlTrimSet
import Derived.Test.YtaookoejdnkkoaaGreatDoorCards
import Derived.Test.YtaookoejdnkkoaaGreatDoorTie
import Derived.Test.YtaookoejdnkkoaaGreatDoorRows
import Derived.Test.YtaookoejdnkkoaaGreatDoorShelf
import Derived.BigQuiet
import Derived.ChangeMaps5
import Derived.Deep.CutBlock
import Derived.Deep.DeepCutAuto
import Derived.Deep.DeepHandedRow
import Derived.Deep.QuietTactic
import Derived.Deep.RegionHeld3
import Derived.Handy
import Derived.LaidOnce
import Derived.Laws.CopyOwn
import Derived.Laws.Externs
import Derived.Lay
import Derived.Lib.Hide
import Derived.Lib.ItoaNum
import Derived.Lib.TrimByte
import Derived.OpenShut
import Derived.ProofKit
import Derived.SevenTiedAt
import Derived.Shelf.RegionOpenPlain
import Derived.Shelf.Spec.BitsCarry
import Derived.StillTailTactics
import Derived.WalkKit
namespace Go.Proofs.YtaookoejdnkkoaaGreatDoor
open Go.RowKit

/-! The program's contents and keys' bytes. -/
theorem told0 {xs : List Nat} (bx : Bd xs) (h : val xs < 18446744073709551616 ^ 128) : fl xs ≤ 128 := by
  have := (num_fm bx).len_le (k := 128)
  rw [fm_length] at this
  exact this.2 h
/-- A number's content, or the error. -/
def CofPost (n : Nat) (w : World) (e : Ending) (w' : World) : Prop :=
  Below w.heap.size w w' ∧ ((n < 2 ^ 4096 ∧ ∃ v l, e = .returned v ∧ own8 w' w.heap.size v l ∧ IntB n l ∧ l.length ≤ 1025) ∨ (¬ n < 2 ^ 4096 ∧ e = pan 3))
set_option maxHeartbeats 800000 in
set_option maxRecDepth 100000 in
theorem contentOf_any (a : Option Addr) (la ca : Nat) (xs : List Nat) (w : World) (hla : xs.length = la) (hba : la ≤ 1048576) (hca : la ≤ ca) (hra : Rd .u64 w a xs) (bx : Bd xs) :
    Calls Tryz.prog 146 #[.slice a la ca] w (CofPost (val xs) w) := by
  have HL := Lib.hid hla
  have HR := Lib.hid hra
  have HX := Lib.hid bx
  obtain ⟨V, hV⟩ : ∃ V, V = val xs := ⟨_, rfl⟩
  have HV := Lib.hid hV
  rw [← hV]
  unfold CofPost
  clear hla hra bx hV
  go_enter Tryz.func146, Tryz.ntmps146
  go_wp2_with fail
  refine (bits_any a la ca xs _ HL.out (by omega) hca HR.out HX.out).mono ?_
  rintro e w2 ⟨⟨q, rfl, hq, hqs⟩, rfl⟩
  rw [← HV.out] at hq
  have hle := bits_le (m := 4096) hq
  clear hq hqs
  by_cases hq4 : q ≤ 4096
  · have hd : decide ((q : Int) ≤ 4096) = true := decide_eq_true (by omega)
    have HP := Lib.hid (hle.1 hq4)
    clear hle hq4
    go_wp2_with fail
    refine (demand_yes _ _).mono ?_
    rintro e w' ⟨rfl, rfl⟩
    go_wp2_with fail
    refine (bytes_any a la ca xs _ HL.out hba hca HR.out HX.out).mono ?_
    rintro e w2 ⟨hb2, a, c, k, zs, rfl, ho, hz, hQ⟩
    have hT : k = 0 ∧ BNum zs V := by
      rcases hQ with ⟨h1, _, _⟩ | ⟨_, h2, h3⟩
      · have := told0 HX.out (by rw [← HV.out]; have := HP.out; have := lim8; omega)
        omega
      · rw [← HV.out] at h3; exact ⟨h2, h3⟩
    obtain ⟨rfl, hN⟩ := hT
    obtain ⟨a', c', e', hc', hr', hn', -⟩ := own8_open ho
    simp only [Value.slice.injEq, true_and] at e'
    obtain ⟨rfl, rfl⟩ := e'
    have HN := Lib.hid hN
    have HRZ := Lib.hid hr'
    have HNO := Lib.hid hn'
    have HB := Lib.hid hb2
    have HO := Lib.hid ho
    obtain ⟨m, hm⟩ : ∃ m, m = zs.length := ⟨_, rfl⟩
    have HM := Lib.hid hm
    have hz' := hz
    rw [← hm] at hz' ⊢
    have hcase : (m = 0 ∨ (0 < m ∧ 128 ≤ at0 zs 0)) ∨ (0 < m ∧ at0 zs 0 < 128) := by omega
    have HZ := Lib.hid hz
    clear hQ hN ho hz hc' hr' hn' hb2 hm
    rcases hcase with hcase | ⟨h1, h2⟩
    · have HIB : Hid (IntB V (0 :: zs)) := .inr ⟨zs, HN.out, by rcases hcase with h | ⟨_, h⟩; exact .inl (List.eq_nil_of_length_eq_zero (by rw [← HM.out]; exact h)); exact .inr h, rfl⟩
      rcases hcase with h0 | ⟨h1, h2⟩
      · subst h0
        go_wp2_with fail
        have hP := parts2 (w := w2.alloc (.cells #[.int .u8 ((0 : Nat) : Int)] 5)) (T := 40) (p := (some ⟨w2.heap.size, 0, none⟩, 1, [0])) (q := (a, c, zs)) ⟨rd_lit w2 0, fun h => by cases h⟩ ⟨rd_alloc HRZ.out _, HNO.out⟩
        rw [show (w2.alloc (.cells #[.int .u8 ((0 : Nat) : Int)] 5)).heap.size = w2.heap.size + 1 by simp] at hP
        simp only at hP
        rw [← HM.out] at hP
        refine (concat_any (w2.heap.size + 1) _ 2 _ rfl (by decide) hP (by have := HZ.out; simp [flatL]; omega)).mono ?_
        rintro e w3 ⟨v, rfl, ho, hb3⟩
        have HO3 := Lib.hid ho
        have HB3 := Lib.hid (((HB.out.alloc HB.out.size _).alloc (by have := HB.out.size; simp; omega) _).trans (hb3.mono (by have := HB.out.size; simp; omega)))
        clear ho hb3 hP
        go_wp2
        go_ret
        exact ⟨HB3.out, .inl ⟨HP.out, _, _, rfl, owns_base HO3.out (by have := HB.out.size; simp; omega), by rw [show flatL [(some ⟨w2.heap.size, 0, none⟩, 1, [0]), (a, c, zs)] = 0 :: zs by simp [flatL]]; exact HIB.out, by have := HZ.out; simp [flatL]; omega⟩⟩
      · obtain ⟨bb, off, rfl, hc⟩ := HRZ.out.get (by rw [← HM.out]; exact h1)
        have c0 := hc 0 (by rw [← HM.out]; exact h1)
        rw [show zs.getD 0 0 = at0 zs 0 from rfl, Nat.add_zero] at c0
        obtain ⟨x, hx⟩ : ∃ x, x = at0 zs 0 := ⟨_, rfl⟩
        rw [← hx] at c0 h2
        have hq0 : ((m : Int) == 0) = false := by simp; omega
        have hq1 : decide ((128 : Int) ≤ (x : Int)) = true := decide_eq_true (by omega)
        clear hc hx
        go_wp2_with fail
        have hP := parts2 (w := w2.alloc (.cells #[.int .u8 ((0 : Nat) : Int)] 5)) (T := 40) (p := (some ⟨w2.heap.size, 0, none⟩, 1, [0])) (q := (some ⟨bb, off, none⟩, c, zs)) ⟨rd_lit w2 0, fun h => by cases h⟩ ⟨rd_alloc HRZ.out _, HNO.out⟩
        rw [show (w2.alloc (.cells #[.int .u8 ((0 : Nat) : Int)] 5)).heap.size = w2.heap.size + 1 by simp] at hP
        simp only at hP
        rw [← HM.out] at hP
        refine (concat_any (w2.heap.size + 1) _ 2 _ rfl (by decide) hP (by have := HZ.out; simp [flatL]; omega)).mono ?_
        rintro e w3 ⟨v, rfl, ho, hb3⟩
        have HO3 := Lib.hid ho
        have HB3 := Lib.hid (((HB.out.alloc HB.out.size _).alloc (by have := HB.out.size; simp; omega) _).trans (hb3.mono (by have := HB.out.size; simp; omega)))
        clear ho hb3 hP
        go_wp2
        go_ret
        exact ⟨HB3.out, .inl ⟨HP.out, _, _, rfl, owns_base HO3.out (by have := HB.out.size; simp; omega), by rw [show flatL [(some ⟨w2.heap.size, 0, none⟩, 1, [0]), (some ⟨bb, off, none⟩, c, zs)] = 0 :: zs by simp [flatL]]; exact HIB.out, by have := HZ.out; simp [flatL]; omega⟩⟩
    · obtain ⟨bb, off, rfl, hc⟩ := HRZ.out.get (by rw [← HM.out]; exact h1)
      have HIB : Hid (IntB V zs) := .inl ⟨HN.out, List.length_pos_iff.1 (by rw [← HM.out]; exact h1), h2⟩
      have c0 := hc 0 (by rw [← HM.out]; exact h1)
      rw [show zs.getD 0 0 = at0 zs 0 from rfl, Nat.add_zero] at c0
      obtain ⟨x, hx⟩ : ∃ x, x = at0 zs 0 := ⟨_, rfl⟩
      rw [← hx] at c0 h2
      have hq0 : ((m : Int) == 0) = false := by simp; omega
      have hq1 : decide ((128 : Int) ≤ (x : Int)) = false := decide_eq_false (by omega)
      clear hc hx
      go_wp2
      go_ret
      exact ⟨HB.out, .inl ⟨HP.out, _, _, rfl, by rw [HM.out]; exact HO.out, HIB.out, by have := HZ.out; omega⟩⟩
  · have hd : decide ((q : Int) ≤ 4096) = false := decide_eq_false (by omega)
    have HP := Lib.hid (fun h => hq4 (hle.2 h))
    clear hle hq4
    go_wp2_with fail
    refine (demand_no _ _).mono ?_
    rintro e w' ⟨rfl, rfl⟩
    go_wp2
    exact ⟨rfl, Below.refl _ _, .inr ⟨HP.out, rfl⟩⟩

/-! The program's Encode. -/
theorem ItemB.len {t : Nat} {c b : List Nat} (h : ItemB t c b) : b.length ≤ c.length + 6 := by
  obtain ⟨l, hl, rfl⟩ := h
  have := hl.len
  simp
  omega
/-- A content, an item of it, in memory. -/
def EC (w : World) (n : Nat) (v : Value) (W : World) : Prop := ∃ a c l, v = .slice a (List.length l) c ∧ own8 W w.heap.size v l ∧ n < 2 ^ 4096 ∧ IntB n l ∧ l.length ≤ 1025
def EI (w : World) (n : Nat) (v : Value) (W : World) : Prop := ∃ a c x l, v = .slice a (List.length x) c ∧ own8 W w.heap.size v x ∧ n < 2 ^ 4096 ∧ IntB n l ∧ ItemB 2 l x ∧ x.length ≤ 1031
def Both (n e : Nat) (y : List Nat) : Prop := n < 2 ^ 4096 ∧ e < 2 ^ 4096 ∧ y.length ≤ 2062 ∧ ∃ cn ce xn xe, IntB n cn ∧ IntB e ce ∧ ItemB 2 cn xn ∧ ItemB 2 ce xe ∧ y = xn ++ xe
def EncSp (w : World) (g : Nat) (aN : Option Addr) (lN cN : Nat) (aE : Option Addr) (lE cE : Nat) (n e : Nat) (j : Nat) (v : Value) (W : World) : Prop :=
  match j with
  | 0 => v = .pointer (some ⟨g, 0, none⟩)
  | 1 => v = .slice aN lN cN
  | 2 => EC w n v W
  | 3 => EI w n v W
  | 4 => v = .pointer (some ⟨g, 1, none⟩)
  | 5 => v = .slice aE lE cE
  | 6 => EC w e v W
  | 7 => EI w e v W
  | 8 => ∃ g' L, v = .slice (some ⟨g', 0, none⟩) 2 2 ∧ PartsAt W g' L ∧ L.length = 2 ∧ Both n e (flatL L)
  | 9 => ∃ a c l, v = .slice a (List.length l) c ∧ own8 W w.heap.size v l ∧ Both n e l
  | _ => ∃ a c l, v = .slice a (List.length l) c ∧ own8 W w.heap.size v l ∧ n < 2 ^ 4096 ∧ e < 2 ^ 4096 ∧ KeyB n e l
theorem EncSp.below {w : World} {g : Nat} {aN : Option Addr} {lN cN : Nat} {aE : Option Addr} {lE cE : Nat} {n e : Nat} (j : Nat) (v : Value) (W W' : World) (h : EncSp w g aN lN cN aE lE cE n e j v W) (hb : Below W.heap.size W W') : EncSp w g aN lN cN aE lE cE n e j v W' := by
  unfold EncSp at *
  split at h <;> first
    | exact h
    | (obtain ⟨a, c, l, ev, ho, hr⟩ := h; exact ⟨a, c, l, ev, own8.under ho hb, hr⟩)
    | (obtain ⟨a, c, x, l, ev, ho, hr⟩ := h; exact ⟨a, c, x, l, ev, own8.under ho hb, hr⟩)
    | (obtain ⟨g', L, ev, hP, hr⟩ := h; exact ⟨g', L, ev, hP.below hb, hr⟩)
/-- What writing a key gives. -/
def EncCPost (n k : Nat) (w : World) (e : Ending) (w' : World) : Prop :=
  Below w.heap.size w w' ∧ ((n < 2 ^ 4096 ∧ k < 2 ^ 4096 ∧ ∃ a c b, e = .returned (.slice a (List.length b) c) ∧ own8 w' w.heap.size (.slice a (List.length b) c) b ∧ KeyB n k b) ∨ (¬ (n < 2 ^ 4096 ∧ k < 2 ^ 4096) ∧ e = pan 3))

set_option maxHeartbeats 1600000 in
set_option maxRecDepth 100000 in
theorem encClo_any (g : Nat) (aN : Option Addr) (lN cN : Nat) (Ns : List Nat) (aE : Option Addr) (lE cE : Nat) (Es : List Nat) (w : World) (h0 : w.cell? ⟨g, 0, none⟩ = some (.slice aN lN cN)) (h1 : w.cell? ⟨g, 1, none⟩ = some (.slice aE lE cE))
    (hlN : Ns.length = lN) (hbN : lN ≤ 1048576) (hcN : lN ≤ cN) (hrN : Rd .u64 w aN Ns) (bxN : Bd Ns) (hlE : Es.length = lE) (hbE : lE ≤ 1048576) (hcE : lE ≤ cE) (hrE : Rd .u64 w aE Es) (bxE : Bd Es) :
    Calls Tryz.prog 143 #[.pointer (some ⟨g, 0, none⟩)] w (EncCPost (val Ns) (val Es) w) := by
  have HLN := Lib.hid hlN
  have HRN := Lib.hid hrN
  have HXN := Lib.hid bxN
  have HLE := Lib.hid hlE
  have HRE := Lib.hid hrE
  have HXE := Lib.hid bxE
  unfold EncCPost
  clear hlN hrN bxN hlE hrE bxE
  go_enter Tryz.func143, Tryz.ntmps143
  go_wp2_with fail
  refine wp_region_sp (by kernel_rfl) (by kernel_rfl) (fun W => Below w.heap.size w W) (EncSp w g aN lN cN aE lE cE (val Ns) (val Es))
    (fun W W' h hb => h.trans (hb.mono h.size)) (fun j u W W' _ h hb => EncSp.below j u W W' h hb) (Below.refl _ _).drew ?step ?fin
  case step =>
    intro i op L val a W ho hdep hH hi hsp K' hK'
    have hil : i < 12 := (Array.getElem?_eq_some_iff.1 ho).1
    have hcs : i = 0 ∨ i = 1 ∨ i = 2 ∨ i = 3 ∨ i = 4 ∨ i = 5 ∨ i = 6 ∨ i = 7 ∨ i = 8 ∨ i = 9 ∨ i = 10 ∨ i = 11 := by omega
    have HSP := Lib.hid hsp
    have HDEP := Lib.hid hdep
    clear hsp hdep
    rcases hcs with rfl | rfl | rfl | rfl | rfl | rfl | rfl | rfl | rfl | rfl | rfl | rfl
    · obtain rfl := Option.some.inj ho
      have e0 := (hH.rest 0 (fun j hj _ => (of_decide_eq_true (by kernel_rfl) : ∀ j, j < 12 → dstAt _ j ≠ some 0) j hj)).trans (rfl : _ = some (Value.pointer (some ⟨g, 0, none⟩)))
      go_simp
      exact hK'.out _ _ (Below.refl _ _) rfl
    · obtain rfl := Option.some.inj ho
      have hL0 : L 0 = true := HDEP.out ⟨0, .data⟩ (by simp) rfl
      have e0 := hH.own 0 _ (by decide) rfl hL0 (of_decide_eq_true (by kernel_rfl))
      rw [show val 0 = Value.pointer (some ⟨g, 0, none⟩) from HSP.out 0 (by decide) hL0] at e0
      have hcc := below_cell hi _ _ h0
      go_simp
      exact hK'.out _ _ (Below.refl _ _) rfl
    · obtain rfl := Option.some.inj ho
      have hL1 : L 1 = true := HDEP.out ⟨1, .data⟩ (by simp) rfl
      have e1 := hH.own 1 _ (by decide) rfl hL1 (of_decide_eq_true (by kernel_rfl))
      rw [show val 1 = Value.slice aN lN cN from HSP.out 1 (by decide) hL1] at e1
      go_simp
      refine (contentOf_any aN lN cN Ns _ HLN.out hbN hcN (HRN.out.below hi) HXN.out).mono ?_
      rintro e w3 ⟨hb3, ⟨hn, v, l, rfl, hol, hib, hll⟩ | ⟨hn, rfl⟩⟩
      · obtain ⟨a1, c1, rfl, -, -, -, -⟩ := own8_open hol
        exact hK'.out _ _ hb3 ⟨a1, c1, l, rfl, owns_base hol hi.size, hn, hib, hll⟩
      · exact ⟨hH.defs, hi.trans (hb3.mono hi.size), .inr ⟨fun h => hn h.1, rfl⟩⟩
    · obtain rfl := Option.some.inj ho
      have hL2 : L 2 = true := HDEP.out ⟨2, .data⟩ (by simp) rfl
      have e2 := hH.own 2 _ (by decide) rfl hL2 (of_decide_eq_true (by kernel_rfl))
      have s2 : EC w (Go.Proofs.YtaookoejdnkkoaaGreatDoor.val Ns) (val 2) W := HSP.out 2 (by decide) hL2
      obtain ⟨a1, c1, l, ev, ho1, hn1, hib, hll⟩ := s2
      rw [ev] at e2 ho1
      obtain ⟨a2, c2, e2, -, hr2, hn2, -⟩ := own8_open ho1
      simp only [Value.slice.injEq, true_and] at e2
      obtain ⟨rfl, rfl⟩ := e2
      have HRZ := Lib.hid hr2
      have HIB := Lib.hid hib
      have HNO := Lib.hid hn2
      have HLL := Lib.hid hll
      clear ho1 hr2 hib hn2 hll
      obtain ⟨q, hq⟩ : ∃ q, q = l.length := ⟨_, rfl⟩
      have HQ := Lib.hid hq
      rw [← hq] at e2
      clear hq
      go_simp
      refine (laid_any 2 a1 q c1 l _ HQ.out.symm (by have := HLL.out; have := HQ.out; omega) HNO.out HRZ.out).mono ?_
      rintro e w3 ⟨hb3, v, x, rfl, hox, hxi⟩
      obtain ⟨a3, c3, rfl, -, -, -, -⟩ := own8_open hox
      exact hK'.out _ _ hb3 ⟨a3, c3, x, l, rfl, owns_base hox hi.size, hn1, HIB.out, hxi, by have := hxi.len; have := HLL.out; omega⟩
    · obtain rfl := Option.some.inj ho
      have e0 := (hH.rest 0 (fun j hj _ => (of_decide_eq_true (by kernel_rfl) : ∀ j, j < 12 → dstAt _ j ≠ some 0) j hj)).trans (rfl : _ = some (Value.pointer (some ⟨g, 0, none⟩)))
      go_simp
      exact hK'.out _ _ (Below.refl _ _) rfl
    · obtain rfl := Option.some.inj ho
      have hL4 : L 4 = true := HDEP.out ⟨4, .data⟩ (by simp) rfl
      have e4 := hH.own 4 _ (by decide) rfl hL4 (of_decide_eq_true (by kernel_rfl))
      rw [show val 4 = Value.pointer (some ⟨g, 1, none⟩) from HSP.out 4 (by decide) hL4] at e4
      have hcc := below_cell hi _ _ h1
      go_simp
      exact hK'.out _ _ (Below.refl _ _) rfl
    · obtain rfl := Option.some.inj ho
      have hL5 : L 5 = true := HDEP.out ⟨5, .data⟩ (by simp) rfl
      have e5 := hH.own 5 _ (by decide) rfl hL5 (of_decide_eq_true (by kernel_rfl))
      rw [show val 5 = Value.slice aE lE cE from HSP.out 5 (by decide) hL5] at e5
      go_simp
      refine (contentOf_any aE lE cE Es _ HLE.out hbE hcE (HRE.out.below hi) HXE.out).mono ?_
      rintro e w3 ⟨hb3, ⟨hn, v, l, rfl, hol, hib, hll⟩ | ⟨hn, rfl⟩⟩
      · obtain ⟨a1, c1, rfl, -, -, -, -⟩ := own8_open hol
        exact hK'.out _ _ hb3 ⟨a1, c1, l, rfl, owns_base hol hi.size, hn, hib, hll⟩
      · exact ⟨hH.defs, hi.trans (hb3.mono hi.size), .inr ⟨fun h => hn h.2, rfl⟩⟩
    · obtain rfl := Option.some.inj ho
      have hL6 : L 6 = true := HDEP.out ⟨6, .data⟩ (by simp) rfl
      have e6 := hH.own 6 _ (by decide) rfl hL6 (of_decide_eq_true (by kernel_rfl))
      have s6 : EC w (Go.Proofs.YtaookoejdnkkoaaGreatDoor.val Es) (val 6) W := HSP.out 6 (by decide) hL6
      obtain ⟨a1, c1, l, ev, ho1, hn1, hib, hll⟩ := s6
      rw [ev] at e6 ho1
      obtain ⟨a2, c2, e2, -, hr2, hn2, -⟩ := own8_open ho1
      simp only [Value.slice.injEq, true_and] at e2
      obtain ⟨rfl, rfl⟩ := e2
      have HRZ := Lib.hid hr2
      have HIB := Lib.hid hib
      have HNO := Lib.hid hn2
      have HLL := Lib.hid hll
      clear ho1 hr2 hib hn2 hll
      obtain ⟨q, hq⟩ : ∃ q, q = l.length := ⟨_, rfl⟩
      have HQ := Lib.hid hq
      rw [← hq] at e6
      clear hq
      go_simp
      refine (laid_any 2 a1 q c1 l _ HQ.out.symm (by have := HLL.out; have := HQ.out; omega) HNO.out HRZ.out).mono ?_
      rintro e w3 ⟨hb3, v, x, rfl, hox, hxi⟩
      obtain ⟨a3, c3, rfl, -, -, -, -⟩ := own8_open hox
      exact hK'.out _ _ hb3 ⟨a3, c3, x, l, rfl, owns_base hox hi.size, hn1, HIB.out, hxi, by have := hxi.len; have := HLL.out; omega⟩
    · obtain rfl := Option.some.inj ho
      have hL3 : L 3 = true := HDEP.out ⟨3, .data⟩ (by simp) rfl
      have e3 := hH.own 3 _ (by decide) rfl hL3 (of_decide_eq_true (by kernel_rfl))
      have s3 : EI w (Go.Proofs.YtaookoejdnkkoaaGreatDoor.val Ns) (val 3) W := HSP.out 3 (by decide) hL3
      obtain ⟨a1, c1, x1, l1, ev1, ho1, hn1, hib1, hit1, hlx1⟩ := s3
      have hL7 : L 7 = true := HDEP.out ⟨7, .data⟩ (by simp) rfl
      have e7 := hH.own 7 _ (by decide) rfl hL7 (of_decide_eq_true (by kernel_rfl))
      have s7 : EI w (Go.Proofs.YtaookoejdnkkoaaGreatDoor.val Es) (val 7) W := HSP.out 7 (by decide) hL7
      obtain ⟨a2, c2, x2, l2, ev2, ho2, hn2, hib2, hit2, hlx2⟩ := s7
      rw [ev1] at e3 ho1
      rw [ev2] at e7 ho2
      obtain ⟨a3, c3, q3, -, hr1, hno1, -⟩ := own8_open ho1
      obtain ⟨a4, c4, q4, -, hr2, hno2, -⟩ := own8_open ho2
      simp only [Value.slice.injEq, true_and] at q3 q4
      obtain ⟨rfl, rfl⟩ := q3
      obtain ⟨rfl, rfl⟩ := q4
      have hP := parts2 (w := W) (T := 40) (p := (a1, c1, x1)) (q := (a2, c2, x2)) ⟨hr1, hno1⟩ ⟨hr2, hno2⟩
      have HP := Lib.hid hP
      have HBO : Hid (Both (Go.Proofs.YtaookoejdnkkoaaGreatDoor.val Ns) (Go.Proofs.YtaookoejdnkkoaaGreatDoor.val Es) (flatL [(a1, c1, x1), (a2, c2, x2)])) := ⟨hn1, hn2, by simp [flatL]; omega, l1, l2, x1, x2, hib1, hib2, hit1, hit2, by simp [flatL]⟩
      clear hP hr1 hr2 hno1 hno2 ho1 ho2 hib1 hib2 hit1 hit2
      go_simp
      exact hK'.out _ _ ((Below.refl _ _).alloc (Nat.le_refl _) _) ⟨_, _, rfl, HP.out, rfl, HBO.out⟩
    · obtain rfl := Option.some.inj ho
      have hL8 : L 8 = true := HDEP.out ⟨8, .data⟩ (by simp) rfl
      have e8 := hH.own 8 _ (by decide) rfl hL8 (of_decide_eq_true (by kernel_rfl))
      have s8 : ∃ g' L, val 8 = .slice (some ⟨g', 0, none⟩) 2 2 ∧ PartsAt W g' L ∧ L.length = 2 ∧ Both (Go.Proofs.YtaookoejdnkkoaaGreatDoor.val Ns) (Go.Proofs.YtaookoejdnkkoaaGreatDoor.val Es) (flatL L) := HSP.out 8 (by decide) hL8
      obtain ⟨g', L2, ev, hP, hl2, hBO⟩ := s8
      rw [ev] at e8
      have HP := Lib.hid hP
      have HBO := Lib.hid hBO
      clear hP hBO
      go_simp
      refine (concat_any g' L2 2 _ hl2 (by decide) HP.out (by have := HBO.out.2.2.1; omega)).mono ?_
      rintro e w3 ⟨v, rfl, hol, hb3⟩
      obtain ⟨a1, c1, rfl, -, -, -, -⟩ := own8_open hol
      exact hK'.out _ _ hb3 ⟨a1, c1, _, rfl, owns_base hol hi.size, HBO.out⟩
    · obtain rfl := Option.some.inj ho
      have hL9 : L 9 = true := HDEP.out ⟨9, .data⟩ (by simp) rfl
      have e9 := hH.own 9 _ (by decide) rfl hL9 (of_decide_eq_true (by kernel_rfl))
      have s9 : ∃ a c l, val 9 = .slice a (List.length l) c ∧ own8 W w.heap.size (val 9) l ∧ Both (Go.Proofs.YtaookoejdnkkoaaGreatDoor.val Ns) (Go.Proofs.YtaookoejdnkkoaaGreatDoor.val Es) l := HSP.out 9 (by decide) hL9
      obtain ⟨a1, c1, l, ev, ho1, hBO⟩ := s9
      rw [ev] at e9 ho1
      obtain ⟨a2, c2, e2, -, hr2, hn2, -⟩ := own8_open ho1
      simp only [Value.slice.injEq, true_and] at e2
      obtain ⟨rfl, rfl⟩ := e2
      have HRZ := Lib.hid hr2
      have HNO := Lib.hid hn2
      have HBO := Lib.hid hBO
      clear ho1 hr2 hn2 hBO
      obtain ⟨q, hq⟩ : ∃ q, q = l.length := ⟨_, rfl⟩
      have HQ := Lib.hid hq
      rw [← hq] at e9
      clear hq
      go_simp
      refine (laid_any 48 a1 q c1 l _ HQ.out.symm (by have := HBO.out.2.2.1; have := HQ.out; omega) HNO.out HRZ.out).mono ?_
      rintro e w3 ⟨hb3, v, x, rfl, hox, hxi⟩
      obtain ⟨a3, c3, rfl, -, -, -, -⟩ := own8_open hox
      obtain ⟨hn1, hn3, -, cn, ce, xn, xe, g1, g2, g3, g4, rfl⟩ := HBO.out
      exact hK'.out _ _ hb3 ⟨a3, c3, x, rfl, owns_base hox hi.size, hn1, hn3, cn, ce, xn, xe, g1, g2, g3, g4, hxi⟩
    · obtain rfl := Option.some.inj ho
      have hL10 : L 10 = true := HDEP.out ⟨10, .data⟩ (by simp) rfl
      have e10 := hH.own 10 _ (by decide) rfl hL10 (of_decide_eq_true (by kernel_rfl))
      have h10 := HSP.out 10 (by decide) hL10
      go_simp
      exact hK'.out _ _ (Below.refl _ _) h10
  case fin =>
    intro val W hi hsp
    obtain ⟨a1, c1, b, e11, ho, hn, hk, hkey⟩ : ∃ a c l, val 11 = .slice a (List.length l) c ∧ own8 W w.heap.size (val 11) l ∧ Go.Proofs.YtaookoejdnkkoaaGreatDoor.val Ns < 2 ^ 4096 ∧ Go.Proofs.YtaookoejdnkkoaaGreatDoor.val Es < 2 ^ 4096 ∧ KeyB (Go.Proofs.YtaookoejdnkkoaaGreatDoor.val Ns) (Go.Proofs.YtaookoejdnkkoaaGreatDoor.val Es) l := hsp 11 (by decide)
    rw [e11] at ho
    simp only [List.size_toArray, List.length_cons, List.length_nil, Nat.zero_add, Nat.reduceAdd, putAll, dstAt, Act.put, List.getElem?_toArray, List.getElem?_cons_zero, List.getElem?_cons_succ, Option.bind_some, List.setIfInBounds_toArray, List.set_cons_zero, List.set_cons_succ]
    rw [e11]
    have HO := Lib.hid ho
    have HI := Lib.hid hi
    have HK := Lib.hid hkey
    have HN := Lib.hid hn
    have HE := Lib.hid hk
    clear ho hi hsp e11 hkey hn hk
    go_wp2
    go_ret
    exact ⟨HI.out, .inl ⟨HN.out, HE.out, _, _, _, rfl, HO.out, HK.out⟩⟩

/-! Small letters, in the program and in the reference. -/
/-- A text's bytes in a block of their own. -/
def BW (w : World) (g : Nat) (l : List Nat) : Prop := ∃ cur m, w.heap[g]? = some (.cells cur 5 (m, m + 1)) ∧ l.length ≤ m ∧ ∀ i, i < l.length → cur[i]? = some (.int .u8 (at0 l i : Nat))
theorem BW.cell {w : World} {g : Nat} {l : List Nat} (h : BW w g l) (i : Nat) (hi : i < l.length) : w.cell? ⟨g, i, none⟩ = some (.int .u8 (at0 l i : Nat)) := by
  obtain ⟨cur, m, hg, _, hc⟩ := h
  simp [World.cell?, hg, hc i hi]
theorem BW.free {w : World} {g : Nat} {l : List Nat} (h : BW w g l) (i : Nat) (hi : i < l.length) : w.frozen? ⟨g, i, none⟩ = false := by
  obtain ⟨cur, m, hg, hm, hc⟩ := h
  simp [World.frozen?, hg]
  omega
theorem BW.lt {w : World} {g : Nat} {l : List Nat} (h : BW w g l) : g < w.heap.size := by
  obtain ⟨cur, m, hg, _⟩ := h
  exact lt_of_block hg
theorem BW.set {w : World} {g : Nat} {l : List Nat} (h : BW w g l) (i x : Nat) (hi : i < l.length) : BW (w.setCell ⟨g, i, none⟩ (.int .u8 (x : Nat))) g (l.set i x) := by
  obtain ⟨cur, m, hg, hm, hc⟩ := h
  have hci := hc i hi
  obtain ⟨hisz, -⟩ := Array.getElem?_eq_some_iff.1 hci
  have hgs := (Array.getElem?_eq_some_iff.1 hg).1
  refine ⟨cur.set i (.int .u8 (x : Nat)), m, ?_, by simpa using hm, fun j hj => ?_⟩
  · simp only [World.setCell]
    rw [Array.getElem?_modify, if_pos rfl, hg]
    simp [Array.setIfInBounds, hisz]
  · rw [List.length_set] at hj
    by_cases he : i = j
    · subst he
      simp [at0, List.getD, hi]
    · rw [Array.getElem?_set_ne _ he, hc j hj]
      simp [at0, List.getD, he]
theorem BW.below {w w' : World} {g : Nat} {l : List Nat} (h : BW w g l) (hb : Below w.heap.size w w') : BW w' g l := by
  have hl := h.lt
  obtain ⟨cur, m, hg, hr⟩ := h
  exact ⟨cur, m, by rw [hb.block _ hl]; exact hg, hr⟩
theorem BW.text {w : World} {g : Nat} {l : List Nat} (h : BW w g l) (n c : Nat) (hn : l.length = n) (dst : TypeId) (hd : Tryz.prog.underlying dst = some .string) :
    (convert 40 dst (.slice (some ⟨g, 0, none⟩) n c)).run Tryz.prog w = .ok (.string (strN l)) w := by
  subst hn
  have := run_convert_bytes_arg (P := Tryz.prog) w 40 5 Tryz.underlying40 Tryz.underlying5 g 0 l.length c (l.map fun (x : Nat) => (x : Int)) (by simp) (fun i hi => by
    rw [Nat.zero_add, h.cell i hi]
    simp [at0, List.getD, hi]) dst hd
  rw [this]
  simp [strOfNums, strN, Function.comp_def]
/-- A text's bytes, laid. -/
theorem conv_text (s : ByteArray) (w : World) : ∃ c w', (convert 9 40 (.string s)).run Tryz.prog w = .ok (.slice (some ⟨w.heap.size, 0, none⟩) s.size c) w' ∧ BW w' w.heap.size (bsN s) ∧ Below w.heap.size w w' ∧ s.size ≤ c := by
  refine ⟨_, _, Lib.run_convert_string_bytes (P := Tryz.prog) w 9 40 5 s Tryz.underlying9 Tryz.underlying40 Tryz.underlying5, ?_, ?_, ?_⟩
  · refine ⟨_, _, Lib.bytesWorld_at_new w _ s, ?_, fun i hi => ?_⟩
    · rw [bsN_len]; simp [Lib.bytesCells]
    · rw [bsN_len] at hi
      have h := Lib.bytesWorld_cell w 5 s i hi
      have hn := Lib.bytesWorld_at_new w 5 s
      simp only [World.cell?, hn] at h
      have e : at0 (bsN s) i = (s.data.toList.getD i 0).toNat := by
        have h2 : i < s.data.size := hi
        have h3 : s.data[i]? = some s.data[i] := Array.getElem?_eq_getElem h2
        simp [at0, bsN, List.getD, h3]
      rw [e]
      simpa using h
  · refine ⟨rfl, rfl, rfl, ?_, fun k hk => Lib.bytesWorld_at_old w _ s k hk⟩
    rw [Lib.bytesWorld_size]; omega
  · have := grownCap_ge w s.size 0 5
    omega

theorem lo_step {l : List Nat} {i : Nat} (h : i < l.length) : (l.take (i + 1)).map loA ++ l.drop (i + 1) = ((l.take i).map loA ++ l.drop i).set i (loA (at0 l i)) := by
  rw [take_succ_at0 h, List.map_append, List.map_cons, List.map_nil]
  have h1 : l.drop i = at0 l i :: l.drop (i + 1) := by rw [at0_getElem h]; exact List.drop_eq_getElem_cons h
  have h2 : ((l.take i).map loA).length = i := by simp; omega
  rw [h1, List.set_append_right _ _ (by omega), h2, Nat.sub_self, List.set_cons_zero, List.append_assoc]
  rfl
theorem lo_at {l : List Nat} {i : Nat} (h : i < l.length) : at0 ((l.take i).map loA ++ l.drop i) i = at0 l i := by
  have h2 : ((l.take i).map loA).length = i := by simp; omega
  have h1 : l.drop i = at0 l i :: l.drop (i + 1) := by rw [at0_getElem h]; exact List.drop_eq_getElem_cons h
  unfold at0
  rw [List.getD_eq_getElem?_getD, List.getElem?_append_right (by omega), h2, Nat.sub_self, h1]
  rfl
theorem lo_len {l : List Nat} {i : Nat} : ((l.take i).map loA ++ l.drop i).length = l.length := by simp; omega

set_option maxHeartbeats 1000000 in
set_option maxRecDepth 100000 in
theorem p_small (s : ByteArray) (n : Nat) (w : World) (hn : s.size = n) (hbig : n ≤ 1099511627776) :
    Calls Tryz.prog 84 #[.string s] w fun e w' => e = .returned (.string (strN ((bsN s).map loA))) ∧ Below w.heap.size w w' := by
  obtain ⟨c0, w1, hcv, hB, hb, hc0⟩ := conv_text s w
  obtain ⟨l, hl⟩ : ∃ l, l = bsN s := ⟨_, rfl⟩
  have hll : l.length = n := by rw [hl, bsN_len, hn]
  have h8 : B8 l := by rw [hl]; exact bsN_8 s
  rw [← hl] at hB ⊢
  rw [hn] at hcv hc0
  have HL := Lib.hid hll
  have H8 := Lib.hid h8
  have HB := Lib.hid hB
  have HW := Lib.hid hb
  have hg : w.heap.size < w1.heap.size := hB.lt
  clear hl hll h8 hB hb
  go_enter Tryz.func84, Tryz.ntmps84
  go_wp2
  go_loopw [10] (fun iv wr => ∃ i : Nat, i ≤ n ∧ iv = .int .i64 (i : Nat) ∧ Hid (BW wr w.heap.size ((l.take i).map loA ++ l.drop i)) ∧ Hid (Below w.heap.size w wr)) (fun iv _ => n - (intOf iv).toNat)
  case atStart => exact ⟨0, Nat.zero_le _, rfl, HB.out, HW.out⟩
  case round =>
    obtain ⟨i, hi, rfl, HB, HW⟩ := hrel
    by_cases hin : i < n
    · obtain ⟨c, hc⟩ : ∃ c, c = at0 l i := ⟨_, rfl⟩
      have hil : i < l.length := by rw [HL.out]; exact hin
      have hix : i < ((l.take i).map loA ++ l.drop i).length := by rw [lo_len]; exact hil
      have hcell : wr.cell? ⟨w.heap.size, i, none⟩ = some (.int .u8 (c : Nat)) := by rw [HB.out.cell i hix, lo_at hil, hc]
      have hfz := HB.out.free i hix
      have hc8 : c < 256 := by rw [hc]; exact H8.out.at0 _
      by_cases hup : 65 ≤ c ∧ c ≤ 90
      · obtain ⟨u1, u2⟩ := hup
        obtain ⟨d, hd⟩ : ∃ d, d = c + 32 := ⟨_, rfl⟩
        have e1 : IntKind.u8.wrap ((c : Int) - 65) = (c : Int) - 65 := by
          rw [show ((c : Int) - 65) = ((c - 65 : Nat) : Int) by omega]; exact wrap_u8_in (c - 65) (by omega)
        have e2 : IntKind.u8.wrap ((c : Int) - 65 + 97) = (d : Int) := by
          rw [show ((c : Int) - 65 + 97) = ((d : Nat) : Int) by omega]; exact wrap_u8_in d (by omega)
        have HB2 : Hid (BW (wr.setCell ⟨w.heap.size, i, none⟩ (.int .u8 (d : Nat))) w.heap.size ((l.take (i + 1)).map loA ++ l.drop (i + 1))) := by
          have h := HB.out.set i d hix
          rw [lo_step hil, ← hc, show loA c = d by unfold loA; rw [if_pos ⟨u1, u2⟩, hd]]
          exact h
        have HW2 : Hid (Below w.heap.size w (wr.setCell ⟨w.heap.size, i, none⟩ (.int .u8 (d : Nat)))) := HW.out.setCell (p := ⟨w.heap.size, i, none⟩) (Nat.le_refl _) _
        have HC := Lib.hid hc
        have HD := Lib.hid hd
        clear hc hd HB HW hil hix
        go_wp2
        go_roundw
        case rel => exact ⟨i + 1, by omega, by go_num, HB2.out, HW2.out⟩
        case measure => simp [intOf]; omega
      · have HB2 : Hid (BW wr w.heap.size ((l.take (i + 1)).map loA ++ l.drop (i + 1))) := by
          show BW _ _ _
          rw [lo_step hil, ← hc, show loA c = at0 ((l.take i).map loA ++ l.drop i) i by rw [lo_at hil, ← hc]; unfold loA; rw [if_neg hup]]
          rw [show ∀ X : List Nat, X.set i (at0 X i) = X from fun X => by
            by_cases h : i < X.length
            · rw [at0_getElem h, List.set_getElem_self]
            · rw [List.set_eq_of_length_le (by omega)]]
          exact HB.out
        have HC := Lib.hid hc
        clear hc HB hil hix
        rcases (show c < 65 ∨ (65 ≤ c ∧ 90 < c) by omega) with u | ⟨u1, u2⟩
        all_goals
          clear hup
          go_wp2
          go_roundw
          case rel => exact ⟨i + 1, by omega, by go_num, HB2.out, HW.out⟩
          case measure => simp [intOf]; omega
    · obtain rfl : i = n := by omega
      have hB := HB.out
      rw [List.take_of_length_le (by rw [HL.out]; exact Nat.le_refl _), List.drop_of_length_le (by rw [HL.out]; exact Nat.le_refl _), List.append_nil] at hB
      have ht := hB.text i c0 (by rw [List.length_map]; exact HL.out) 9 Tryz.underlying9
      clear hB HB
      go_wp2
      go_ret
      exact ⟨rfl, HW.out⟩

open Go.ChangeShapes Go.WideShapes Go.ChangeAt Go.RowKit

theorem c3 : Tryz.prog.cellsOf 3 = 1 := by kernel_rfl
end Go.Proofs.YtaookoejdnkkoaaGreatDoor
