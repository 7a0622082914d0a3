import Derived.Test.YtboebadpohjolaaPuD
import Derived.Test.YtboebadpohjolaaNfRe
namespace Go.Proofs.Ytboebadpohjolaa
open Go.RowKit

/-! The law's own low. -/
theorem lowK_false {k m n : Int} (h : lowK k m n = false) : k = 6 ∧ (1 < m ∨ (¬ 1 < m ∧ 1 < n) ∨ (¬ 1 < m ∧ ¬ 1 < n ∧ m = 1 ∧ n = -1)) := by
  unfold lowK at h
  simp at h
  omega
theorem lowK_true {k m n : Int} (h : lowK k m n = true) : ¬ k = 6 ∨ (k = 6 ∧ ¬ 1 < m ∧ ¬ 1 < n ∧ (¬ m = 1 ∨ (m = 1 ∧ ¬ n = -1))) := by
  unfold lowK at h
  simp at h
  omega
set_option maxHeartbeats 2000000 in
set_option maxRecDepth 100000 in
theorem n_low (t : NT) : ∀ (w : World), nodes t.pt ≤ 1099511627776 → t.Lies w → Calls Try.prog 16 #[t.val] w fun e w' => e = .returned (.bool (low t.pt)) ∧ Below w.heap.size w w' := by
  induction t using NT.ind with
  | h k s m n p ps ih =>
    intro w hnod hlies
    obtain ⟨⟨a, c, rfl, hrow⟩, hps⟩ := NT.Lies_mk.1 hlies
    obtain ⟨hl1, hnp⟩ := nodes_part (k := k) (s := s) (m := m) (n := n) (p := .slice a ps.length c) (ps := ps)
    have hlb : ps.length ≤ 1099511627776 := by omega
    have hnps : ∀ t ∈ ps, nodes t.pt ≤ 1099511627776 := fun t ht => Nat.le_trans (hnp t ht) hnod
    rw [NT.pt_mk, low]
    show Calls Try.prog 16 #[nodeVal k s m n (.slice a ps.length c)] w _
    obtain ⟨len, hlen⟩ : ∃ len, ps.length = len := ⟨_, rfl⟩
    rw [hlen] at hlb
    have HROW := Lib.hid hrow
    have HPS := Lib.hid hps
    have HIH := Lib.hid ih
    have HL := Lib.hid hlen
    have HNP := Lib.hid hnps
    rw [hlen]
    have HC : Hid (CB (w.alloc (.cells #[.int .i64 k, .int .u64 (s.a : Nat), .int .u64 (s.b : Nat), .int .u64 (s.c : Nat), .int .u64 (s.d : Nat), .int .i64 m, .int .i64 n, .slice a len c] 27)) 27 w.heap.size (nodeCells k s m n (.slice a len c))) := CB.new w _ _
    have HB1 : Hid (Below w.heap.size w (w.alloc (.cells #[.int .i64 k, .int .u64 (s.a : Nat), .int .u64 (s.b : Nat), .int .u64 (s.c : Nat), .int .u64 (s.d : Nat), .int .i64 m, .int .i64 n, .slice a len c] 27))) := (Below.refl _ _).alloc (Nat.le_refl _) _
    clear hrow hps ih hlies hlen hnod hl1 hnp hnps
    obtain ⟨lk, hlk⟩ : ∃ lk, lowK k m n = lk := ⟨_, rfl⟩
    rw [hlk]
    cases lk
    · obtain ⟨rfl, hc⟩ := lowK_false hlk
      clear hlk
      rcases hc with h1 | ⟨h1, h2⟩ | ⟨h1, h2, rfl, rfl⟩
      all_goals
        go_enter Try.func16, Try.ntmps16
        go_wp2
        go_ret
        exact ⟨rfl, HB1.out⟩
    · have hc := lowK_true hlk
      clear hlk
      rcases hc with h0 | ⟨rfl, h1, h2, h3 | ⟨rfl, h4⟩⟩
      all_goals
        go_enter Try.func16, Try.ntmps16
        go_wp2
        go_loopw [3] (fun iv wr => ∃ i : Nat, i ≤ len ∧ iv = .int .i64 (i : Nat) ∧ Hid (lowL ((ps.map NT.pt).take i) = true) ∧ Hid (Below w.heap.size w wr) ∧ Hid (CB wr 27 w.heap.size (nodeCells _ s _ _ (.slice a len c)))) (fun iv _ => len - (intOf iv).toNat)
        case atStart => exact ⟨0, by omega, rfl, rfl, HB1.out, HC.out⟩
        case round =>
          obtain ⟨i, hi, rfl, HX, HB, HCr⟩ := hrel
          obtain ⟨⟨x0, x1, x2, x3, x4, x5, x6, x7⟩, _⟩ := HCr.out.eight
          by_cases hlt : i < len
          · have hip : i < ps.length := by rw [HL.out]; exact hlt
            obtain ⟨b, off, tk, tS, tm, tn, ta, tl, tc, tps, rfl, ht, htm, hra⟩ := lies_elem HROW.out HPS.out hip
            have HRA := Lib.hid (rangeAt_below hra HB.out)
            have htk := lowL_take hip
            rw [ht, HX.out, Bool.true_and] at htk
            obtain ⟨d, hd⟩ : ∃ d, low (NT.mk tk tS tm tn (.slice ta tl tc) tps).pt = d := ⟨_, rfl⟩
            have hcall := fun W hW => HIH.out _ htm W (HNP.out _ htm) ((HPS.out _ htm).below hW)
            rw [hd] at hcall htk
            have HC1 := Lib.hid hcall
            have HTK := Lib.hid htk
            clear hd hcall ht hra htk
            cases d
            · go_wp2_with (first | (refine wpl_loadN (.tmp 37) rfl rfl (g := b) (off := off + i * 8) (k := tk) (s := tS) (m := tm) (n := tn) (p := .slice ta tl tc) ?_ ?_ ?_; rfl; exact HRA.out) | (go_at_call 16; refine (HC1.out _ HB.out).mono ?_; rintro e w3 ⟨rfl, hb3⟩))
              go_ret
              exact ⟨ret_bool (by rw [lowL_not HTK.out]; rfl), HB.out.trans (hb3.mono HB.out.size)⟩
            · go_wp2_with (first | (refine wpl_loadN (.tmp 37) rfl rfl (g := b) (off := off + i * 8) (k := tk) (s := tS) (m := tm) (n := tn) (p := .slice ta tl tc) ?_ ?_ ?_; rfl; exact HRA.out) | (go_at_call 16; refine (HC1.out _ HB.out).mono ?_; rintro e w3 ⟨rfl, hb3⟩))
              go_roundw
              case rel => exact ⟨i + 1, by omega, by go_num, HTK.out, HB.out.trans (hb3.mono HB.out.size), CB.below HCr.out hb3⟩
              case measure => simp [intOf]; omega
          · obtain rfl : i = len := by omega
            have hfin : lowL (ps.map NT.pt) = true := by
              have := HX.out
              rw [List.take_of_length_le (by rw [List.length_map, HL.out]; exact Nat.le_refl _)] at this
              exact this
            have HF := Lib.hid hfin
            clear hfin
            go_wp2
            go_ret
            exact ⟨ret_bool (by rw [HF.out]; rfl), HB.out⟩
end Go.Proofs.Ytboebadpohjolaa
