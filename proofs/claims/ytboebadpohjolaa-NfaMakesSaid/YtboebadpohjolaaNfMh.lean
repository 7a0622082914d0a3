import Derived.Test.YtboebadpohjolaaPuD
import Derived.Test.YtboebadpohjolaaNfMf
namespace Go.Proofs.Ytboebadpohjolaa
open Go.RowKit

/-! The reference's Check. -/
set_option maxHeartbeats 1000000 in
set_option maxRecDepth 100000 in
theorem n_rcount (t : NT) : ∀ (w : World), t.Lies w → Calls Try.prog 33 #[t.val] w fun e w' => e = .returned (.int .i64 ((min (nodes t.pt) 2049 : Nat) : Int)) ∧ Below w.heap.size w w' := by
  induction t using NT.ind with
  | h k s m n p ps ih =>
    intro w hlies
    obtain ⟨⟨a, c, rfl, hrow⟩, hps⟩ := NT.Lies_mk.1 hlies
    rw [nodes_mk]
    show Calls Try.prog 33 #[nodeVal k s m n (.slice a ps.length c)] w _
    obtain ⟨len, hlen⟩ : ∃ len, ps.length = len := ⟨_, rfl⟩
    have HROW := Lib.hid hrow
    have HPS := Lib.hid hps
    have HIH := Lib.hid ih
    have HL := Lib.hid hlen
    rw [hlen]
    obtain ⟨W1, hW1⟩ : ∃ W1, w.alloc (.cells #[.int .i64 k, .int .u64 (s.a : Nat), .int .u64 (s.b : Nat), .int .u64 (s.c : Nat), .int .u64 (s.d : Nat), .int .i64 m, .int .i64 n, .slice a len c] 27) = W1 := ⟨_, rfl⟩
    have HC1 : Hid (CB W1 27 w.heap.size (nodeCells k s m n (.slice a len c))) := by rw [← hW1]; exact CB.new w _ _
    have HBW : Hid (Below w.heap.size w W1) := by rw [← hW1]; exact (Below.refl _ _).alloc (Nat.le_refl _) _
    have HW1 := Lib.hid hW1
    obtain ⟨R, hR⟩ : ∃ R, min (1 + nodesL (ps.map NT.pt)) 2049 = R := ⟨_, rfl⟩
    rw [hR]
    have HR := Lib.hid hR
    clear hrow hps ih hlies hlen hW1 hR
    go_enter Try.func33, Try.ntmps33
    go_wp2
    rw [HW1.out]
    go_loopw [3, 4] (fun cv iv wr => ∃ i x : Nat, i ≤ len ∧ i < x ∧ x ≤ 4097 ∧ iv = .int .i64 (i : Nat) ∧ cv = .int .i64 (x : Nat) ∧ Hid (min x 2049 = min (1 + nodesL ((ps.map NT.pt).take i)) 2049) ∧ Hid (Below W1.heap.size W1 wr)) (fun _ iv _ => len - (intOf iv).toNat)
    case atStart => exact ⟨0, 1, by omega, by omega, by omega, rfl, rfl, (by show _ = _; simp [nodesL]), Below.refl _ _⟩
    case round =>
      obtain ⟨i, x, hi, hix, hx, rfl, rfl, HX, HB⟩ := hrel
      obtain ⟨⟨x0, x1, x2, x3, x4, x5, x6, x7⟩, _⟩ := (CB.below HC1.out HB.out).eight
      have HBr : Hid (Below w.heap.size w wr) := HBW.out.trans (HB.out.mono HBW.out.size)
      by_cases hgo : i < len ∧ x ≤ 2048
      · obtain ⟨hlt, hxt⟩ := hgo
        have hip : i < ps.length := by rw [HL.out]; exact hlt
        obtain ⟨b, off, tk, tS, tm, tn, ta, tl, tc, tps, rfl, ht, htm, hra⟩ := lies_elem HROW.out HPS.out hip
        have HRA := Lib.hid (rangeAt_below hra HBr.out)
        have hnp := nodes_pos (NT.mk tk tS tm tn (.slice ta tl tc) tps).pt
        have htk := nodesL_take hip
        rw [ht] at htk
        obtain ⟨d, hd⟩ : ∃ d, min (nodes (NT.mk tk tS tm tn (.slice ta tl tc) tps).pt) 2049 = d := ⟨_, rfl⟩
        have hdt : d ≤ 2049 := by omega
        have hd1 : 1 ≤ d := by omega
        have HX2 : Hid (min (x + d) 2049 = min (1 + nodesL ((ps.map NT.pt).take (i + 1))) 2049) := (by show _ = _; have := HX.out; omega)
        have hcall := fun W hW => HIH.out _ htm W ((HPS.out _ htm).below hW)
        rw [hd] at hcall
        have HC2 := Lib.hid hcall
        clear ht hra hnp htk hd hcall
        go_wp2_with (first | (refine wpl_loadN (.tmp 20) rfl rfl (g := b) (off := off + i * 8) (k := tk) (s := tS) (m := tm) (n := tn) (p := .slice ta tl tc) ?_ ?_ ?_; rfl; exact HRA.out) | (go_at_call 33; refine (HC2.out _ HBr.out).mono ?_; rintro e w2 ⟨rfl, hb2⟩))
        go_roundw
        case rel => exact ⟨i + 1, x + d, by omega, by omega, by omega, by go_num, by go_num, HX2.out, HB.out.trans (hb2.mono HB.out.size)⟩
        case measure => simp [intOf]; omega
      · have hfin : min x 2049 = R := by
          rw [← HR.out]
          have h1 := HX.out
          have h2 := nodesL_take_le (ps.map NT.pt) i
          by_cases hlt : i < len
          · omega
          · rw [List.take_of_length_le (by rw [List.length_map, HL.out]; omega)] at h1
            exact h1
        have emin : min (x : Int) 2049 = (R : Int) := by omega
        clear hfin
        by_cases hlt : i < len
        · have hxt : ¬ x ≤ 2048 := fun h => hgo ⟨hlt, h⟩
          clear hgo
          go_wp2
          all_goals (go_ret; exact ⟨ret_int (by omega), HBr.out⟩)
        · clear hgo
          go_wp2
          all_goals (go_ret; exact ⟨ret_int (by omega), HBr.out⟩)
theorem fit_iff (k : Int) (s : S4) (m n : Int) (len : Nat) : fitT k s m n len = true ↔ (k = 1 ∨ s.isZ = true) ∧ (k = 6 ∨ (m = 0 ∧ n = 0)) ∧ (((k = 0 ∨ k = 1 ∨ k = 2 ∨ k = 3) ∧ len = 0) ∨ ((k = 4 ∨ k = 5) ∧ 2 ≤ len) ∨ (k = 6 ∧ len = 1 ∧ 0 ≤ m ∧ m ≤ 255 ∧ (n = -1 ∨ (m ≤ n ∧ n ≤ 255)))) := by
  unfold fitT itv
  simp only [Bool.and_eq_true, Bool.or_eq_true, beq_iff_eq]
  refine and_congr_right fun _ => and_congr_right fun _ => ?_
  split
  · simp; omega
  · split
    · simp; omega
    · split
      · simp; omega
      · simp; omega
set_option maxHeartbeats 16000000 in
set_option maxRecDepth 100000 in
theorem n_rmay (t : NT) : ∀ (w : World), nodes t.pt ≤ 1099511627776 → t.Lies w → Calls Try.prog 34 #[t.val] w fun e w' => e = .returned (.bool (may t.pt)) ∧ Below w.heap.size w w' := by
  induction t using NT.ind with
  | h k s m n p ps ih =>
    intro w hnod hlies
    obtain ⟨⟨a, c, rfl, hrow⟩, hps⟩ := NT.Lies_mk.1 hlies
    obtain ⟨hl1, hnp⟩ := nodes_part (k := k) (s := s) (m := m) (n := n) (p := .slice a ps.length c) (ps := ps)
    have hlb : ps.length ≤ 1099511627776 := by omega
    have hnps : ∀ t ∈ ps, nodes t.pt ≤ 1099511627776 := fun t ht => Nat.le_trans (hnp t ht) hnod
    rw [NT.pt_mk, may, List.length_map]
    show Calls Try.prog 34 #[nodeVal k s m n (.slice a ps.length c)] w _
    obtain ⟨len, hlen⟩ : ∃ len, ps.length = len := ⟨_, rfl⟩
    rw [hlen] at hlb
    have HROW := Lib.hid hrow
    have HPS := Lib.hid hps
    have HIH := Lib.hid ih
    have HL := Lib.hid hlen
    have HNP := Lib.hid hnps
    rw [hlen]
    have hz := isZ_int s
    obtain ⟨z, hzz⟩ : ∃ z, s.isZ = z := ⟨_, rfl⟩
    rw [hzz] at hz
    have HZ := Lib.hid hzz
    have HC : Hid (CB (w.alloc (.cells #[.int .i64 k, .int .u64 (s.a : Nat), .int .u64 (s.b : Nat), .int .u64 (s.c : Nat), .int .u64 (s.d : Nat), .int .i64 m, .int .i64 n, .slice a len c] 27)) 27 w.heap.size (nodeCells k s m n (.slice a len c))) := CB.new w _ _
    have HB1 : Hid (Below w.heap.size w (w.alloc (.cells #[.int .i64 k, .int .u64 (s.a : Nat), .int .u64 (s.b : Nat), .int .u64 (s.c : Nat), .int .u64 (s.d : Nat), .int .i64 m, .int .i64 n, .slice a len c] 27))) := (Below.refl _ _).alloc (Nat.le_refl _) _
    obtain ⟨mm, hmm⟩ : ∃ mm, mayL (ps.map NT.pt) = mm := ⟨_, rfl⟩
    have HM0 : Hid (len = 0 → mm = true) := fun h => by
      have : ps = [] := List.length_eq_zero_iff.1 (by omega)
      rw [← hmm, this]
      rfl
    have HMM := Lib.hid hmm
    rw [hmm]
    clear hzz hrow hps ih hlies hlen hnod hl1 hnp hnps hmm
    by_cases h6 : k = 6
    · subst h6
      cases z
      · have hF : fitT 6 s m n len = false := by
         have hi := fit_iff 6 s m n len
         rw [HZ.out] at hi
         cases hb : fitT 6 s m n len
         · rfl
         · have hj := hi.1 hb
           clear hi hb
           simp at hj
           try omega
        clear HM0 HMM HROW HPS HIH HL HNP HC
        go_enter Try.func34, Try.ntmps34
        go_wp2
        all_goals (go_ret; exact ⟨ret_bool (by first | (rw [hF]; rfl) | rfl | (rw [hF]; simp <;> omega)), HB1.out⟩)
      · by_cases hl1 : len = 1
        · subst hl1
          by_cases hm1 : m < 0
          · have hF : fitT 6 s m n 1 = false := by
             have hi := fit_iff 6 s m n 1
             rw [HZ.out] at hi
             cases hb : fitT 6 s m n 1
             · rfl
             · have hj := hi.1 hb
               clear hi hb
               simp at hj
               try omega
            clear HM0 HMM HROW HPS HIH HL HNP HC
            go_enter Try.func34, Try.ntmps34
            go_wp2
            all_goals (go_ret; exact ⟨ret_bool (by first | (rw [hF]; rfl) | rfl | (rw [hF]; simp <;> omega)), HB1.out⟩)
          · by_cases hm2 : 255 < m
            · have hF : fitT 6 s m n 1 = false := by
               have hi := fit_iff 6 s m n 1
               rw [HZ.out] at hi
               cases hb : fitT 6 s m n 1
               · rfl
               · have hj := hi.1 hb
                 clear hi hb
                 simp at hj
                 try omega
              clear HM0 HMM HROW HPS HIH HL HNP HC
              go_enter Try.func34, Try.ntmps34
              go_wp2
              all_goals (go_ret; exact ⟨ret_bool (by first | (rw [hF]; rfl) | rfl | (rw [hF]; simp <;> omega)), HB1.out⟩)
            · by_cases hn1 : n = -1
              · subst hn1
                have hF : fitT 6 s m (-1) 1 = true := by
                 have hi := fit_iff 6 s m (-1) 1
                 rw [HZ.out] at hi
                 exact hi.2 (by simp; try omega)
                rw [hF, Bool.true_and]
                go_enter Try.func34, Try.ntmps34
                go_wp2
                go_loopw [5] (fun iv wr => ∃ i : Nat, i ≤ 1 ∧ iv = .int .i64 (i : Nat) ∧ Hid (mayL ((ps.map NT.pt).take i) = true) ∧ Hid (Below w.heap.size w wr) ∧ Hid (CB wr 27 w.heap.size (nodeCells 6 s m (-1) (.slice a 1 c)))) (fun iv _ => 1 - (intOf iv).toNat)
                case atStart => exact ⟨0, by omega, rfl, rfl, HB1.out, HC.out⟩
                case round =>
                  obtain ⟨i, hi, rfl, HX, HB, HCr⟩ := hrel
                  obtain ⟨⟨x0, x1, x2, x3, x4, x5, x6, x7⟩, _⟩ := HCr.out.eight
                  by_cases hlt : i < 1
                  · have hip : i < ps.length := by rw [HL.out]; exact hlt
                    obtain ⟨b, off, tk, tS, tm, tn, ta, tl, tc, tps, rfl, ht, htm, hra⟩ := lies_elem HROW.out HPS.out hip
                    have HRA := Lib.hid (rangeAt_below hra HB.out)
                    have htk := mayL_take hip
                    rw [ht, HX.out, Bool.true_and] at htk
                    obtain ⟨d, hd⟩ : ∃ d, may (NT.mk tk tS tm tn (.slice ta tl tc) tps).pt = d := ⟨_, rfl⟩
                    have hcall := fun W hW => HIH.out _ htm W (HNP.out _ htm) ((HPS.out _ htm).below hW)
                    rw [hd] at hcall htk
                    have HC1 := Lib.hid hcall
                    have HTK := Lib.hid htk
                    clear hd hcall ht hra htk
                    cases d
                    · go_wp2_with (first | (refine wpl_loadN (.tmp 95) rfl rfl (g := b) (off := off + i * 8) (k := tk) (s := tS) (m := tm) (n := tn) (p := .slice ta tl tc) ?_ ?_ ?_; rfl; exact HRA.out) | (go_at_call 34; refine (HC1.out _ HB.out).mono ?_; rintro e w3 ⟨rfl, hb3⟩))
                      go_ret
                      exact ⟨ret_bool (by rw [← HMM.out, mayL_not HTK.out]), HB.out.trans (hb3.mono HB.out.size)⟩
                    · go_wp2_with (first | (refine wpl_loadN (.tmp 95) rfl rfl (g := b) (off := off + i * 8) (k := tk) (s := tS) (m := tm) (n := tn) (p := .slice ta tl tc) ?_ ?_ ?_; rfl; exact HRA.out) | (go_at_call 34; refine (HC1.out _ HB.out).mono ?_; rintro e w3 ⟨rfl, hb3⟩))
                      go_roundw
                      case rel => exact ⟨i + 1, by omega, by go_num, HTK.out, HB.out.trans (hb3.mono HB.out.size), CB.below HCr.out hb3⟩
                      case measure => simp [intOf]; omega
                  · obtain rfl : i = 1 := by omega
                    have hfin : mm = true := by
                      have := HX.out
                      rw [List.take_of_length_le (by rw [List.length_map, HL.out]; exact Nat.le_refl _), HMM.out] at this
                      exact this
                    have HF := Lib.hid hfin
                    clear hfin
                    go_wp2
                    go_ret
                    exact ⟨ret_bool (by rw [HF.out]), HB.out⟩
              · by_cases hn2 : n < m
                · have hF : fitT 6 s m n 1 = false := by
                   have hi := fit_iff 6 s m n 1
                   rw [HZ.out] at hi
                   cases hb : fitT 6 s m n 1
                   · rfl
                   · have hj := hi.1 hb
                     clear hi hb
                     simp at hj
                     try omega
                  clear HM0 HMM HROW HPS HIH HL HNP HC
                  go_enter Try.func34, Try.ntmps34
                  go_wp2
                  all_goals (go_ret; exact ⟨ret_bool (by first | (rw [hF]; rfl) | rfl | (rw [hF]; simp <;> omega)), HB1.out⟩)
                · by_cases hn3 : 255 < n
                  · have hF : fitT 6 s m n 1 = false := by
                     have hi := fit_iff 6 s m n 1
                     rw [HZ.out] at hi
                     cases hb : fitT 6 s m n 1
                     · rfl
                     · have hj := hi.1 hb
                       clear hi hb
                       simp at hj
                       try omega
                    clear HM0 HMM HROW HPS HIH HL HNP HC
                    go_enter Try.func34, Try.ntmps34
                    go_wp2
                    all_goals (go_ret; exact ⟨ret_bool (by first | (rw [hF]; rfl) | rfl | (rw [hF]; simp <;> omega)), HB1.out⟩)
                  · have hF : fitT 6 s m n 1 = true := by
                     have hi := fit_iff 6 s m n 1
                     rw [HZ.out] at hi
                     exact hi.2 (by simp; try omega)
                    rw [hF, Bool.true_and]
                    go_enter Try.func34, Try.ntmps34
                    go_wp2
                    go_loopw [5] (fun iv wr => ∃ i : Nat, i ≤ 1 ∧ iv = .int .i64 (i : Nat) ∧ Hid (mayL ((ps.map NT.pt).take i) = true) ∧ Hid (Below w.heap.size w wr) ∧ Hid (CB wr 27 w.heap.size (nodeCells 6 s m n (.slice a 1 c)))) (fun iv _ => 1 - (intOf iv).toNat)
                    case atStart => exact ⟨0, by omega, rfl, rfl, HB1.out, HC.out⟩
                    case round =>
                      obtain ⟨i, hi, rfl, HX, HB, HCr⟩ := hrel
                      obtain ⟨⟨x0, x1, x2, x3, x4, x5, x6, x7⟩, _⟩ := HCr.out.eight
                      by_cases hlt : i < 1
                      · have hip : i < ps.length := by rw [HL.out]; exact hlt
                        obtain ⟨b, off, tk, tS, tm, tn, ta, tl, tc, tps, rfl, ht, htm, hra⟩ := lies_elem HROW.out HPS.out hip
                        have HRA := Lib.hid (rangeAt_below hra HB.out)
                        have htk := mayL_take hip
                        rw [ht, HX.out, Bool.true_and] at htk
                        obtain ⟨d, hd⟩ : ∃ d, may (NT.mk tk tS tm tn (.slice ta tl tc) tps).pt = d := ⟨_, rfl⟩
                        have hcall := fun W hW => HIH.out _ htm W (HNP.out _ htm) ((HPS.out _ htm).below hW)
                        rw [hd] at hcall htk
                        have HC1 := Lib.hid hcall
                        have HTK := Lib.hid htk
                        clear hd hcall ht hra htk
                        cases d
                        · go_wp2_with (first | (refine wpl_loadN (.tmp 95) rfl rfl (g := b) (off := off + i * 8) (k := tk) (s := tS) (m := tm) (n := tn) (p := .slice ta tl tc) ?_ ?_ ?_; rfl; exact HRA.out) | (go_at_call 34; refine (HC1.out _ HB.out).mono ?_; rintro e w3 ⟨rfl, hb3⟩))
                          go_ret
                          exact ⟨ret_bool (by rw [← HMM.out, mayL_not HTK.out]), HB.out.trans (hb3.mono HB.out.size)⟩
                        · go_wp2_with (first | (refine wpl_loadN (.tmp 95) rfl rfl (g := b) (off := off + i * 8) (k := tk) (s := tS) (m := tm) (n := tn) (p := .slice ta tl tc) ?_ ?_ ?_; rfl; exact HRA.out) | (go_at_call 34; refine (HC1.out _ HB.out).mono ?_; rintro e w3 ⟨rfl, hb3⟩))
                          go_roundw
                          case rel => exact ⟨i + 1, by omega, by go_num, HTK.out, HB.out.trans (hb3.mono HB.out.size), CB.below HCr.out hb3⟩
                          case measure => simp [intOf]; omega
                      · obtain rfl : i = 1 := by omega
                        have hfin : mm = true := by
                          have := HX.out
                          rw [List.take_of_length_le (by rw [List.length_map, HL.out]; exact Nat.le_refl _), HMM.out] at this
                          exact this
                        have HF := Lib.hid hfin
                        clear hfin
                        go_wp2
                        go_ret
                        exact ⟨ret_bool (by rw [HF.out]), HB.out⟩
        · have hF : fitT 6 s m n len = false := by
           have hi := fit_iff 6 s m n len
           rw [HZ.out] at hi
           cases hb : fitT 6 s m n len
           · rfl
           · have hj := hi.1 hb
             clear hi hb
             simp at hj
             try omega
          clear HM0 HMM HROW HPS HIH HL HNP HC
          go_enter Try.func34, Try.ntmps34
          go_wp2
          all_goals (go_ret; exact ⟨ret_bool (by first | (rw [hF]; rfl) | rfl | (rw [hF]; simp <;> omega)), HB1.out⟩)
    · by_cases hm : m = 0
      · subst hm
        by_cases hn : n = 0
        · subst hn
          have hk : k = 1 ∨ k = 0 ∨ k = 2 ∨ k = 3 ∨ k = 4 ∨ k = 5 ∨ (¬ k = 0 ∧ ¬ k = 1 ∧ ¬ k = 2 ∧ ¬ k = 3 ∧ ¬ k = 4 ∧ ¬ k = 5) := by omega
          rcases hk with rfl | rfl | rfl | rfl | rfl | rfl | ⟨k0, k1, k2, k3, k4, k5⟩
          · cases z
            · by_cases hl0 : len = 0
              · subst hl0
                obtain rfl : mm = true := HM0.out rfl
                have hF : fitT 1 s 0 0 0 = true := by
                  have hi := fit_iff 1 s 0 0 0
                  rw [HZ.out] at hi
                  exact hi.2 (by simp)
                rw [hF]
                clear HM0 HMM HROW HPS HIH HL HNP HC
                go_enter Try.func34, Try.ntmps34
                go_wp2
                all_goals (go_ret; exact ⟨ret_bool rfl, HB1.out⟩)
              · have hF : fitT 1 s 0 0 len = false := by
                 have hi := fit_iff 1 s 0 0 len
                 rw [HZ.out] at hi
                 cases hb : fitT 1 s 0 0 len
                 · rfl
                 · have hj := hi.1 hb
                   clear hi hb
                   simp at hj
                   try omega
                clear HM0 HMM HROW HPS HIH HL HNP HC
                go_enter Try.func34, Try.ntmps34
                go_wp2
                all_goals (go_ret; exact ⟨ret_bool (by first | (rw [hF]; rfl) | rfl | (rw [hF]; simp <;> omega)), HB1.out⟩)
            · by_cases hl0 : len = 0
              · subst hl0
                obtain rfl : mm = true := HM0.out rfl
                have hF : fitT 1 s 0 0 0 = true := by
                  have hi := fit_iff 1 s 0 0 0
                  rw [HZ.out] at hi
                  exact hi.2 (by simp)
                rw [hF]
                clear HM0 HMM HROW HPS HIH HL HNP HC
                go_enter Try.func34, Try.ntmps34
                go_wp2
                all_goals (go_ret; exact ⟨ret_bool rfl, HB1.out⟩)
              · have hF : fitT 1 s 0 0 len = false := by
                 have hi := fit_iff 1 s 0 0 len
                 rw [HZ.out] at hi
                 cases hb : fitT 1 s 0 0 len
                 · rfl
                 · have hj := hi.1 hb
                   clear hi hb
                   simp at hj
                   try omega
                clear HM0 HMM HROW HPS HIH HL HNP HC
                go_enter Try.func34, Try.ntmps34
                go_wp2
                all_goals (go_ret; exact ⟨ret_bool (by first | (rw [hF]; rfl) | rfl | (rw [hF]; simp <;> omega)), HB1.out⟩)
          · cases z
            · have hF : fitT 0 s 0 0 len = false := by
               have hi := fit_iff 0 s 0 0 len
               rw [HZ.out] at hi
               cases hb : fitT 0 s 0 0 len
               · rfl
               · have hj := hi.1 hb
                 clear hi hb
                 simp at hj
                 try omega
              clear HM0 HMM HROW HPS HIH HL HNP HC
              go_enter Try.func34, Try.ntmps34
              go_wp2
              all_goals (go_ret; exact ⟨ret_bool (by first | (rw [hF]; rfl) | rfl | (rw [hF]; simp <;> omega)), HB1.out⟩)
            · by_cases hl0 : len = 0
              · subst hl0
                obtain rfl : mm = true := HM0.out rfl
                have hF : fitT 0 s 0 0 0 = true := by
                  have hi := fit_iff 0 s 0 0 0
                  rw [HZ.out] at hi
                  exact hi.2 (by simp)
                rw [hF]
                clear HM0 HMM HROW HPS HIH HL HNP HC
                go_enter Try.func34, Try.ntmps34
                go_wp2
                all_goals (go_ret; exact ⟨ret_bool rfl, HB1.out⟩)
              · have hF : fitT 0 s 0 0 len = false := by
                 have hi := fit_iff 0 s 0 0 len
                 rw [HZ.out] at hi
                 cases hb : fitT 0 s 0 0 len
                 · rfl
                 · have hj := hi.1 hb
                   clear hi hb
                   simp at hj
                   try omega
                clear HM0 HMM HROW HPS HIH HL HNP HC
                go_enter Try.func34, Try.ntmps34
                go_wp2
                all_goals (go_ret; exact ⟨ret_bool (by first | (rw [hF]; rfl) | rfl | (rw [hF]; simp <;> omega)), HB1.out⟩)
          · cases z
            · have hF : fitT 2 s 0 0 len = false := by
               have hi := fit_iff 2 s 0 0 len
               rw [HZ.out] at hi
               cases hb : fitT 2 s 0 0 len
               · rfl
               · have hj := hi.1 hb
                 clear hi hb
                 simp at hj
                 try omega
              clear HM0 HMM HROW HPS HIH HL HNP HC
              go_enter Try.func34, Try.ntmps34
              go_wp2
              all_goals (go_ret; exact ⟨ret_bool (by first | (rw [hF]; rfl) | rfl | (rw [hF]; simp <;> omega)), HB1.out⟩)
            · by_cases hl0 : len = 0
              · subst hl0
                obtain rfl : mm = true := HM0.out rfl
                have hF : fitT 2 s 0 0 0 = true := by
                  have hi := fit_iff 2 s 0 0 0
                  rw [HZ.out] at hi
                  exact hi.2 (by simp)
                rw [hF]
                clear HM0 HMM HROW HPS HIH HL HNP HC
                go_enter Try.func34, Try.ntmps34
                go_wp2
                all_goals (go_ret; exact ⟨ret_bool rfl, HB1.out⟩)
              · have hF : fitT 2 s 0 0 len = false := by
                 have hi := fit_iff 2 s 0 0 len
                 rw [HZ.out] at hi
                 cases hb : fitT 2 s 0 0 len
                 · rfl
                 · have hj := hi.1 hb
                   clear hi hb
                   simp at hj
                   try omega
                clear HM0 HMM HROW HPS HIH HL HNP HC
                go_enter Try.func34, Try.ntmps34
                go_wp2
                all_goals (go_ret; exact ⟨ret_bool (by first | (rw [hF]; rfl) | rfl | (rw [hF]; simp <;> omega)), HB1.out⟩)
          · cases z
            · have hF : fitT 3 s 0 0 len = false := by
               have hi := fit_iff 3 s 0 0 len
               rw [HZ.out] at hi
               cases hb : fitT 3 s 0 0 len
               · rfl
               · have hj := hi.1 hb
                 clear hi hb
                 simp at hj
                 try omega
              clear HM0 HMM HROW HPS HIH HL HNP HC
              go_enter Try.func34, Try.ntmps34
              go_wp2
              all_goals (go_ret; exact ⟨ret_bool (by first | (rw [hF]; rfl) | rfl | (rw [hF]; simp <;> omega)), HB1.out⟩)
            · by_cases hl0 : len = 0
              · subst hl0
                obtain rfl : mm = true := HM0.out rfl
                have hF : fitT 3 s 0 0 0 = true := by
                  have hi := fit_iff 3 s 0 0 0
                  rw [HZ.out] at hi
                  exact hi.2 (by simp)
                rw [hF]
                clear HM0 HMM HROW HPS HIH HL HNP HC
                go_enter Try.func34, Try.ntmps34
                go_wp2
                all_goals (go_ret; exact ⟨ret_bool rfl, HB1.out⟩)
              · have hF : fitT 3 s 0 0 len = false := by
                 have hi := fit_iff 3 s 0 0 len
                 rw [HZ.out] at hi
                 cases hb : fitT 3 s 0 0 len
                 · rfl
                 · have hj := hi.1 hb
                   clear hi hb
                   simp at hj
                   try omega
                clear HM0 HMM HROW HPS HIH HL HNP HC
                go_enter Try.func34, Try.ntmps34
                go_wp2
                all_goals (go_ret; exact ⟨ret_bool (by first | (rw [hF]; rfl) | rfl | (rw [hF]; simp <;> omega)), HB1.out⟩)
          · cases z
            · have hF : fitT 4 s 0 0 len = false := by
               have hi := fit_iff 4 s 0 0 len
               rw [HZ.out] at hi
               cases hb : fitT 4 s 0 0 len
               · rfl
               · have hj := hi.1 hb
                 clear hi hb
                 simp at hj
                 try omega
              clear HM0 HMM HROW HPS HIH HL HNP HC
              go_enter Try.func34, Try.ntmps34
              go_wp2
              all_goals (go_ret; exact ⟨ret_bool (by first | (rw [hF]; rfl) | rfl | (rw [hF]; simp <;> omega)), HB1.out⟩)
            · by_cases hl2 : len < 2
              · have hF : fitT 4 s 0 0 len = false := by
                 have hi := fit_iff 4 s 0 0 len
                 rw [HZ.out] at hi
                 cases hb : fitT 4 s 0 0 len
                 · rfl
                 · have hj := hi.1 hb
                   clear hi hb
                   simp at hj
                   try omega
                clear HM0 HMM HROW HPS HIH HL HNP HC
                go_enter Try.func34, Try.ntmps34
                go_wp2
                all_goals (go_ret; exact ⟨ret_bool (by first | (rw [hF]; rfl) | rfl | (rw [hF]; simp <;> omega)), HB1.out⟩)
              · have hF : fitT 4 s 0 0 len = true := by
                 have hi := fit_iff 4 s 0 0 len
                 rw [HZ.out] at hi
                 exact hi.2 (by simp; try omega)
                rw [hF, Bool.true_and]
                go_enter Try.func34, Try.ntmps34
                go_wp2
                go_loopw [5] (fun iv wr => ∃ i : Nat, i ≤ len ∧ iv = .int .i64 (i : Nat) ∧ Hid (mayL ((ps.map NT.pt).take i) = true) ∧ Hid (Below w.heap.size w wr) ∧ Hid (CB wr 27 w.heap.size (nodeCells 4 s 0 0 (.slice a len c)))) (fun iv _ => len - (intOf iv).toNat)
                case atStart => exact ⟨0, by omega, rfl, rfl, HB1.out, HC.out⟩
                case round =>
                  obtain ⟨i, hi, rfl, HX, HB, HCr⟩ := hrel
                  obtain ⟨⟨x0, x1, x2, x3, x4, x5, x6, x7⟩, _⟩ := HCr.out.eight
                  by_cases hlt : i < len
                  · have hip : i < ps.length := by rw [HL.out]; exact hlt
                    obtain ⟨b, off, tk, tS, tm, tn, ta, tl, tc, tps, rfl, ht, htm, hra⟩ := lies_elem HROW.out HPS.out hip
                    have HRA := Lib.hid (rangeAt_below hra HB.out)
                    have htk := mayL_take hip
                    rw [ht, HX.out, Bool.true_and] at htk
                    obtain ⟨d, hd⟩ : ∃ d, may (NT.mk tk tS tm tn (.slice ta tl tc) tps).pt = d := ⟨_, rfl⟩
                    have hcall := fun W hW => HIH.out _ htm W (HNP.out _ htm) ((HPS.out _ htm).below hW)
                    rw [hd] at hcall htk
                    have HC1 := Lib.hid hcall
                    have HTK := Lib.hid htk
                    clear hd hcall ht hra htk
                    cases d
                    · go_wp2_with (first | (refine wpl_loadN (.tmp 95) rfl rfl (g := b) (off := off + i * 8) (k := tk) (s := tS) (m := tm) (n := tn) (p := .slice ta tl tc) ?_ ?_ ?_; rfl; exact HRA.out) | (go_at_call 34; refine (HC1.out _ HB.out).mono ?_; rintro e w3 ⟨rfl, hb3⟩))
                      go_ret
                      exact ⟨ret_bool (by rw [← HMM.out, mayL_not HTK.out]), HB.out.trans (hb3.mono HB.out.size)⟩
                    · go_wp2_with (first | (refine wpl_loadN (.tmp 95) rfl rfl (g := b) (off := off + i * 8) (k := tk) (s := tS) (m := tm) (n := tn) (p := .slice ta tl tc) ?_ ?_ ?_; rfl; exact HRA.out) | (go_at_call 34; refine (HC1.out _ HB.out).mono ?_; rintro e w3 ⟨rfl, hb3⟩))
                      go_roundw
                      case rel => exact ⟨i + 1, by omega, by go_num, HTK.out, HB.out.trans (hb3.mono HB.out.size), CB.below HCr.out hb3⟩
                      case measure => simp [intOf]; omega
                  · obtain rfl : i = len := by omega
                    have hfin : mm = true := by
                      have := HX.out
                      rw [List.take_of_length_le (by rw [List.length_map, HL.out]; exact Nat.le_refl _), HMM.out] at this
                      exact this
                    have HF := Lib.hid hfin
                    clear hfin
                    go_wp2
                    go_ret
                    exact ⟨ret_bool (by rw [HF.out]), HB.out⟩
          · cases z
            · have hF : fitT 5 s 0 0 len = false := by
               have hi := fit_iff 5 s 0 0 len
               rw [HZ.out] at hi
               cases hb : fitT 5 s 0 0 len
               · rfl
               · have hj := hi.1 hb
                 clear hi hb
                 simp at hj
                 try omega
              clear HM0 HMM HROW HPS HIH HL HNP HC
              go_enter Try.func34, Try.ntmps34
              go_wp2
              all_goals (go_ret; exact ⟨ret_bool (by first | (rw [hF]; rfl) | rfl | (rw [hF]; simp <;> omega)), HB1.out⟩)
            · by_cases hl2 : len < 2
              · have hF : fitT 5 s 0 0 len = false := by
                 have hi := fit_iff 5 s 0 0 len
                 rw [HZ.out] at hi
                 cases hb : fitT 5 s 0 0 len
                 · rfl
                 · have hj := hi.1 hb
                   clear hi hb
                   simp at hj
                   try omega
                clear HM0 HMM HROW HPS HIH HL HNP HC
                go_enter Try.func34, Try.ntmps34
                go_wp2
                all_goals (go_ret; exact ⟨ret_bool (by first | (rw [hF]; rfl) | rfl | (rw [hF]; simp <;> omega)), HB1.out⟩)
              · have hF : fitT 5 s 0 0 len = true := by
                 have hi := fit_iff 5 s 0 0 len
                 rw [HZ.out] at hi
                 exact hi.2 (by simp; try omega)
                rw [hF, Bool.true_and]
                go_enter Try.func34, Try.ntmps34
                go_wp2
                go_loopw [5] (fun iv wr => ∃ i : Nat, i ≤ len ∧ iv = .int .i64 (i : Nat) ∧ Hid (mayL ((ps.map NT.pt).take i) = true) ∧ Hid (Below w.heap.size w wr) ∧ Hid (CB wr 27 w.heap.size (nodeCells 5 s 0 0 (.slice a len c)))) (fun iv _ => len - (intOf iv).toNat)
                case atStart => exact ⟨0, by omega, rfl, rfl, HB1.out, HC.out⟩
                case round =>
                  obtain ⟨i, hi, rfl, HX, HB, HCr⟩ := hrel
                  obtain ⟨⟨x0, x1, x2, x3, x4, x5, x6, x7⟩, _⟩ := HCr.out.eight
                  by_cases hlt : i < len
                  · have hip : i < ps.length := by rw [HL.out]; exact hlt
                    obtain ⟨b, off, tk, tS, tm, tn, ta, tl, tc, tps, rfl, ht, htm, hra⟩ := lies_elem HROW.out HPS.out hip
                    have HRA := Lib.hid (rangeAt_below hra HB.out)
                    have htk := mayL_take hip
                    rw [ht, HX.out, Bool.true_and] at htk
                    obtain ⟨d, hd⟩ : ∃ d, may (NT.mk tk tS tm tn (.slice ta tl tc) tps).pt = d := ⟨_, rfl⟩
                    have hcall := fun W hW => HIH.out _ htm W (HNP.out _ htm) ((HPS.out _ htm).below hW)
                    rw [hd] at hcall htk
                    have HC1 := Lib.hid hcall
                    have HTK := Lib.hid htk
                    clear hd hcall ht hra htk
                    cases d
                    · go_wp2_with (first | (refine wpl_loadN (.tmp 95) rfl rfl (g := b) (off := off + i * 8) (k := tk) (s := tS) (m := tm) (n := tn) (p := .slice ta tl tc) ?_ ?_ ?_; rfl; exact HRA.out) | (go_at_call 34; refine (HC1.out _ HB.out).mono ?_; rintro e w3 ⟨rfl, hb3⟩))
                      go_ret
                      exact ⟨ret_bool (by rw [← HMM.out, mayL_not HTK.out]), HB.out.trans (hb3.mono HB.out.size)⟩
                    · go_wp2_with (first | (refine wpl_loadN (.tmp 95) rfl rfl (g := b) (off := off + i * 8) (k := tk) (s := tS) (m := tm) (n := tn) (p := .slice ta tl tc) ?_ ?_ ?_; rfl; exact HRA.out) | (go_at_call 34; refine (HC1.out _ HB.out).mono ?_; rintro e w3 ⟨rfl, hb3⟩))
                      go_roundw
                      case rel => exact ⟨i + 1, by omega, by go_num, HTK.out, HB.out.trans (hb3.mono HB.out.size), CB.below HCr.out hb3⟩
                      case measure => simp [intOf]; omega
                  · obtain rfl : i = len := by omega
                    have hfin : mm = true := by
                      have := HX.out
                      rw [List.take_of_length_le (by rw [List.length_map, HL.out]; exact Nat.le_refl _), HMM.out] at this
                      exact this
                    have HF := Lib.hid hfin
                    clear hfin
                    go_wp2
                    go_ret
                    exact ⟨ret_bool (by rw [HF.out]), HB.out⟩
          · cases z
            · have hF : fitT k s 0 0 len = false := by
               have hi := fit_iff k s 0 0 len
               rw [HZ.out] at hi
               cases hb : fitT k s 0 0 len
               · rfl
               · have hj := hi.1 hb
                 clear hi hb
                 simp at hj
                 try omega
              clear HM0 HMM HROW HPS HIH HL HNP HC
              go_enter Try.func34, Try.ntmps34
              go_wp2
              all_goals (go_ret; exact ⟨ret_bool (by first | (rw [hF]; rfl) | rfl | (rw [hF]; simp <;> omega)), HB1.out⟩)
            · have hF : fitT k s 0 0 len = false := by
               have hi := fit_iff k s 0 0 len
               rw [HZ.out] at hi
               cases hb : fitT k s 0 0 len
               · rfl
               · have hj := hi.1 hb
                 clear hi hb
                 simp at hj
                 try omega
              clear HM0 HMM HROW HPS HIH HL HNP HC
              go_enter Try.func34, Try.ntmps34
              go_wp2
              all_goals (go_ret; exact ⟨ret_bool (by first | (rw [hF]; rfl) | rfl | (rw [hF]; simp <;> omega)), HB1.out⟩)
        · have hnb : (n == 0) = false := by simp [hn]
          by_cases k1 : k = 1
          · subst k1
            cases z
            · have hF : fitT 1 s 0 n len = false := by
               have hi := fit_iff 1 s 0 n len
               rw [HZ.out] at hi
               cases hb : fitT 1 s 0 n len
               · rfl
               · have hj := hi.1 hb
                 clear hi hb
                 simp at hj
                 try omega
              clear HM0 HMM HROW HPS HIH HL HNP HC
              go_enter Try.func34, Try.ntmps34
              go_wp2
              all_goals (go_ret; exact ⟨ret_bool (by first | (rw [hF]; rfl) | rfl | (rw [hF]; simp <;> omega)), HB1.out⟩)
            · have hF : fitT 1 s 0 n len = false := by
               have hi := fit_iff 1 s 0 n len
               rw [HZ.out] at hi
               cases hb : fitT 1 s 0 n len
               · rfl
               · have hj := hi.1 hb
                 clear hi hb
                 simp at hj
                 try omega
              clear HM0 HMM HROW HPS HIH HL HNP HC
              go_enter Try.func34, Try.ntmps34
              go_wp2
              all_goals (go_ret; exact ⟨ret_bool (by first | (rw [hF]; rfl) | rfl | (rw [hF]; simp <;> omega)), HB1.out⟩)
          · have hkb : (k == 1) = false := by simp [k1]
            have hk6 : (k == 6) = false := by simp [h6]
            cases z
            · have hF : fitT k s 0 n len = false := by
               have hi := fit_iff k s 0 n len
               rw [HZ.out] at hi
               cases hb : fitT k s 0 n len
               · rfl
               · have hj := hi.1 hb
                 clear hi hb
                 simp at hj
                 try omega
              clear HM0 HMM HROW HPS HIH HL HNP HC
              go_enter Try.func34, Try.ntmps34
              go_wp2
              all_goals (go_ret; exact ⟨ret_bool (by first | (rw [hF]; rfl) | rfl | (rw [hF]; simp <;> omega)), HB1.out⟩)
            · have hF : fitT k s 0 n len = false := by
               have hi := fit_iff k s 0 n len
               rw [HZ.out] at hi
               cases hb : fitT k s 0 n len
               · rfl
               · have hj := hi.1 hb
                 clear hi hb
                 simp at hj
                 try omega
              clear HM0 HMM HROW HPS HIH HL HNP HC
              go_enter Try.func34, Try.ntmps34
              go_wp2
              all_goals (go_ret; exact ⟨ret_bool (by first | (rw [hF]; rfl) | rfl | (rw [hF]; simp <;> omega)), HB1.out⟩)
      · have hmb : (m == 0) = false := by simp [hm]
        by_cases k1 : k = 1
        · subst k1
          cases z
          · have hF : fitT 1 s m n len = false := by
             have hi := fit_iff 1 s m n len
             rw [HZ.out] at hi
             cases hb : fitT 1 s m n len
             · rfl
             · have hj := hi.1 hb
               clear hi hb
               simp at hj
               try omega
            clear HM0 HMM HROW HPS HIH HL HNP HC
            go_enter Try.func34, Try.ntmps34
            go_wp2
            all_goals (go_ret; exact ⟨ret_bool (by first | (rw [hF]; rfl) | rfl | (rw [hF]; simp <;> omega)), HB1.out⟩)
          · have hF : fitT 1 s m n len = false := by
             have hi := fit_iff 1 s m n len
             rw [HZ.out] at hi
             cases hb : fitT 1 s m n len
             · rfl
             · have hj := hi.1 hb
               clear hi hb
               simp at hj
               try omega
            clear HM0 HMM HROW HPS HIH HL HNP HC
            go_enter Try.func34, Try.ntmps34
            go_wp2
            all_goals (go_ret; exact ⟨ret_bool (by first | (rw [hF]; rfl) | rfl | (rw [hF]; simp <;> omega)), HB1.out⟩)
        · have hkb : (k == 1) = false := by simp [k1]
          have hk6 : (k == 6) = false := by simp [h6]
          cases z
          · have hF : fitT k s m n len = false := by
             have hi := fit_iff k s m n len
             rw [HZ.out] at hi
             cases hb : fitT k s m n len
             · rfl
             · have hj := hi.1 hb
               clear hi hb
               simp at hj
               try omega
            clear HM0 HMM HROW HPS HIH HL HNP HC
            go_enter Try.func34, Try.ntmps34
            go_wp2
            all_goals (go_ret; exact ⟨ret_bool (by first | (rw [hF]; rfl) | rfl | (rw [hF]; simp <;> omega)), HB1.out⟩)
          · have hF : fitT k s m n len = false := by
             have hi := fit_iff k s m n len
             rw [HZ.out] at hi
             cases hb : fitT k s m n len
             · rfl
             · have hj := hi.1 hb
               clear hi hb
               simp at hj
               try omega
            clear HM0 HMM HROW HPS HIH HL HNP HC
            go_enter Try.func34, Try.ntmps34
            go_wp2
            all_goals (go_ret; exact ⟨ret_bool (by first | (rw [hF]; rfl) | rfl | (rw [hF]; simp <;> omega)), HB1.out⟩)
end Go.Proofs.Ytboebadpohjolaa
