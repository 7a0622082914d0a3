import Derived.Test.YthhchpmlljfpjaaGreatPuA
import Derived.Test.YthhchpmlljfpjaaGreatPtP
namespace Go.Proofs.YthhchpmlljfpjaaGreat
open Go.RowKit

/-! A tree's nodes, counted. -/
set_option maxHeartbeats 1000000 in
set_option maxRecDepth 100000 in
theorem p_counted (t : NT) : ∀ (most : Nat) (w : World), most ≤ 1099511627776 → t.Lies w → Calls Tryz.prog 67 #[t.val, .int .i64 (most : Nat)] w fun e w' => e = .returned (.int .i64 ((min (nodes t.pt) (most + 1) : Nat) : Int)) ∧ Below w.heap.size w w' := by
  induction t using NT.ind with
  | h k s m n p ps ih =>
    intro most w hmost hlies
    obtain ⟨⟨a, c, rfl, hrow⟩, hps⟩ := NT.Lies_mk.1 hlies
    rw [nodes_mk]
    show Calls Tryz.prog 67 #[nodeVal k s m n (.slice a ps.length c), .int .i64 (most : Nat)] w _
    obtain ⟨len, hlen⟩ : ∃ len, ps.length = len := ⟨_, rfl⟩
    have HROW := Lib.hid hrow
    have HPS := Lib.hid hps
    have HIH := Lib.hid ih
    have HL := Lib.hid hlen
    have HC : Hid (CB (w.alloc (.cells #[.int .i64 k, .int .u64 (s.a : Nat), .int .u64 (s.b : Nat), .int .u64 (s.c : Nat), .int .u64 (s.d : Nat), .int .i64 m, .int .i64 n, .slice a len c] 42)) 42 w.heap.size (nodeCells k s m n (.slice a len c))) := CB.new w _ _
    rw [hlen]
    clear hrow hps ih hlies hlen
    go_enter Tryz.func67, Tryz.ntmps67
    go_wp2
    go_loopw [5, 11] (fun cv iv wr => ∃ i x : Nat, i ≤ len ∧ i < x ∧ x ≤ most + 1 ∧ iv = .int .i64 (i : Nat) ∧ cv = .int .i64 (x : Nat) ∧ Hid (x = min (1 + nodesL ((ps.map NT.pt).take i)) (most + 1)) ∧ Hid (Below w.heap.size w wr)) (fun _ iv _ => len - (intOf iv).toNat)
    case atStart => exact ⟨0, 1, by omega, by omega, by omega, rfl, rfl, (by show 1 = _; simp [nodesL]), (Below.refl _ _).alloc (Nat.le_refl _) _⟩
    case round =>
      obtain ⟨i, x, hi, hix, hx, rfl, rfl, HX, HB⟩ := hrel
      by_cases hlt : i < len
      · have hip : i < ps.length := by rw [HL.out]; exact hlt
        obtain ⟨b, off, tk, tS, tm, tn, ta, tl, tc, tps, rfl, ht, htm, hra⟩ := lies_elem HROW.out HPS.out hip
        have HRA := Lib.hid (rangeAt_below hra HB.out)
        have hnp := nodes_pos (NT.mk tk tS tm tn (.slice ta tl tc) tps).pt
        have htk := nodesL_take hip
        rw [ht] at htk
        have HX2 : Hid (x ≤ most → min (1 + nodesL ((ps.map NT.pt).take (i + 1))) (most + 1) = x + min (nodes (NT.mk tk tS tm tn (.slice ta tl tc) tps).pt) (most - x + 1)) := fun h => by
          have := HX.out
          omega
        have HX3 : Hid (most < x → min (1 + nodesL (ps.map NT.pt)) (most + 1) = x) := fun h => by
          have h1 := HX.out
          have h2 := nodesL_take_le (ps.map NT.pt) i
          omega
        clear ht hra hnp htk
        by_cases hxm : most < x
        · go_wp2_with (first | (refine wpl_loadN (.tmp 13) rfl rfl (g := b) (off := off + i * 8) (k := tk) (s := tS) (m := tm) (n := tn) (p := .slice ta tl tc) ?_ ?_ ?_; rfl; exact HRA.out))
          go_ret
          exact ⟨ret_int (by rw [HX3.out hxm]), HB.out.alloc HB.out.size _⟩
        · obtain ⟨d, hd⟩ : ∃ d, min (nodes (NT.mk tk tS tm tn (.slice ta tl tc) tps).pt) (most - x + 1) = d := ⟨_, rfl⟩
          have hdm : d ≤ most - x + 1 := by omega
          have hd1 : 1 ≤ d := by have := nodes_pos (NT.mk tk tS tm tn (.slice ta tl tc) tps).pt; omega
          have HD := Lib.hid hd
          have hcall := fun W hW => HIH.out _ htm (most - x) W (by omega) ((HPS.out _ htm).below hW)
          rw [hd] at hcall
          have e1 : ((most : Int) - (x : Int)) = ((most - x : Nat) : Int) := by omega
          have HC1 := Lib.hid hcall
          clear hd hcall
          go_wp2_with (first | (refine wpl_loadN (.tmp 13) rfl rfl (g := b) (off := off + i * 8) (k := tk) (s := tS) (m := tm) (n := tn) (p := .slice ta tl tc) ?_ ?_ ?_; rfl; exact HRA.out) | (go_at_call 67; refine (HC1.out _ (HB.out.alloc HB.out.size _)).mono ?_; rintro e w2 ⟨rfl, hb2⟩))
          go_roundw
          case rel => exact ⟨i + 1, x + d, by omega, by omega, by omega, by go_num, by go_num, (by show _ = _; rw [HX2.out (by omega), HD.out]), (HB.out.alloc HB.out.size _).trans (hb2.mono (by have := HB.out.size; simp only [World.size_alloc]; omega))⟩
          case measure => simp [intOf]; omega
      · obtain rfl : i = len := by omega
        have hfin : x = min (1 + nodesL (ps.map NT.pt)) (most + 1) := by
          have := HX.out
          rw [List.take_of_length_le (by rw [List.length_map, HL.out]; exact Nat.le_refl _)] at this
          exact this
        have HF := Lib.hid hfin
        clear hfin
        go_wp2
        go_ret
        exact ⟨ret_int (by rw [← HF.out]), HB.out⟩
end Go.Proofs.YthhchpmlljfpjaaGreat
