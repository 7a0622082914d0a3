import Derived.Test.YtboebadpohjolaaPuA
namespace Go.Proofs.Ytboebadpohjolaa
open Go.RowKit

/-! The law's own count of nodes. -/
set_option maxHeartbeats 1000000 in
set_option maxRecDepth 100000 in
theorem p_many11 (t : NT) : ∀ (top : Nat) (w : World), top ≤ 1099511627776 → t.Lies w → Calls Try.prog 5 #[t.val, .int .i64 (top : Nat)] w fun e w' => e = .returned (.int .i64 ((min (nodes t.pt) (top + 1) : Nat) : Int)) ∧ Below w.heap.size w w' := by
  induction t using NT.ind with
  | h k s m n p ps ih =>
    intro top w htop hlies
    obtain ⟨⟨a, c, rfl, hrow⟩, hps⟩ := NT.Lies_mk.1 hlies
    rw [nodes_mk]
    show Calls Try.prog 5 #[nodeVal k s m n (.slice a ps.length c), .int .i64 (top : Nat)] w _
    obtain ⟨len, hlen⟩ : ∃ len, ps.length = len := ⟨_, rfl⟩
    have HROW := Lib.hid hrow
    have HPS := Lib.hid hps
    have HIH := Lib.hid ih
    have HL := Lib.hid hlen
    rw [hlen]
    obtain ⟨W1, hW1⟩ : ∃ W1, w.alloc (.cells #[.int .i64 k, .int .u64 (s.a : Nat), .int .u64 (s.b : Nat), .int .u64 (s.c : Nat), .int .u64 (s.d : Nat), .int .i64 m, .int .i64 n, .slice a len c] 27) = W1 := ⟨_, rfl⟩
    have HC1 : Hid (CB W1 27 w.heap.size (nodeCells k s m n (.slice a len c))) := by rw [← hW1]; exact CB.new w _ _
    have HBW : Hid (Below w.heap.size w W1) := by rw [← hW1]; exact (Below.refl _ _).alloc (Nat.le_refl _) _
    have HW1 := Lib.hid hW1
    obtain ⟨R, hR⟩ : ∃ R, min (1 + nodesL (ps.map NT.pt)) (top + 1) = R := ⟨_, rfl⟩
    rw [hR]
    have HR := Lib.hid hR
    clear hrow hps ih hlies hlen hW1 hR
    go_enter Try.func5, Try.ntmps5
    go_wp2
    rw [HW1.out]
    go_loopw [5, 6] (fun cv iv wr => ∃ i x : Nat, i ≤ len ∧ i < x ∧ x ≤ 2 * top + 1 ∧ iv = .int .i64 (i : Nat) ∧ cv = .int .i64 (x : Nat) ∧ Hid (min x (top + 1) = min (1 + nodesL ((ps.map NT.pt).take i)) (top + 1)) ∧ Hid (Below W1.heap.size W1 wr)) (fun _ iv _ => len - (intOf iv).toNat)
    case atStart => exact ⟨0, 1, by omega, by omega, by omega, rfl, rfl, (by show _ = _; simp [nodesL]), Below.refl _ _⟩
    case round =>
      obtain ⟨i, x, hi, hix, hx, rfl, rfl, HX, HB⟩ := hrel
      obtain ⟨⟨x0, x1, x2, x3, x4, x5, x6, x7⟩, _⟩ := (CB.below HC1.out HB.out).eight
      have HBr : Hid (Below w.heap.size w wr) := HBW.out.trans (HB.out.mono HBW.out.size)
      by_cases hgo : i < len ∧ x ≤ top
      · obtain ⟨hlt, hxt⟩ := hgo
        have hip : i < ps.length := by rw [HL.out]; exact hlt
        obtain ⟨b, off, tk, tS, tm, tn, ta, tl, tc, tps, rfl, ht, htm, hra⟩ := lies_elem HROW.out HPS.out hip
        have HRA := Lib.hid (rangeAt_below hra HBr.out)
        have hnp := nodes_pos (NT.mk tk tS tm tn (.slice ta tl tc) tps).pt
        have htk := nodesL_take hip
        rw [ht] at htk
        obtain ⟨d, hd⟩ : ∃ d, min (nodes (NT.mk tk tS tm tn (.slice ta tl tc) tps).pt) (top + 1) = d := ⟨_, rfl⟩
        have hdt : d ≤ top + 1 := by omega
        have hd1 : 1 ≤ d := by omega
        have HX2 : Hid (min (x + d) (top + 1) = min (1 + nodesL ((ps.map NT.pt).take (i + 1))) (top + 1)) := (by show _ = _; have := HX.out; omega)
        have hcall := fun W hW => HIH.out _ htm top W htop ((HPS.out _ htm).below hW)
        rw [hd] at hcall
        have HC2 := Lib.hid hcall
        clear ht hra hnp htk hd hcall
        go_wp2_with (first | (refine wpl_loadN (.tmp 23) rfl rfl (g := b) (off := off + i * 8) (k := tk) (s := tS) (m := tm) (n := tn) (p := .slice ta tl tc) ?_ ?_ ?_; rfl; exact HRA.out) | (go_at_call 5; refine (HC2.out _ HBr.out).mono ?_; rintro e w2 ⟨rfl, hb2⟩))
        go_roundw
        case rel => exact ⟨i + 1, x + d, by omega, by omega, by omega, by go_num, by go_num, HX2.out, HB.out.trans (hb2.mono HB.out.size)⟩
        case measure => simp [intOf]; omega
      · have hfin : min x (top + 1) = R := by
          rw [← HR.out]
          have h1 := HX.out
          have h2 := nodesL_take_le (ps.map NT.pt) i
          by_cases hlt : i < len
          · omega
          · rw [List.take_of_length_le (by rw [List.length_map, HL.out]; omega)] at h1
            exact h1
        have emin : min (x : Int) ((top : Int) + 1) = (R : Int) := by omega
        clear hfin
        by_cases hlt : i < len
        · have hxt : ¬ x ≤ top := fun h => hgo ⟨hlt, h⟩
          clear hgo
          go_wp2
          all_goals (go_ret; exact ⟨ret_int (by omega), HBr.out⟩)
        · clear hgo
          go_wp2
          all_goals (go_ret; exact ⟨ret_int (by omega), HBr.out⟩)
end Go.Proofs.Ytboebadpohjolaa
