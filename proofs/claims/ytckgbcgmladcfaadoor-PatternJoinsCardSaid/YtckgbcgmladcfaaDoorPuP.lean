import Derived.Test.YtckgbcgmladcfaaDoorPuO
namespace Go.Proofs.YtckgbcgmladcfaaDoor
open Go.RowKit

/-! Two trees that are the same. -/
set_option maxHeartbeats 2000000 in
set_option maxRecDepth 100000 in
theorem p_same (t : NT) : ∀ (u : NT) (w : World), t.pt = u.pt → nodes t.pt ≤ 1099511627776 → t.Lies w → u.Lies w → Calls Tryd.prog 12 #[t.val, u.val] w fun e w' => e = .returned (.bool true) ∧ Below w.heap.size w w' := by
  induction t using NT.ind with
  | h k s m n p ps ih =>
    intro u w he hnod hl1 hl2
    obtain ⟨k', s', m', n', p', qs⟩ := u
    rw [NT.pt_mk, NT.pt_mk] at he
    simp only [PT.mk.injEq] at he
    obtain ⟨rfl, rfl, rfl, rfl, hpq⟩ := he
    obtain ⟨⟨a, c, rfl, hrow⟩, hps⟩ := NT.Lies_mk.1 hl1
    obtain ⟨⟨a', c', rfl, hrow'⟩, hqs⟩ := NT.Lies_mk.1 hl2
    obtain ⟨hlb, hnp⟩ := nodes_part (k := k) (s := s) (m := m) (n := n) (p := .slice a ps.length c) (ps := ps)
    have hlen2 : qs.length = ps.length := by have := congrArg List.length hpq; simpa using this.symm
    have HAT : Hid (∀ (i : Nat) (h : i < ps.length) (h' : i < qs.length), (ps[i]).pt = (qs[i]).pt) := fun i h h' => by
      have h9 : (ps.map NT.pt)[i]'(by simpa using h) = (qs.map NT.pt)[i]'(by simpa using h') := by simp only [hpq]
      simpa using h9
    show Calls Tryd.prog 12 #[nodeVal k s m n (.slice a ps.length c), nodeVal k s m n (.slice a' qs.length c')] w _
    rw [hlen2]
    obtain ⟨len, hlen⟩ : ∃ len, ps.length = len := ⟨_, rfl⟩
    have hlb2 : len ≤ 1099511627776 := by omega
    have HROW := Lib.hid hrow
    have HPS := Lib.hid hps
    have HROW2 := Lib.hid hrow'
    have HQS := Lib.hid hqs
    have HIH := Lib.hid ih
    have HNP : Hid (∀ t ∈ ps, nodes t.pt ≤ 1099511627776) := fun t ht => Nat.le_trans (hnp t ht) hnod
    have HL := Lib.hid hlen
    have HL2 : Hid (qs.length = len) := hlen2.trans hlen
    rw [hlen]
    obtain ⟨W1, hW1⟩ : ∃ W1, (w.alloc (.cells #[.int .i64 k, .int .u64 (s.a : Nat), .int .u64 (s.b : Nat), .int .u64 (s.c : Nat), .int .u64 (s.d : Nat), .int .i64 m, .int .i64 n, .slice a len c] 27)).alloc (.cells #[.int .i64 k, .int .u64 (s.a : Nat), .int .u64 (s.b : Nat), .int .u64 (s.c : Nat), .int .u64 (s.d : Nat), .int .i64 m, .int .i64 n, .slice a' len c'] 27) = W1 := ⟨_, rfl⟩
    have HC1 : Hid (CB W1 27 w.heap.size (nodeCells k s m n (.slice a len c))) := by rw [← hW1]; exact CB.alloc (CB.new w _ _) _
    have HC2 : Hid (CB W1 27 (w.heap.size + 1) (nodeCells k s m n (.slice a' len c'))) := by rw [← hW1]; exact cb2 w _ _ _
    have HBW : Hid (Below w.heap.size w W1) := by rw [← hW1]; exact ((Below.refl _ _).alloc (Nat.le_refl _) _).alloc (by go_size) _
    have HW1 := Lib.hid hW1
    clear hrow hrow' hps hqs ih hl1 hl2 hnp hlb hnod hpq hlen hlen2 hW1
    go_enter Tryd.func12, Tryd.ntmps12
    go_wp2
    rw [HW1.out]
    go_loopw [5] (fun iv wr => ∃ i : Nat, i ≤ len ∧ iv = .int .i64 (i : Nat) ∧ Hid (Below W1.heap.size W1 wr)) (fun iv _ => len - (intOf iv).toNat)
    case atStart => exact ⟨0, by omega, rfl, Below.refl _ _⟩
    case round =>
      obtain ⟨i, hi, rfl, HB⟩ := hrel
      obtain ⟨⟨x0, x1, x2, x3, x4, x5, x6, x7⟩, _⟩ := (CB.below HC1.out HB.out).eight
      obtain ⟨⟨y0, y1, y2, y3, y4, y5, y6, y7⟩, _⟩ := (CB.below HC2.out HB.out).eight
      have HBr : Hid (Below w.heap.size w wr) := HBW.out.trans (HB.out.mono HBW.out.size)
      by_cases hlt : i < len
      · have hip : i < ps.length := by rw [HL.out]; exact hlt
        have hiq : i < qs.length := by rw [HL2.out]; exact hlt
        obtain ⟨b, off, tk, tS, tm, tn, ta, tl, tc, tps, rfl, ht, htm, hra⟩ := lies_elem HROW.out HPS.out hip
        obtain ⟨b', off', uk, uS, um, un, ua, ul, uc, ups, rfl, hu, hum, hra'⟩ := lies_elem HROW2.out HQS.out hiq
        have hat := HAT.out i hip hiq
        rw [ht, hu] at hat
        obtain ⟨a0, a1, a2, a3, a4, a5, a6, a7⟩ := range8 (rangeAt_below hra HBr.out)
        obtain ⟨b0, b1, b2, b3, b4, b5, b6, b7⟩ := range8 (rangeAt_below hra' HBr.out)
        have hcall := fun W (hW : Below w.heap.size w W) => HIH.out _ htm _ W hat (HNP.out _ htm) ((HPS.out _ htm).below hW) ((HQS.out _ hum).below hW)
        have HCALL := Lib.hid hcall
        clear hat hcall ht hu hra hra'
        go_wp2
        go_region_with (go_at_call 12; refine (HCALL.out _ HBr.out.drew).mono ?_; rintro e w3 ⟨rfl, hb3⟩; have HB3 : Hid (Below w.heap.size w w3) := HBr.out.trans ((below_drw hb3).mono HBr.out.size); have HB4 : Hid (Below W1.heap.size W1 w3) := HB.out.trans ((below_drw hb3).mono HB.out.size))
        all_goals
          go_wp2
          go_roundw
          case rel => exact ⟨i + 1, by omega, by go_num, HB4⟩
          case measure => simp [intOf]; omega
      · obtain rfl : i = len := by omega
        go_wp2
        go_ret
        exact ⟨rfl, HBr.out⟩
end Go.Proofs.YtckgbcgmladcfaaDoor
