import Derived.Test.YthhchpmlljfpjaaGreatPuO
import Derived.Test.YthhchpmlljfpjaaGreatNfC
namespace Go.Proofs.YthhchpmlljfpjaaGreat
open Go.RowKit

theorem ret_int2 {k q : IntKind} {a b c : Int} (h : a = b) : Ending.returned (.tuple #[.int k a, .int q c]) = .returned (.tuple #[.int k b, .int q c]) := by rw [h]
def sizeE (t : PT) : Int := if chk t = 0 then (if cnt t + 1 ≤ 4096 then 0 else 3) else chk t
def sizeN (t : PT) : Nat := if chk t = 0 then (if cnt t + 1 ≤ 4096 then cnt t + 1 else 0) else 0
set_option maxHeartbeats 1000000 in
set_option maxRecDepth 100000 in
theorem p_Size (t : NT) (w : World) (hn : t.num) (hl : t.Lies w) : Calls Tryz.prog 33 #[t.val] w fun e w' => e = .returned (.tuple #[.int .i64 ((sizeN t.pt : Nat) : Int), .int .i64 (sizeE t.pt)]) ∧ Below w.heap.size w w' := by
  have hck := fun W (hW : Below w.heap.size w W) => p_Check t W hn (hl.below hW)
  have hcnt := fun (h0 : chk t.pt = 0) W (hW : Below w.heap.size w W) => p_cnt t W (chk_zero h0).2 (Nat.le_trans (chk_zero h0).1 (by decide)) (hl.below hW)
  unfold sizeE sizeN
  obtain ⟨e0, he0⟩ : ∃ e0, chk t.pt = e0 := ⟨_, rfl⟩
  obtain ⟨x0, hx0⟩ : ∃ x0, cnt t.pt = x0 := ⟨_, rfl⟩
  rw [he0] at hck hcnt ⊢
  rw [hx0] at hcnt ⊢
  obtain ⟨k, s, m, n, p, ps⟩ := t
  obtain ⟨⟨a, c, rfl, _⟩, _⟩ := NT.Lies_mk.1 hl
  have HCK : Hid (∀ W, Below w.heap.size w W → Calls Tryz.prog 52 #[nodeVal k s m n (.slice a ps.length c)] W fun e w' => e = .returned (.int .i64 e0) ∧ Below W.heap.size W w') := hck
  have HCNT : Hid (e0 = 0 → ∀ W, Below w.heap.size w W → Calls Tryz.prog 53 #[nodeVal k s m n (.slice a ps.length c)] W fun e w' => e = .returned (.int .i64 ((cut x0 : Nat) : Int)) ∧ Below W.heap.size W w') := hcnt
  show Calls Tryz.prog 33 #[nodeVal k s m n (.slice a ps.length c)] w _
  generalize ps.length = len at HCK HCNT ⊢
  have HB1 : Hid (Below w.heap.size w (w.alloc (.cells #[.int .i64 k, .int .u64 (s.a : Nat), .int .u64 (s.b : Nat), .int .u64 (s.c : Nat), .int .u64 (s.d : Nat), .int .i64 m, .int .i64 n, .slice a len c] 42))) := (Below.refl _ _).alloc (Nat.le_refl _) _
  have HC1 : Hid (CB (w.alloc (.cells #[.int .i64 k, .int .u64 (s.a : Nat), .int .u64 (s.b : Nat), .int .u64 (s.c : Nat), .int .u64 (s.d : Nat), .int .i64 m, .int .i64 n, .slice a len c] 42)) 42 w.heap.size (nodeCells k s m n (.slice a len c))) := CB.new w _ _
  clear hck hcnt he0 hx0 hn hl
  by_cases h0 : e0 = 0
  · subst h0
    have HCNT2 := Lib.hid (HCNT.out rfl)
    clear HCNT
    rw [if_pos rfl, if_pos rfl]
    obtain ⟨y, hy⟩ : ∃ y, cut x0 = y := ⟨_, rfl⟩
    have hyx : y = min x0 4097 := by rw [← hy]; rfl
    rw [hy] at HCNT2
    clear hy
    by_cases h4 : x0 + 1 ≤ 4096
    · rw [if_pos h4, if_pos h4]
      have e1 : 1 + (y : Int) = ((x0 + 1 : Nat) : Int) := by omega
      have e2 : ¬ (4096 : Int) < ((x0 + 1 : Nat) : Int) := by omega
      have e3 : ¬ (4096 : Int) < 1 + (y : Int) := by omega
      go_enter Tryz.func33, Tryz.ntmps33
      go_wp2_with (first | (go_at_call 52; refine (HCK.out _ HB1.out).mono ?_; rintro e w2 ⟨rfl, hb2⟩; have HB2 : Hid (Below w.heap.size w w2) := HB1.out.trans (hb2.mono HB1.out.size); obtain ⟨⟨c0, c1, c2, c3, c4, c5, c6, c7⟩, _⟩ := (CB.below HC1.out hb2).eight; clear hb2) | (go_at_call 53; refine (HCNT2.out _ HB2.out).mono ?_; rintro e w3 ⟨rfl, hb3⟩))
      go_ret2
      exact ⟨ret_int2 (by omega), HB2.out.trans (hb3.mono HB2.out.size)⟩
    · rw [if_neg h4, if_neg h4]
      have e3 : (4096 : Int) < 1 + (y : Int) := by omega
      have hy4 : y ≤ 4097 := by omega
      go_enter Tryz.func33, Tryz.ntmps33
      go_wp2_with (first | (go_at_call 52; refine (HCK.out _ HB1.out).mono ?_; rintro e w2 ⟨rfl, hb2⟩; have HB2 : Hid (Below w.heap.size w w2) := HB1.out.trans (hb2.mono HB1.out.size); obtain ⟨⟨c0, c1, c2, c3, c4, c5, c6, c7⟩, _⟩ := (CB.below HC1.out hb2).eight; clear hb2) | (go_at_call 53; refine (HCNT2.out _ HB2.out).mono ?_; rintro e w3 ⟨rfl, hb3⟩))
      go_ret2
      exact ⟨rfl, HB2.out.trans (hb3.mono HB2.out.size)⟩
  · rw [if_neg h0, if_neg h0]
    have hne : (e0 != 0) = true := by simpa using h0
    go_enter Tryz.func33, Tryz.ntmps33
    go_wp2_with (go_at_call 52; refine (HCK.out _ HB1.out).mono ?_; rintro e w2 ⟨rfl, hb2⟩; have HB2 : Hid (Below w.heap.size w w2) := HB1.out.trans (hb2.mono HB1.out.size); clear hb2)
    go_ret2
    exact ⟨rfl, HB2.out⟩
end Go.Proofs.YthhchpmlljfpjaaGreat
