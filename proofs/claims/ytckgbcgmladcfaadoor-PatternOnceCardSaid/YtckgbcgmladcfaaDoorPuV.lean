import Derived.Test.YtckgbcgmladcfaaDoorPuU
namespace Go.Proofs.YtckgbcgmladcfaaDoor
open Go.RowKit

theorem work_parts {k : Int} {S : S4} {m n : Int} {p : Value} {ps : List NT} (h : (NT.mk k S m n p ps).pt = workT) : k = 4 ∧ S = .zero ∧ m = 0 ∧ n = 0 ∧ ps.map NT.pt = [repT4 0 (-1) abT, setT setW] := by
  rw [NT.pt_mk] at h
  unfold workT at h
  injection h with h1 h2 h3 h4 h5
  exact ⟨h1, h2, h3, h4, h5⟩
theorem print_w {w1 : World} {t : NT} (hpt : t.pt = workT) (hl : t.Lies w1) (hT : Tb w1) : ∃ X : ByteArray, (X.toList == [40, 97, 98, 41, 42, 91, 91, 46, 93, 46, 93, 97, 45, 99, 93]) = true ∧ ∀ W, Below w1.heap.size w1 W → Calls Tryd.prog 8 #[t.val] W fun e w' => e = .returned (.tuple #[.string X, .int .i64 0]) ∧ Below W.heap.size W w' := by
  refine ⟨strN (prt workT), ?_, fun W hW => ?_⟩
  · rw [beq_lit, prt_w, bsN_strN (fun x hx => by simp at hx; omega)]
    decide
  · refine (p_Print t W (NT.num_of t (by rw [hpt]; exact may_w) (by rw [hpt]; exact sets_w)) (hl.below hW) (hT.below hW)).mono ?_
    rintro e w' ⟨rfl, hb, _⟩
    rw [hpt, prn_w.1, prn_w.2]
    exact ⟨rfl, hb⟩
/-- The eight cells of a node at a place stay readable. -/
def At8 (w : World) (g off : Nat) (k : Int) (s : S4) (m n : Int) (p : Value) : Prop := ∀ W, Below w.heap.size w W → W.cell? ⟨g, off, none⟩ = some (.int .i64 k) ∧ W.cell? ⟨g, off + 1, none⟩ = some (.int .u64 (s.a : Nat)) ∧ W.cell? ⟨g, off + 2, none⟩ = some (.int .u64 (s.b : Nat)) ∧ W.cell? ⟨g, off + 3, none⟩ = some (.int .u64 (s.c : Nat)) ∧ W.cell? ⟨g, off + 4, none⟩ = some (.int .u64 (s.d : Nat)) ∧ W.cell? ⟨g, off + 5, none⟩ = some (.int .i64 m) ∧ W.cell? ⟨g, off + 6, none⟩ = some (.int .i64 n) ∧ W.cell? ⟨g, off + 7, none⟩ = some p
theorem work_elems {w : World} {a : Option Addr} {c d : Nat} {ps : List NT} (hl : (NT.mk 4 .zero 0 0 (.slice a c d) ps).Lies w) (h : ps.map NT.pt = [repT4 0 (-1) abT, setT setW]) :
    c = 2 ∧ ∃ b off, a = some ⟨b, off, none⟩ ∧ (∀ W, Below w.heap.size w W → ∃ p, W.cell? ⟨b, off, none⟩ = some (.int .i64 6) ∧ W.cell? ⟨b, off + 1, none⟩ = some (.int .u64 0) ∧ W.cell? ⟨b, off + 2, none⟩ = some (.int .u64 0) ∧ W.cell? ⟨b, off + 3, none⟩ = some (.int .u64 0) ∧ W.cell? ⟨b, off + 4, none⟩ = some (.int .u64 0) ∧ W.cell? ⟨b, off + 7, none⟩ = some p) ∧
      (∀ W, Below w.heap.size w W → W.cell? ⟨b, off + 8, none⟩ = some (.int .i64 1) ∧ W.cell? ⟨b, off + 8 + 1, none⟩ = some (.int .u64 0) ∧ W.cell? ⟨b, off + 8 + 2, none⟩ = some (.int .u64 60666413056) ∧ W.cell? ⟨b, off + 8 + 3, none⟩ = some (.int .u64 0) ∧ W.cell? ⟨b, off + 8 + 4, none⟩ = some (.int .u64 0)) := by
  obtain ⟨⟨a', c', e, hrow⟩, hps⟩ := NT.Lies_mk.1 hl
  have hlen : ps.length = 2 := by have := congrArg List.length h; simpa using this
  injection e with e1 e2 e3
  subst e1
  obtain ⟨b, off, k, s, m, n, ta, tl, tc, tps, rfl, ht, htm, hra⟩ := lies_elem (i := 0) hrow hps (by omega)
  obtain ⟨b', off', k', s', m', n', ta', tl', tc', tps', hbo, ht', htm', hra'⟩ := lies_elem (i := 1) hrow hps (by omega)
  injection hbo with hbo
  injection hbo with hb1 hb2
  subst hb1 hb2
  have h0 : (ps[0]).pt = repT4 0 (-1) abT := by
    have : (ps.map NT.pt)[0]'(by rw [List.length_map]; omega) = repT4 0 (-1) abT := by simp only [h]; rfl
    simpa using this
  have h1 : (ps[1]).pt = setT setW := by
    have : (ps.map NT.pt)[1]'(by rw [List.length_map]; omega) = setT setW := by simp only [h]; rfl
    simpa using this
  rw [ht, NT.pt_mk] at h0
  rw [ht', NT.pt_mk] at h1
  unfold repT4 at h0
  unfold setT at h1
  injection h0 with q1 q2
  injection h1 with r1 r2
  subst q1 q2 r1 r2
  rw [Nat.zero_mul, Nat.add_zero] at hra
  rw [Nat.one_mul] at hra'
  refine ⟨by omega, b, off, rfl, fun W hW => ?_, fun W hW => ?_⟩
  · obtain ⟨z0, z1, z2, z3, z4, z5, z6, z7⟩ := range8 (rangeAt_below hra hW)
    exact ⟨_, z0, z1, z2, z3, z4, z7⟩
  · obtain ⟨z0, z1, z2, z3, z4, z5, z6, z7⟩ := range8 (rangeAt_below hra' hW)
    rw [setW_val] at z1 z2 z3 z4
    exact ⟨z0, z1, z2, z3, z4⟩
theorem num_leaf : (leafN 4 .zero).num := by
  unfold leafN
  rw [NT.num_mk]
  exact ⟨by unfold In64; omega, by unfold In64; omega, by unfold In64; omega, S4.zero_fit, fun t ht => by cases ht⟩
theorem lies_leaf {w : World} : (leafN 4 .zero).Lies w := NT.Own.lies _ (leafN_own 4 .zero w 0)
theorem chk_leaf : chk (leafN 4 .zero).pt = 107 := by
  rw [leafN_pt]
  decide +kernel
set_option maxHeartbeats 2000000 in
set_option maxRecDepth 100000 in
theorem p_works (w : World) (hg : Gl w) (hT : Tb w) (hw : 0 + 2 ≤ w.heap.size) : Calls Tryd.prog 10 #[] w fun e w' => e = .returned (.bool true) ∧ Below w.heap.size w w' := by
  have HG := Lib.hid hg
  have HT := Lib.hid hT
  clear hg hT
  go_enter Tryd.func10, Tryd.ntmps10
  go_wp2_with (first | (go_at_call 11; refine (p_parse_no ⟨#[91, 98, 45, 97, 93]⟩ 102 _ (HG.out.below HB3.out) hs3 (by decide) (by decide) run_ba).mono ?_; rintro e w4 ⟨hb4, k4, hk4, rfl⟩; obtain rfl : k4 = 102 := (by omega); have HB4 : Hid (Below w.heap.size w (w4.alloc (.cells (nodeCells 0 .zero 0 0 (.slice none 0 0)).toArray 27))) := (HB3.out.trans (hb4.mono HB3.out.size)).alloc (HB3.out.trans (hb4.mono HB3.out.size)).size _; have HC4 := Lib.hid (CB.alloc (CB.below HC3.out hb4) (.cells (nodeCells 0 .zero 0 0 (.slice none 0 0)).toArray 27)); have HW4 : Hid (Below w1.heap.size w1 (w4.alloc (.cells (nodeCells 0 .zero 0 0 (.slice none 0 0)).toArray 27))) := (HW3.out.trans (hb4.mono HW3.out.size)).alloc (HW3.out.trans (hb4.mono HW3.out.size)).size _; obtain ⟨⟨x0, x1, x2, x3, x4, x5, x6, x7⟩, _⟩ := HC4.out.eight; obtain ⟨pq, a0, a1, a2, a3, a4, a7⟩ := HQ0.out _ HW4.out; obtain ⟨b0, b1, b2, b3, b4⟩ := HQ1.out _ HW4.out; clear hb4 hk4) | (go_at_call 11; refine (p_parse_no ⟨#[97, 123, 51, 44, 50, 125]⟩ 105 _ (HG.out.below HB2.out) hs2 (by decide) (by decide) run_a32).mono ?_; rintro e w3 ⟨hb3, k3, hk3, rfl⟩; obtain rfl : k3 = 105 := (by omega); have HB3 : Hid (Below w.heap.size w (w3.alloc (.cells (nodeCells 0 .zero 0 0 (.slice none 0 0)).toArray 27))) := (HB2.out.trans (hb3.mono HB2.out.size)).alloc (HB2.out.trans (hb3.mono HB2.out.size)).size _; have HC3 := Lib.hid (CB.alloc (CB.below HC2.out hb3) (.cells (nodeCells 0 .zero 0 0 (.slice none 0 0)).toArray 27)); have HW3 : Hid (Below w1.heap.size w1 (w3.alloc (.cells (nodeCells 0 .zero 0 0 (.slice none 0 0)).toArray 27))) := (HW2.out.trans (hb3.mono HW2.out.size)).alloc (HW2.out.trans (hb3.mono HW2.out.size)).size _; have hs3 := Nat.le_trans hw HB3.out.size; clear hb3 hk3) | (go_at_call 8; refine (HPR.out _ ((Below.refl _ _).alloc (Nat.le_refl _) _)).mono ?_; rintro e w2 ⟨rfl, hb2⟩; have HB2 : Hid (Below w.heap.size w w2) := HBa.out.trans (hb2.mono HBa.out.size); have HC2 := Lib.hid (CB.below HCB.out hb2); have HW2 : Hid (Below w1.heap.size w1 w2) := ((Below.refl _ _).alloc (Nat.le_refl _) _).trans (hb2.mono (by go_size)); have hs2 := Nat.le_trans hw HB2.out.size; clear hb2) | (go_at_call 11; refine (p_parse_ok ⟨#[40, 97, 98, 41, 42, 91, 93, 97, 45, 99, 93]⟩ workT _ HG.out hw (by decide) run_w).mono ?_; rintro e w1 ⟨hb1, k, S, m, n, a, c, d, ps, hN, hpt, rfl⟩; obtain ⟨rfl, rfl, rfl, rfl, hps⟩ := work_parts hpt; obtain ⟨rfl, b, off, rfl, hq0, hq1⟩ := work_elems (NT.Own.lies _ hN.own) hps; obtain ⟨X, hX, hpr⟩ := print_w hpt (NT.Own.lies _ hN.own) (HT.out.below hb1); have HPR := Lib.hid hpr; have HB1 := Lib.hid hb1; have HQ0 := Lib.hid hq0; have HQ1 := Lib.hid hq1; have HCB : Hid (CB (w1.alloc (.cells (nodeCells 4 .zero 0 0 (.slice (some ⟨b, off, none⟩) 2 d)).toArray 27)) 27 w1.heap.size (nodeCells 4 .zero 0 0 (.slice (some ⟨b, off, none⟩) 2 d))) := CB.new w1 _ _; have HBa : Hid (Below w.heap.size w (w1.alloc (.cells (nodeCells 4 .zero 0 0 (.slice (some ⟨b, off, none⟩) 2 d)).toArray 27))) := hb1.alloc hb1.size _; clear hb1 hN hpt hps hpr hq0 hq1) | (go_at_call 9; refine (p_Check (leafN 4 .zero) _ num_leaf lies_leaf).mono ?_; rintro e w5 ⟨rfl, hb5⟩; rw [chk_leaf]))
  go_ret
  exact ⟨rfl, HB4.out.trans (hb5.mono HB4.out.size)⟩
end Go.Proofs.YtckgbcgmladcfaaDoor
