import Derived.Test.YthhchpmlljfpjaaGreatPuB
import Derived.Test.YthhchpmlljfpjaaGreatPuC
import Derived.Test.YthhchpmlljfpjaaGreatPtX
namespace Go.Proofs.YthhchpmlljfpjaaGreat
open Go.RowKit

/-! Check. -/
mutual
/-- All numbers are machine numbers. -/
def NT.num : NT → Prop | .mk k s m n _ ps => In64 k ∧ In64 m ∧ In64 n ∧ s.fit ∧ NT.numL ps
def NT.numL : List NT → Prop | [] => True | t :: ts => t.num ∧ NT.numL ts
end
theorem NT.numL_all (ps : List NT) : NT.numL ps ↔ ∀ t ∈ ps, t.num := by
  induction ps with
  | nil => simp [NT.numL]
  | cons t ts ih => rw [NT.numL, ih]; simp
theorem NT.num_mk {k : Int} {s : S4} {m n : Int} {p : Value} {ps : List NT} : (NT.mk k s m n p ps).num ↔ In64 k ∧ In64 m ∧ In64 n ∧ s.fit ∧ ∀ t ∈ ps, t.num := by rw [NT.num, NT.numL_all]
theorem mayL_app (a b : List PT) : mayL (a ++ b) = (mayL a && mayL b) := by
  induction a with
  | nil => rfl
  | cons t ts ih => rw [List.cons_append, mayL, mayL, ih, Bool.and_assoc]
theorem mayL_take {ps : List NT} {i : Nat} (h : i < ps.length) : mayL ((ps.map NT.pt).take (i + 1)) = (mayL ((ps.map NT.pt).take i) && may (ps[i]).pt) := by
  rw [take_mapP h, mayL_app, mayL, mayL, Bool.and_true]
theorem mayL_not {l : List PT} {i : Nat} (h : mayL (l.take i) = false) : mayL l = false := by
  have := mayL_app (l.take i) (l.drop i)
  rw [List.take_append_drop, h] at this
  simpa using this
theorem nodes_part {k : Int} {s : S4} {m n : Int} {p : Value} {ps : List NT} : ps.length + 1 ≤ nodes (NT.mk k s m n p ps).pt ∧ ∀ t ∈ ps, nodes t.pt ≤ nodes (NT.mk k s m n p ps).pt := by
  rw [nodes_mk]
  have h := nodesL_len (ps.map NT.pt)
  rw [List.length_map] at h
  refine ⟨by omega, ?_⟩
  induction ps with
  | nil => intro t ht; cases ht
  | cons x xs ih =>
    intro t ht
    rw [List.map_cons, nodesL]
    rcases List.mem_cons.1 ht with rfl | ht
    · omega
    · have := ih (by have := nodesL_len (xs.map NT.pt); rwa [List.length_map] at this) t ht
      omega
set_option maxHeartbeats 1000000 in
set_option maxRecDepth 100000 in
theorem p_mayBe (t : NT) : ∀ (w : World), nodes t.pt ≤ 1099511627776 → t.num → t.Lies w → Calls Tryz.prog 68 #[t.val] w fun e w' => e = .returned (.bool (may t.pt)) ∧ Below w.heap.size w w' := by
  induction t using NT.ind with
  | h k s m n p ps ih =>
    intro w hnod hnum hlies
    obtain ⟨⟨a, c, rfl, hrow⟩, hps⟩ := NT.Lies_mk.1 hlies
    obtain ⟨hk64, hm64, hn64, hsf, hnums⟩ := NT.num_mk.1 hnum
    obtain ⟨hl1, hnp⟩ := nodes_part (k := k) (s := s) (m := m) (n := n) (p := .slice a ps.length c) (ps := ps)
    have hlb : ps.length ≤ 1099511627776 := by omega
    have hnps : ∀ t ∈ ps, nodes t.pt ≤ 1099511627776 := fun t ht => Nat.le_trans (hnp t ht) hnod
    rw [NT.pt_mk, may, List.length_map]
    show Calls Tryz.prog 68 #[nodeVal k s m n (.slice a ps.length c)] w _
    obtain ⟨len, hlen⟩ : ∃ len, ps.length = len := ⟨_, rfl⟩
    rw [hlen] at hlb
    have HROW := Lib.hid hrow
    have HPS := Lib.hid hps
    have HIH := Lib.hid ih
    have HL := Lib.hid hlen
    have HNM := Lib.hid hnums
    have HNP := Lib.hid hnps
    rw [hlen]
    obtain ⟨ff, hff⟩ : ∃ ff, fitT k s m n len = ff := ⟨_, rfl⟩
    have hcf := fun W => p_fits k s m n a len c W hlb hm64 hn64
    rw [hff] at hcf ⊢
    have HCF := Lib.hid hcf
    clear hrow hps ih hlies hlen hcf hff hnod hnum hnums hl1 hnp hnps hsf
    cases ff
    · go_enter Tryz.func68, Tryz.ntmps68
      go_wp2_with (go_at_call 85; refine (HCF.out _).mono ?_; rintro e w2 ⟨rfl, hb2⟩)
      go_ret
      exact ⟨rfl, ((Below.refl _ _).alloc (Nat.le_refl _) _).trans (hb2.mono (by go_size))⟩
    · have HC : Hid (CB (w.alloc (.cells #[.int .i64 k, .int .u64 (s.a : Nat), .int .u64 (s.b : Nat), .int .u64 (s.c : Nat), .int .u64 (s.d : Nat), .int .i64 m, .int .i64 n, .slice a len c] 42)) 42 w.heap.size (nodeCells k s m n (.slice a len c))) := CB.new w _ _
      go_enter Tryz.func68, Tryz.ntmps68
      go_wp2_with (go_at_call 85; refine (HCF.out _).mono ?_; rintro e w2 ⟨rfl, hb2⟩; have HC2 := Lib.hid (CB.below HC.out hb2); obtain ⟨⟨c0, c1, c2, c3, c4, c5, c6, c7⟩, _⟩ := HC2.out.eight; have HB2 : Hid (Below w.heap.size w w2) := ((Below.refl _ _).alloc (Nat.le_refl _) _).trans (hb2.mono (by go_size)))
      clear c0 c1 c2 c3 c4 c5 c6 c7
      go_loopw [11] (fun iv wr => ∃ i : Nat, i ≤ len ∧ iv = .int .i64 (i : Nat) ∧ Hid (mayL ((ps.map NT.pt).take i) = true) ∧ Hid (Below w.heap.size w wr)) (fun iv _ => len - (intOf iv).toNat)
      case atStart => exact ⟨0, by omega, rfl, rfl, HB2.out⟩
      case round =>
        obtain ⟨i, hi, rfl, HX, HB⟩ := hrel
        by_cases hlt : i < len
        · have hip : i < ps.length := by rw [HL.out]; exact hlt
          obtain ⟨b, off, tk, tS, tm, tn, ta, tl, tc, tps, rfl, ht, htm, hra⟩ := lies_elem HROW.out HPS.out hip
          have HRA := Lib.hid (rangeAt_below hra HB.out)
          have htk := mayL_take hip
          rw [ht, HX.out, Bool.true_and] at htk
          obtain ⟨d, hd⟩ : ∃ d, may (NT.mk tk tS tm tn (.slice ta tl tc) tps).pt = d := ⟨_, rfl⟩
          have hcall := fun W hW => HIH.out _ htm W (HNP.out _ htm) (HNM.out _ htm) ((HPS.out _ htm).below hW)
          rw [hd] at hcall htk
          have HC1 := Lib.hid hcall
          have HTK := Lib.hid htk
          clear hd hcall ht hra htk
          cases d
          · go_wp2_with (first | (refine wpl_loadN (.tmp 13) rfl rfl (g := b) (off := off + i * 8) (k := tk) (s := tS) (m := tm) (n := tn) (p := .slice ta tl tc) ?_ ?_ ?_; rfl; exact HRA.out) | (go_at_call 68; refine (HC1.out _ (HB.out.alloc HB.out.size _)).mono ?_; rintro e w3 ⟨rfl, hb3⟩))
            go_ret
            exact ⟨ret_bool (by rw [mayL_not HTK.out]; rfl), (HB.out.alloc HB.out.size _).trans (hb3.mono (by have := HB.out.size; simp only [World.size_alloc]; omega))⟩
          · go_wp2_with (first | (refine wpl_loadN (.tmp 13) rfl rfl (g := b) (off := off + i * 8) (k := tk) (s := tS) (m := tm) (n := tn) (p := .slice ta tl tc) ?_ ?_ ?_; rfl; exact HRA.out) | (go_at_call 68; refine (HC1.out _ (HB.out.alloc HB.out.size _)).mono ?_; rintro e w3 ⟨rfl, hb3⟩))
            go_roundw
            case rel => exact ⟨i + 1, by omega, by go_num, HTK.out, (HB.out.alloc HB.out.size _).trans (hb3.mono (by have := HB.out.size; simp only [World.size_alloc]; omega))⟩
            case measure => simp [intOf]; omega
        · obtain rfl : i = len := by omega
          have hfin : mayL (ps.map NT.pt) = true := by
            have := HX.out
            rw [List.take_of_length_le (by rw [List.length_map, HL.out]; exact Nat.le_refl _)] at this
            exact this
          have HF := Lib.hid hfin
          clear hfin
          go_wp2
          go_ret
          exact ⟨ret_bool (by rw [HF.out]; rfl), HB.out⟩
/-- What Check answers. -/
def chk (t : PT) : Int := if 2048 < nodes t then 3 else if may t then 0 else 107
set_option maxHeartbeats 1000000 in
theorem p_Check (t : NT) (w : World) (hn : t.num) (hl : t.Lies w) : Calls Tryz.prog 52 #[t.val] w fun e w' => e = .returned (.int .i64 (chk t.pt)) ∧ Below w.heap.size w w' := by
  obtain ⟨k, s, m, n, p, ps⟩ := t
  obtain ⟨⟨a, c, rfl, _⟩, _⟩ := NT.Lies_mk.1 hl
  obtain ⟨N, hN⟩ : ∃ N, nodes (NT.mk k s m n (.slice a ps.length c) ps).pt = N := ⟨_, rfl⟩
  have h1 := fun W hW => p_counted (NT.mk k s m n (.slice a ps.length c) ps) 2048 W (by omega) (hl.below hW)
  have h2 := fun W (hW : Below w.heap.size w W) (hN2 : N ≤ 2048) => p_mayBe (NT.mk k s m n (.slice a ps.length c) ps) W (by rw [hN]; omega) hn (hl.below hW)
  obtain ⟨d, hd⟩ : ∃ d, may (NT.mk k s m n (.slice a ps.length c) ps).pt = d := ⟨_, rfl⟩
  unfold chk
  rw [hN] at h1 ⊢
  rw [hd] at h2 ⊢
  show Calls Tryz.prog 52 #[nodeVal k s m n (.slice a ps.length c)] w _
  have H1 : Hid (∀ W, Below w.heap.size w W → Calls Tryz.prog 67 #[nodeVal k s m n (.slice a ps.length c), .int .i64 2048] W fun e w' => e = .returned (.int .i64 ((min N (2048 + 1) : Nat) : Int)) ∧ Below W.heap.size W w') := h1
  have H2 : Hid (∀ W, Below w.heap.size w W → N ≤ 2048 → Calls Tryz.prog 68 #[nodeVal k s m n (.slice a ps.length c)] W fun e w' => e = .returned (.bool d) ∧ Below W.heap.size W w') := h2
  generalize ps.length = len at H1 H2 ⊢
  clear h1 h2 hN hd hl hn
  by_cases hb : 2048 < N
  · have e1 : min N (2048 + 1) = 2049 := by omega
    rw [e1] at H1
    rw [if_pos hb]
    go_enter Tryz.func52, Tryz.ntmps52
    go_wp2_with (go_at_call 67; refine (H1.out _ ((Below.refl _ _).alloc (Nat.le_refl _) _)).mono ?_; rintro e w2 ⟨rfl, hb2⟩)
    go_ret
    exact ⟨rfl, ((Below.refl _ _).alloc (Nat.le_refl _) _).trans (hb2.mono (by go_size))⟩
  · have e1 : min N (2048 + 1) = N := by omega
    rw [e1] at H1
    rw [if_neg hb]
    have hN2 : N ≤ 2048 := by omega
    have HC : Hid (CB (w.alloc (.cells #[.int .i64 k, .int .u64 (s.a : Nat), .int .u64 (s.b : Nat), .int .u64 (s.c : Nat), .int .u64 (s.d : Nat), .int .i64 m, .int .i64 n, .slice a len c] 42)) 42 w.heap.size (nodeCells k s m n (.slice a len c))) := CB.new w _ _
    cases d
    all_goals
      go_enter Tryz.func52, Tryz.ntmps52
      go_wp2_with (first | (go_at_call 67; refine (H1.out _ ((Below.refl _ _).alloc (Nat.le_refl _) _)).mono ?_; rintro e w2 ⟨rfl, hb2⟩; have HB2 : Hid (Below w.heap.size w w2) := ((Below.refl _ _).alloc (Nat.le_refl _) _).trans (hb2.mono (by go_size)); have HC2 := Lib.hid (CB.below HC.out hb2); obtain ⟨⟨c0, c1, c2, c3, c4, c5, c6, c7⟩, _⟩ := HC2.out.eight) | (go_at_call 68; refine (H2.out _ HB2.out hN2).mono ?_; rintro e w3 ⟨rfl, hb3⟩))
      go_ret
      exact ⟨rfl, HB2.out.trans (hb3.mono HB2.out.size)⟩
end Go.Proofs.YthhchpmlljfpjaaGreat
