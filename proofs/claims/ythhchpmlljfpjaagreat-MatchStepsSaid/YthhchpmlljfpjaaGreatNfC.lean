import Derived.Test.YthhchpmlljfpjaaGreatNfB
import Derived.Test.YthhchpmlljfpjaaGreatPuD
import Derived.Test.YthhchpmlljfpjaaGreatPuN
namespace Go.Proofs.YthhchpmlljfpjaaGreat
open Go.RowKit

/-! Size: how many states a tree has. -/
def CntOK (t : NT) : Prop := ∀ (w : World), may t.pt = true → nodes t.pt ≤ 1099511627776 → t.Lies w → Calls Tryz.prog 53 #[t.val] w fun e w' => e = .returned (.int .i64 ((cut (cnt t.pt) : Nat) : Int)) ∧ Below w.heap.size w w'
theorem cut_lt (x : Nat) : cut x ≤ 4097 := by unfold cut; omega
set_option maxHeartbeats 1000000 in
set_option maxRecDepth 100000 in
theorem p_together (ps : List NT) (a : Option Addr) (c : Nat) (w : World) (ih : ∀ t ∈ ps, CntOK t) (hrow : RowAt w a (ps.flatMap NT.cells)) (hps : ∀ t ∈ ps, t.Lies w) (hmay : ∀ t ∈ ps, may t.pt = true) (hnod : ∀ t ∈ ps, nodes t.pt ≤ 1099511627776) (hlen : ps.length ≤ 1099511627776) :
    Calls Tryz.prog 69 #[.slice a ps.length c] w fun e w' => e = .returned (.int .i64 ((cutL (ps.map NT.pt) : Nat) : Int)) ∧ Below w.heap.size w w' := by
  obtain ⟨len, hl⟩ : ∃ len, ps.length = len := ⟨_, rfl⟩
  rw [hl] at hlen ⊢
  have HROW := Lib.hid hrow
  have HPS := Lib.hid hps
  have HIH := Lib.hid ih
  have HMAY := Lib.hid hmay
  have HNOD := Lib.hid hnod
  have HL := Lib.hid hl
  clear hrow hps ih hmay hnod hl
  go_enter Tryz.func69, Tryz.ntmps69
  go_wp2
  go_loopw [3, 8] (fun cv iv wr => ∃ i x : Nat, i ≤ len ∧ x ≤ 4097 * i ∧ iv = .int .i64 (i : Nat) ∧ cv = .int .i64 (x : Nat) ∧ Hid (x = cutL ((ps.map NT.pt).take i)) ∧ Hid (Below w.heap.size w wr)) (fun _ iv _ => len - (intOf iv).toNat)
  case atStart => exact ⟨0, 0, by omega, by omega, rfl, rfl, (by show 0 = _; simp [cutL]), Below.refl _ _⟩
  case round =>
    obtain ⟨i, x, hi, hx, rfl, rfl, HX, HB⟩ := hrel
    by_cases hlt : i < len
    · have hip : i < ps.length := by rw [HL.out]; exact hlt
      obtain ⟨b, off, tk, tS, tm, tn, ta, tl, tc, tps, rfl, ht, htm, hra⟩ := lies_elem HROW.out HPS.out hip
      have HRA := Lib.hid (rangeAt_below hra HB.out)
      have htk := cutL_take ps hip
      rw [ht] at htk
      have hcall := fun W hW => HIH.out _ htm W (HMAY.out _ htm) (HNOD.out _ htm) ((HPS.out _ htm).below hW)
      obtain ⟨d, hd⟩ : ∃ d, cut (cnt (NT.mk tk tS tm tn (.slice ta tl tc) tps).pt) = d := ⟨_, rfl⟩
      have hdl : d ≤ 4097 := by rw [← hd]; exact cut_lt _
      rw [hd] at hcall htk
      have HC1 := Lib.hid hcall
      have HTK := Lib.hid htk
      clear hd hcall ht hra htk
      go_wp2_with (first | (refine wpl_loadN (.tmp 10) rfl rfl (g := b) (off := off + i * 8) (k := tk) (s := tS) (m := tm) (n := tn) (p := .slice ta tl tc) ?_ ?_ ?_; rfl; exact HRA.out) | (go_at_call 53; refine (HC1.out _ (HB.out.alloc HB.out.size _)).mono ?_; rintro e w3 ⟨rfl, hb3⟩))
      go_roundw
      case rel => exact ⟨i + 1, x + d, by omega, by omega, by go_num, by go_num, (by show _ = _; rw [HTK.out, ← HX.out]), (HB.out.alloc HB.out.size _).trans (hb3.mono (by have := HB.out.size; simp only [World.size_alloc]; omega))⟩
      case measure => simp [intOf]; omega
    · obtain rfl : i = len := by omega
      have hfin : x = cutL (ps.map NT.pt) := by
        have := HX.out
        rw [List.take_of_length_le (by rw [List.length_map, HL.out]; exact Nat.le_refl _)] at this
        exact this
      have HF := Lib.hid hfin
      clear hfin
      go_wp2
      go_ret
      exact ⟨ret_int (by rw [← HF.out]), HB.out⟩
theorem itv_parts {m n : Int} (h : itv m n = true) : 0 ≤ m ∧ m ≤ 255 ∧ (n = -1 ∨ (m ≤ n ∧ n ≤ 255)) := by
  unfold itv at h
  simpa [and_assoc] using h
set_option maxHeartbeats 1000000 in
set_option maxRecDepth 100000 in
theorem n_repeated (x : Nat) (m n : Int) (w : World) (hx : x ≤ 4097) (h : itv m n = true) : Calls Tryz.prog 70 #[.int .i64 (x : Nat), .int .i64 m, .int .i64 n] w fun e w' => e = .returned (.int .i64 ((again m n * (x + 1) + m.toNat * x : Nat) : Int)) ∧ w' = w := by
  obtain ⟨h1, h2, h3⟩ := itv_parts h
  clear h
  obtain ⟨M, rfl⟩ : ∃ M : Nat, m = (M : Int) := ⟨m.toNat, by omega⟩
  have hM : M ≤ 255 := by omega
  have hMx : M * x ≤ 255 * 4097 := Nat.mul_le_mul hM hx
  by_cases hn : n = -1
  · subst hn
    have e2 : again (M : Int) (-1) * (x + 1) + (M : Int).toNat * x = 1 * (x + 1) + M * x := by unfold again; simp
    rw [e2]
    have e3 : ((1 * (x + 1) + M * x : Nat) : Int) = 1 * ((x : Int) + 1) + (M : Int) * (x : Int) := by rw [Int.natCast_add, Int.natCast_mul, Int.natCast_mul, Int.natCast_add]; rfl
    obtain ⟨Y, hY⟩ : ∃ Y : Nat, M * x = Y := ⟨_, rfl⟩
    have e4 : (M : Int) * (x : Int) = (Y : Int) := by rw [← hY, Int.natCast_mul]
    rw [e3]
    rw [hY] at hMx
    go_enter Tryz.func70, Tryz.ntmps70
    go_wp2
    all_goals (go_ret; exact ⟨ret_int (by go_num), rfl⟩)
  · have h4 : (M : Int) ≤ n ∧ n ≤ 255 := h3.resolve_left hn
    obtain ⟨A, hA⟩ : ∃ A : Nat, n - (M : Int) = (A : Int) := ⟨(n - M).toNat, by omega⟩
    have hA2 : A ≤ 255 := by omega
    have e2 : again (M : Int) n = A := by unfold again; rw [if_neg hn]; omega
    rw [e2]
    have hAx : A * (x + 1) ≤ 255 * 4098 := Nat.mul_le_mul hA2 (by omega)
    obtain ⟨Y, hY⟩ : ∃ Y : Nat, M * x = Y := ⟨_, rfl⟩
    obtain ⟨Z, hZ⟩ : ∃ Z : Nat, A * (x + 1) = Z := ⟨_, rfl⟩
    have e4 : (M : Int) * (x : Int) = (Y : Int) := by rw [← hY, Int.natCast_mul]
    have e5 : (A : Int) * ((x : Int) + 1) = (Z : Int) := by rw [← hZ, Int.natCast_mul, Int.natCast_add]; rfl
    have e6 : (M : Int).toNat * x = Y := by rw [Int.toNat_natCast, hY]
    rw [e6, hZ]
    rw [hY] at hMx
    rw [hZ] at hAx
    go_enter Tryz.func70, Tryz.ntmps70
    go_wp2
    all_goals (go_ret; exact ⟨ret_int (by go_num), rfl⟩)
theorem may_kinds {k : Int} {s : S4} {m n : Int} {ps : List PT} (h : may (.mk k s m n ps) = true) : mayL ps = true ∧ (k = 0 ∨ k = 1 ∨ k = 2 ∨ k = 3 ∨ (k = 4 ∧ 2 ≤ ps.length) ∨ (k = 5 ∧ 2 ≤ ps.length) ∨ (k = 6 ∧ ps.length = 1 ∧ itv m n = true)) := by
  rw [may, Bool.and_eq_true] at h
  refine ⟨h.2, ?_⟩
  have hf := h.1
  unfold fitT at hf
  by_cases h0 : k = 0 ∨ k = 1 ∨ k = 2 ∨ k = 3
  · omega
  · rw [if_neg h0] at hf
    by_cases h1 : k = 4 ∨ k = 5
    · rw [if_pos h1] at hf
      simp at hf
      omega
    · rw [if_neg h1] at hf
      by_cases h6 : k = 6
      · rw [if_pos h6] at hf
        simp at hf
        exact .inr (.inr (.inr (.inr (.inr (.inr ⟨h6, hf.2.2.1, hf.2.2.2⟩)))))
      · rw [if_neg h6] at hf
        simp at hf
set_option maxHeartbeats 2000000 in
set_option maxRecDepth 100000 in
theorem p_cnt (t : NT) : CntOK t := by
  induction t using NT.ind with
  | h k s m n p ps ih =>
    intro w hmay hnod hlies
    obtain ⟨⟨a, c, rfl, hrow⟩, hps⟩ := NT.Lies_mk.1 hlies
    obtain ⟨hl1, hnp⟩ := nodes_part (k := k) (s := s) (m := m) (n := n) (p := .slice a ps.length c) (ps := ps)
    have hlb : ps.length ≤ 1099511627776 := by omega
    have hnps : ∀ t ∈ ps, nodes t.pt ≤ 1099511627776 := fun t ht => Nat.le_trans (hnp t ht) hnod
    rw [NT.pt_mk] at hmay ⊢
    obtain ⟨hmayL, hk⟩ := may_kinds hmay
    rw [List.length_map] at hk
    have hmays : ∀ t ∈ ps, may t.pt = true := fun t ht => mayL_mem hmayL _ (List.mem_map_of_mem ht)
    have htog := fun W (hW : Below w.heap.size w W) => p_together ps a c W ih (hrow.mono (below_cell hW)) (fun t ht => (hps t ht).below hW) hmays hnps hlb
    show Calls Tryz.prog 53 #[nodeVal k s m n (.slice a ps.length c)] w _
    have HC : Hid (CB (w.alloc (.cells #[.int .i64 k, .int .u64 (s.a : Nat), .int .u64 (s.b : Nat), .int .u64 (s.c : Nat), .int .u64 (s.d : Nat), .int .i64 m, .int .i64 n, .slice a ps.length c] 42)) 42 w.heap.size (nodeCells k s m n (.slice a ps.length c))) := CB.new w _ _
    have HB1 : Hid (Below w.heap.size w (w.alloc (.cells #[.int .i64 k, .int .u64 (s.a : Nat), .int .u64 (s.b : Nat), .int .u64 (s.c : Nat), .int .u64 (s.d : Nat), .int .i64 m, .int .i64 n, .slice a ps.length c] 42))) := (Below.refl _ _).alloc (Nat.le_refl _) _
    have HTOG := Lib.hid htog
    have hcl := cutL_le (ps.map NT.pt)
    rw [List.length_map] at hcl
    rcases hk with rfl | rfl | rfl | rfl | ⟨rfl, hl2⟩ | ⟨rfl, hl2⟩ | ⟨rfl, hl2, hitv⟩
    · have hc0 : cut (cnt (.mk 0 s m n (ps.map NT.pt))) = 0 := by rw [cnt]; simp [cut]
      rw [hc0]
      clear hc0 hcl htog hmays hnps hrow hps ih hmay hnod hlies hnp
      go_enter Tryz.func53, Tryz.ntmps53
      go_wp2
      go_ret
      exact ⟨rfl, HB1.out⟩
    · have hc0 : cut (cnt (.mk 1 s m n (ps.map NT.pt))) = 1 := by rw [cnt]; simp [cut]
      rw [hc0]
      clear hc0 hcl htog hmays hnps hrow hps ih hmay hnod hlies hnp
      go_enter Tryz.func53, Tryz.ntmps53
      go_wp2
      go_ret
      exact ⟨rfl, HB1.out⟩
    · have hc0 : cut (cnt (.mk 2 s m n (ps.map NT.pt))) = 1 := by rw [cnt]; simp [cut]
      rw [hc0]
      clear hc0 hcl htog hmays hnps hrow hps ih hmay hnod hlies hnp
      go_enter Tryz.func53, Tryz.ntmps53
      go_wp2
      go_ret
      exact ⟨rfl, HB1.out⟩
    · have hc0 : cut (cnt (.mk 3 s m n (ps.map NT.pt))) = 1 := by rw [cnt]; simp [cut]
      rw [hc0]
      clear hc0 hcl htog hmays hnps hrow hps ih hmay hnod hlies hnp
      go_enter Tryz.func53, Tryz.ntmps53
      go_wp2
      go_ret
      exact ⟨rfl, HB1.out⟩
    · have hc0 : cut (cnt (.mk 4 s m n (ps.map NT.pt))) = cut (cutL (ps.map NT.pt)) := by rw [cut_row, cnt]; simp
      rw [hc0]
      obtain ⟨X, hX⟩ : ∃ X, cutL (ps.map NT.pt) = X := ⟨_, rfl⟩
      obtain ⟨R, hR⟩ : ∃ R, cut X = R := ⟨_, rfl⟩
      have hmin : min (X : Int) 4097 = (R : Int) := by rw [← hR]; unfold cut; omega
      rw [hX] at HTOG hcl ⊢
      rw [hR]
      clear hc0 htog hmays hnps hrow hps ih hmay hnod hlies hnp hX hR
      go_enter Tryz.func53, Tryz.ntmps53
      go_wp2_with (go_at_call 69; refine (HTOG.out _ HB1.out).mono ?_; rintro e w2 ⟨rfl, hb2⟩)
      all_goals (go_ret; exact ⟨ret_int (by omega), HB1.out.trans (hb2.mono HB1.out.size)⟩)
    · have hc0 : cut (cnt (.mk 5 s m n (ps.map NT.pt))) = cut (cutL (ps.map NT.pt) + ps.length - 1) := by
        have := cut_choice (ps.map NT.pt) (by rw [List.length_map]; exact hl2)
        rw [List.length_map] at this
        rw [this, cnt]; simp
      rw [hc0]
      obtain ⟨X, hX⟩ : ∃ X, cutL (ps.map NT.pt) = X := ⟨_, rfl⟩
      obtain ⟨len, hl⟩ : ∃ len, ps.length = len := ⟨_, rfl⟩
      rw [hX] at HTOG hcl ⊢
      rw [hl] at HTOG hcl HB1 HC hl2 hlb ⊢
      obtain ⟨R, hR⟩ : ∃ R, cut (X + len - 1) = R := ⟨_, rfl⟩
      have hmin : min ((X : Int) + (len : Int) - 1) 4097 = (R : Int) := by rw [← hR]; unfold cut; omega
      rw [hR]
      clear hc0 htog hmays hnps hrow hps ih hmay hnod hlies hnp hX hR hl1
      go_enter Tryz.func53, Tryz.ntmps53
      have HBD := Lib.hid (HB1.out.drew)
      have HCD := Lib.hid (CB.below HC.out ((Below.refl _ _).drew))
      go_wp2
      go_region_with (go_at_call 69; refine (HTOG.out _ HBD.out).mono ?_; rintro e w2 ⟨rfl, hb2⟩; have HB2 := Lib.hid (HBD.out.trans (hb2.mono HBD.out.size)); obtain ⟨⟨y0, y1, y2, y3, y4, y5, y6, y7⟩, _⟩ := (CB.below HCD.out hb2).eight; clear hb2)
      all_goals (go_wp2; all_goals (go_ret; exact ⟨ret_int (by omega), HB2.out⟩))
    · obtain ⟨q, rfl⟩ : ∃ q, ps = [q] := by
        match ps, hl2 with
        | [q], _ => exact ⟨q, rfl⟩
      obtain ⟨b, off, qk, qS, qm, qn, qa, ql, qc, qps, rfl, ht, htm, hra⟩ := lies_elem (i := 0) hrow hps (by show 0 < 1; decide)
      have hq : q = NT.mk qk qS qm qn (.slice qa ql qc) qps := ht
      subst hq
      rw [Nat.zero_mul, Nat.add_zero] at hra
      have HRA : Hid (∀ W, Below w.heap.size w W → W.rangeAt b off (nodeCells qk qS qm qn (.slice qa ql qc))) := fun W hW => rangeAt_below hra hW
      have hcall := fun W (hW : Below w.heap.size w W) => ih _ htm W (hmays _ htm) (hnps _ htm) ((hps _ htm).below hW)
      have hc0 : cut (cnt (.mk 6 s m n ([NT.mk qk qS qm qn (.slice qa ql qc) qps].map NT.pt))) = cut (again m n * (cut (cnt (NT.mk qk qS qm qn (.slice qa ql qc) qps).pt) + 1) + m.toNat * cut (cnt (NT.mk qk qS qm qn (.slice qa ql qc) qps).pt)) := by
        rw [cut_rep, cnt]
        simp [cntR]
      rw [hc0]
      have hdl := cut_lt (cnt (NT.mk qk qS qm qn (.slice qa ql qc) qps).pt)
      obtain ⟨d, hd⟩ : ∃ d, cut (cnt (NT.mk qk qS qm qn (.slice qa ql qc) qps).pt) = d := ⟨_, rfl⟩
      rw [hd] at hcall hdl ⊢
      have hrep := fun W => n_repeated d m n W hdl hitv
      have hbig : again m n * (d + 1) + m.toNat * d ≤ 255 * 4098 + 255 * 4097 := by
        obtain ⟨i1, i2, i3⟩ := itv_parts hitv
        have h5 : again m n ≤ 255 := by unfold again; split <;> omega
        have h6 : m.toNat ≤ 255 := by omega
        exact Nat.add_le_add (Nat.mul_le_mul h5 (by omega)) (Nat.mul_le_mul h6 hdl)
      obtain ⟨X, hX⟩ : ∃ X, again m n * (d + 1) + m.toNat * d = X := ⟨_, rfl⟩
      rw [hX] at hrep hbig ⊢
      obtain ⟨R, hR⟩ : ∃ R, cut X = R := ⟨_, rfl⟩
      have hmin : min (X : Int) 4097 = (R : Int) := by rw [← hR]; unfold cut; omega
      rw [hR]
      have HCALL := Lib.hid hcall
      have HREP := Lib.hid hrep
      have HB1 : Hid (Below w.heap.size w (w.alloc (.cells #[.int .i64 6, .int .u64 (s.a : Nat), .int .u64 (s.b : Nat), .int .u64 (s.c : Nat), .int .u64 (s.d : Nat), .int .i64 m, .int .i64 n, .slice (some ⟨b, off, none⟩) 1 c] 42))) := HB1
      have HC : Hid (CB (w.alloc (.cells #[.int .i64 6, .int .u64 (s.a : Nat), .int .u64 (s.b : Nat), .int .u64 (s.c : Nat), .int .u64 (s.d : Nat), .int .i64 m, .int .i64 n, .slice (some ⟨b, off, none⟩) 1 c] 42)) 42 w.heap.size (nodeCells 6 s m n (.slice (some ⟨b, off, none⟩) 1 c))) := HC
      show Calls Tryz.prog 53 #[nodeVal 6 s m n (.slice (some ⟨b, off, none⟩) 1 c)] w _
      clear hc0 htog HTOG hmays hnps hrow hps ih hmay hnod hlies hnp hX hR hd hcall hrep ht htm hra hitv hcl hmayL
      go_enter Tryz.func53, Tryz.ntmps53
      have HBD := Lib.hid (HB1.out.drew)
      have HCD := Lib.hid (CB.below HC.out ((Below.refl _ _).drew))
      obtain ⟨a0, a1, a2, a3, a4, a5, a6, a7⟩ := range8 (HRA.out _ HB1.out)
      go_wp2
      go_region_with (first | (go_at_call 53; refine (HCALL.out _ HBD.out).mono ?_; rintro e w2 ⟨rfl, hb2⟩; have HB2 := Lib.hid (HBD.out.trans (hb2.mono HBD.out.size)); obtain ⟨⟨y0, y1, y2, y3, y4, y5, y6, y7⟩, _⟩ := (CB.below HCD.out hb2).eight; clear hb2) | (go_at_call 70; refine (HREP.out _).mono ?_; rintro e w3 ⟨rfl, rfl⟩))
      all_goals (go_wp2; all_goals (go_ret; exact ⟨ret_int (by omega), HB2.out⟩))
end Go.Proofs.YthhchpmlljfpjaaGreat
