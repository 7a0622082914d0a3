import Derived.Test.YtboebadpohjolaaNfC
import Derived.Test.YtboebadpohjolaaNfM1
import Derived.Test.YtboebadpohjolaaNfMf
import Derived.Test.YtboebadpohjolaaNfMh
import Derived.Test.YtboebadpohjolaaNfCs
import Derived.Test.YtboebadpohjolaaNfRf
namespace Go.Proofs.Ytboebadpohjolaa
open Go.RowKit

section
variable {B : Nat}

/-! The reference lays every tree. -/
set_option maxHeartbeats 4000000 in
set_option maxRecDepth 100000 in
theorem n_rlayRep (lb : Nat) (w0 : World) (k : Int) (s : S4) (m n : Int) (a : Option Addr) (len c : Nat) (ps : List NT) (hok : YLayOK B lb w0 (.mk k s m n (.slice a len c) ps)) (hlaid : Laid (layT (NT.mk k s m n (.slice a len c) ps).pt) (cnt (NT.mk k s m n (.slice a len c) ps).pt)) (hw0 : w0.heap.size ≤ B)
    (b off bc : Nat) (hra : w0.rangeAt b off (nodeCells k s m n (.slice a len c))) (S : S4) (M A : Nat) (X : Int) (hX : (X = -1 ∧ A = 0) ∨ X = ((M + A : Nat) : Int)) (hM : M ≤ 255) (hA : A ≤ 255) : YLayOK B lb w0 (.mk 6 S (M : Nat) X (.slice (some ⟨b, off, none⟩) 1 bc) [.mk k s m n (.slice a len c) ps]) := by
  intro L q v w h hb h0 hq hg hlen
  have e1 : layT (NT.mk 6 S (M : Nat) X (.slice (some ⟨b, off, none⟩) 1 bc) [.mk k s m n (.slice a len c) ps]).pt q L = repF (layT (NT.mk k s m n (.slice a len c) ps).pt) (M : Nat) X q L := by rw [NT.pt_mk, layT_eq]; simp [layRep]
  have e2 : cnt (NT.mk 6 S (M : Nat) X (.slice (some ⟨b, off, none⟩) 1 bc) [.mk k s m n (.slice a len c) ps]).pt = (if X = -1 then 1 else A) * (cnt (NT.mk k s m n (.slice a len c) ps).pt + 1) + M * cnt (NT.mk k s m n (.slice a len c) ps).pt := by
    rw [NT.pt_mk, cnt]
    have : again (M : Nat) X = if X = -1 then 1 else A := by
      unfold again
      by_cases h1 : X = -1
      · rw [if_pos h1, if_pos h1]
      · rw [if_neg h1, if_neg h1]; omega
    simp [cntR, this]
  rw [e1]
  rw [e2] at hlen
  have hcall := fun W hW hB => n_rrep lb w0 k s m n a len c ps hok hlaid hw0 b off bc hra S M A X hX hM hA L q v W hW hB ⟨h0, hq, hg⟩ hlen
  obtain ⟨R, hR⟩ : ∃ R, repF (layT (NT.mk k s m n (.slice a len c) ps).pt) (M : Nat) X q L = R := ⟨_, rfl⟩
  rw [hR] at hcall ⊢
  have HCALL := Lib.hid hcall
  show Calls Try.prog 25 #[.pointer (some ⟨lb, 0, none⟩), nodeVal 6 S (M : Nat) X (.slice (some ⟨b, off, none⟩) 1 bc), .int .i64 (q : Nat)] w _
  have HS := Lib.hid ((YS.refl h).alloc (.cells #[.int .i64 6, .int .u64 (S.a : Nat), .int .u64 (S.b : Nat), .int .u64 (S.c : Nat), .int .u64 (S.d : Nat), .int .i64 ((M : Nat) : Int), .int .i64 X, .slice (some ⟨b, off, none⟩) 1 bc] 27))
  have HBD := Lib.hid (HS.out.from0 h hb hw0)
  clear h hb hg e1 e2 hcall hR hok hlaid hra hlen hX
  go_enter Try.func25, Try.ntmps25
  go_wp2_with (go_at_call 35; refine (HCALL.out _ HS.out.at_ HBD.out).mono ?_; rintro e w2 ⟨rfl, v2, hS2⟩; have HS2 := Lib.hid (HS.out.trans hS2); clear hS2)
  go_ret
  exact ⟨rfl, _, HS2.out⟩
theorem n_rlays (lb : Nat) (w0 : World) (hw0 : w0.heap.size ≤ B) (t : NT) : may t.pt = true → setsOk t.pt → nodes t.pt ≤ 1099511627776 → t.Lies w0 → YLayOK B lb w0 t := by
  induction t using NT.ind with
  | h k s m n p ps ih =>
    intro hmay hsets hnod hlies
    obtain ⟨⟨a, c, rfl, hrow⟩, hps⟩ := NT.Lies_mk.1 hlies
    obtain ⟨hl1, hnp⟩ := nodes_part (k := k) (s := s) (m := m) (n := n) (p := .slice a ps.length c) (ps := ps)
    have hlb : ps.length ≤ 1099511627776 := by omega
    rw [NT.pt_mk] at hmay hsets
    obtain ⟨hmayL, hk⟩ := may_kinds hmay
    rw [List.length_map] at hk
    have hsetsL := (show s.fit ∧ setsOkL (ps.map NT.pt) from by rw [setsOk] at hsets; exact hsets).2
    have hmays : ∀ t ∈ ps, may t.pt = true := fun t ht => mayL_mem hmayL _ (List.mem_map_of_mem ht)
    have hsetss : ∀ t ∈ ps, setsOk t.pt := fun t ht => setsOkL_mem hsetsL _ (List.mem_map_of_mem ht)
    have hok : ∀ t ∈ ps, YLayOK B lb w0 t := fun t ht => ih t ht (hmays t ht) (hsetss t ht) (Nat.le_trans (hnp t ht) hnod) (hps t ht)
    have hlaid : ∀ t ∈ ps.map NT.pt, Laid (layT t) (cnt t) := fun t ht => lay_laid t (mayL_mem hmayL t ht) (setsOkL_mem hsetsL t ht)
    rcases hk with rfl | rfl | rfl | rfl | ⟨rfl, hl2⟩ | ⟨rfl, hl2⟩ | ⟨rfl, hl2, hitv⟩
    · exact n_rleaf lb w0 0 (by omega) s m n _ ps ⟨_, _, _, rfl⟩
    · exact n_rleaf lb w0 1 (by omega) s m n _ ps ⟨_, _, _, rfl⟩
    · exact n_rleaf lb w0 2 (by omega) s m n _ ps ⟨_, _, _, rfl⟩
    · exact n_rleaf lb w0 3 (by omega) s m n _ ps ⟨_, _, _, rfl⟩
    · exact n_rrow lb w0 s m n a c ps hok hlaid hw0 hrow hps hlb
    · exact n_rchoice lb w0 s m n a c ps hok hlaid hw0 hrow hps (ps.length - 1) (by omega)
    · obtain ⟨h1, h2, h3⟩ := itv_parts hitv
      obtain ⟨M, rfl⟩ : ∃ M : Nat, m = (M : Int) := ⟨m.toNat, by omega⟩
      obtain ⟨b, off, k1, s1, m1, n1, ta, tl, tc, tps, rfl, ht, htm, hra⟩ := lies_elem hrow hps (i := 0) (by omega)
      have hps1 : ps = [.mk k1 s1 m1 n1 (.slice ta tl tc) tps] := by
        match ps, hl2, ht with
        | [x], _, ht => rw [← ht]; rfl
      have hok1 := hok _ htm
      have hld1 := hlaid _ (List.mem_map_of_mem htm)
      rw [show off + 0 * 8 = off by omega] at hra
      rw [hps1]
      show YLayOK B lb w0 (.mk 6 s (M : Nat) n (.slice (some ⟨b, off, none⟩) 1 c) _)
      rcases h3 with rfl | ⟨h3, h4⟩
      · exact n_rlayRep lb w0 k1 s1 m1 n1 ta tl tc tps hok1 hld1 hw0 b off c hra s M 0 (-1) (.inl ⟨rfl, rfl⟩) (by omega) (by omega)
      · exact n_rlayRep lb w0 k1 s1 m1 n1 ta tl tc tps hok1 hld1 hw0 b off c hra s M (n - M).toNat n (.inr (by omega)) (by omega) (by omega)
end

section
/-! The reference's Check, states and Size. -/
set_option maxHeartbeats 4000000 in
set_option maxRecDepth 100000 in
theorem n_rCheck (k : Int) (s : S4) (m n : Int) (a : Option Addr) (len c : Nat) (ps : List NT) (w : World) (hl : (NT.mk k s m n (.slice a len c) ps).Lies w) : Calls Try.prog 22 #[nodeVal k s m n (.slice a len c)] w fun e w' => e = .returned (.int .i64 (chk (NT.mk k s m n (.slice a len c) ps).pt)) ∧ Below w.heap.size w w' := by
  obtain ⟨N, hN⟩ : ∃ N, nodes (NT.mk k s m n (.slice a len c) ps).pt = N := ⟨_, rfl⟩
  have h1 := fun W hW => n_rcount (NT.mk k s m n (.slice a len c) ps) W (hl.below hW)
  have h2 := fun W (hW : Below w.heap.size w W) (hN2 : N ≤ 2048) => n_rmay (NT.mk k s m n (.slice a len c) ps) W (by rw [hN]; omega) (hl.below hW)
  obtain ⟨d, hd⟩ : ∃ d, may (NT.mk k s m n (.slice a len c) ps).pt = d := ⟨_, rfl⟩
  unfold chk
  rw [hN] at h1 ⊢
  rw [hd] at h2 ⊢
  obtain ⟨X, hX⟩ : ∃ X, min N 2049 = X := ⟨_, rfl⟩
  rw [hX] at h1
  have H1 : Hid (∀ W, Below w.heap.size w W → Calls Try.prog 33 #[nodeVal k s m n (.slice a len c)] W fun e w' => e = .returned (.int .i64 (X : Nat)) ∧ Below W.heap.size W w') := h1
  have H2 : Hid (∀ W, Below w.heap.size w W → N ≤ 2048 → Calls Try.prog 34 #[nodeVal k s m n (.slice a len c)] W fun e w' => e = .returned (.bool d) ∧ Below W.heap.size W w') := h2
  have HB0 : Hid (Below w.heap.size w (w.alloc (.cells #[.int .i64 k, .int .u64 (s.a : Nat), .int .u64 (s.b : Nat), .int .u64 (s.c : Nat), .int .u64 (s.d : Nat), .int .i64 m, .int .i64 n, .slice a len c] 27))) := (Below.refl _ _).alloc (Nat.le_refl _) _
  have HC0 : Hid (CB (w.alloc (.cells #[.int .i64 k, .int .u64 (s.a : Nat), .int .u64 (s.b : Nat), .int .u64 (s.c : Nat), .int .u64 (s.d : Nat), .int .i64 m, .int .i64 n, .slice a len c] 27)) 27 w.heap.size (nodeCells k s m n (.slice a len c))) := CB.new w _ _
  clear h1 h2 hl hN hd
  by_cases hbig : 2048 < N
  · have hx : (2048 : Int) < (X : Int) := by omega
    rw [if_pos hbig]
    clear hX hbig
    go_enter Try.func22, Try.ntmps22
    go_wp2_with (go_at_call 33; refine (H1.out _ HB0.out).mono ?_; rintro e w1 ⟨rfl, hb1⟩; have HB1 := Lib.hid (HB0.out.trans (hb1.mono HB0.out.size)); clear hb1)
    go_ret
    exact ⟨rfl, HB1.out⟩
  · have hx : ¬ (2048 : Int) < (X : Int) := by omega
    have hn2 : N ≤ 2048 := by omega
    rw [if_neg hbig]
    have HN2 := Lib.hid hn2
    clear hX hbig hn2
    cases d
    all_goals
      go_enter Try.func22, Try.ntmps22
      go_wp2_with (first | (go_at_call 33; refine (H1.out _ HB0.out).mono ?_; rintro e w1 ⟨rfl, hb1⟩; have HB1 := Lib.hid (HB0.out.trans (hb1.mono HB0.out.size)); have HC1 := Lib.hid (CB.below HC0.out hb1); obtain ⟨⟨x0, x1, x2, x3, x4, x5, x6, x7⟩, -⟩ := HC1.out.eight; clear hb1) | (go_at_call 34; refine (H2.out _ HB1.out HN2.out).mono ?_; rintro e w2 ⟨rfl, hb2⟩; have HB2 := Lib.hid (HB1.out.trans (hb2.mono HB1.out.size)); clear hb2))
      go_ret
      exact ⟨rfl, HB2.out⟩
theorem cut_sum (a b : Nat) : cut (cut a + cut b) = cut (a + b) := by unfold cut; omega
theorem cut_stroke (x l : Nat) (h : 1 ≤ l) : cut (cut x + l - 1) = cut (x + l - 1) := by unfold cut; omega
theorem cntL_take1 (ps : List NT) {i : Nat} (h : i < ps.length) : cntL ((ps.map NT.pt).take (i + 1)) = cntL ((ps.map NT.pt).take i) + cnt (ps[i]).pt := by
  rw [take_mapP h, cntL_snoc]
set_option maxHeartbeats 8000000 in
set_option maxRecDepth 100000 in
theorem n_rstates (t : NT) : ∀ (w : World), may t.pt = true → nodes t.pt ≤ 1099511627776 → t.Lies w → Calls Try.prog 23 #[t.val] w fun e w' => e = .returned (.int .i64 ((cut (cnt t.pt) : Nat) : Int)) ∧ Below w.heap.size w w' := by
  induction t using NT.ind with
  | h k s m n p ps ih =>
    intro w hmay hnod hlies
    obtain ⟨⟨a, c, rfl, hrow⟩, hps⟩ := NT.Lies_mk.1 hlies
    obtain ⟨hl1, hnp⟩ := nodes_part (k := k) (s := s) (m := m) (n := n) (p := .slice a ps.length c) (ps := ps)
    have hlb : ps.length ≤ 1099511627776 := by omega
    have hnps : ∀ t ∈ ps, nodes t.pt ≤ 1099511627776 := fun t ht => Nat.le_trans (hnp t ht) hnod
    rw [NT.pt_mk] at hmay ⊢
    obtain ⟨hmayL, hk⟩ := may_kinds hmay
    rw [List.length_map] at hk
    have hmays : ∀ t ∈ ps, may t.pt = true := fun t ht => mayL_mem hmayL _ (List.mem_map_of_mem ht)
    show Calls Try.prog 23 #[nodeVal k s m n (.slice a ps.length c)] w _
    obtain ⟨len, hlen⟩ : ∃ len, ps.length = len := ⟨_, rfl⟩
    rw [hlen] at hlb hk ⊢
    have HROW := Lib.hid hrow
    have HPS := Lib.hid hps
    have HIH := Lib.hid ih
    have HL := Lib.hid hlen
    have HNP := Lib.hid hnps
    have HMY := Lib.hid hmays
    have HC : Hid (CB (w.alloc (.cells #[.int .i64 k, .int .u64 (s.a : Nat), .int .u64 (s.b : Nat), .int .u64 (s.c : Nat), .int .u64 (s.d : Nat), .int .i64 m, .int .i64 n, .slice a len c] 27)) 27 w.heap.size (nodeCells k s m n (.slice a len c))) := CB.new w _ _
    have HB1 : Hid (Below w.heap.size w (w.alloc (.cells #[.int .i64 k, .int .u64 (s.a : Nat), .int .u64 (s.b : Nat), .int .u64 (s.c : Nat), .int .u64 (s.d : Nat), .int .i64 m, .int .i64 n, .slice a len c] 27))) := (Below.refl _ _).alloc (Nat.le_refl _) _
    obtain ⟨V, hV⟩ : ∃ V, cut (cnt (.mk k s m n (ps.map NT.pt))) = V := ⟨_, rfl⟩
    rw [hV]
    clear hrow hps ih hlies hnod hl1 hnp hnps hmay hmayL hmays
    rcases hk with rfl | rfl | rfl | rfl | ⟨rfl, hl2⟩ | ⟨rfl, hl2⟩ | ⟨rfl, hl2, hitv⟩
    · have hV0 : V = 0 := by rw [← hV, cnt]; simp [cut]
      subst hV0
      clear hV hlen
      go_enter Try.func23, Try.ntmps23
      go_wp2
      go_ret
      exact ⟨rfl, HB1.out⟩
    · have hV0 : V = 1 := by rw [← hV, cnt]; simp [cut]
      subst hV0
      clear hV hlen
      go_enter Try.func23, Try.ntmps23
      go_wp2
      go_ret
      exact ⟨rfl, HB1.out⟩
    · have hV0 : V = 1 := by rw [← hV, cnt]; simp [cut]
      subst hV0
      clear hV hlen
      go_enter Try.func23, Try.ntmps23
      go_wp2
      go_ret
      exact ⟨rfl, HB1.out⟩
    · have hV0 : V = 1 := by rw [← hV, cnt]; simp [cut]
      subst hV0
      clear hV hlen
      go_enter Try.func23, Try.ntmps23
      go_wp2
      go_ret
      exact ⟨rfl, HB1.out⟩
    · have hVe : V = cut (cntL (ps.map NT.pt)) := by
        rw [← hV, cnt]
        rfl
      have HVE := Lib.hid hVe
      clear hV hlen hVe
      go_enter Try.func23, Try.ntmps23
      go_wp2
      go_loopw [3, 4] (fun cv iv wr => ∃ i x : Nat, i ≤ len ∧ x ≤ 4097 ∧ iv = .int .i64 (i : Nat) ∧ cv = .int .i64 (x : Nat) ∧ Hid (x = cut (cntL ((ps.map NT.pt).take i))) ∧ Hid (Below w.heap.size w wr) ∧ Hid (CB wr 27 w.heap.size (nodeCells 4 s m n (.slice a len c)))) (fun _ iv _ => len - (intOf iv).toNat)
      case atStart => exact ⟨0, 0, by omega, by omega, rfl, rfl, (by show 0 = _; simp [cntL, cut]), HB1.out, HC.out⟩
      case round =>
        obtain ⟨i, x, hi, hx, rfl, rfl, HX, HB, HCr⟩ := hrel
        obtain ⟨⟨x0, x1, x2, x3, x4, x5, x6, x7⟩, _⟩ := HCr.out.eight
        by_cases hlt : i < len
        · have hip : i < ps.length := by rw [HL.out]; exact hlt
          obtain ⟨b, off, tk, tS, tm, tn, ta, tl, tc, tps, rfl, ht, htm, hra⟩ := lies_elem HROW.out HPS.out hip
          have HRA := Lib.hid (rangeAt_below hra HB.out)
          have htk := cntL_take1 ps hip
          rw [ht] at htk
          have hcall := fun W hW => HIH.out _ htm W (HMY.out _ htm) (HNP.out _ htm) ((HPS.out _ htm).below hW)
          obtain ⟨d, hd⟩ : ∃ d, cut (cnt (NT.mk tk tS tm tn (.slice ta tl tc) tps).pt) = d := ⟨_, rfl⟩
          have hdl : d ≤ 4097 := by rw [← hd]; exact cut_lt _
          obtain ⟨y, hy⟩ : ∃ y, min (x + d) 4097 = y := ⟨_, rfl⟩
          have HY : Hid (y = cut (cntL ((ps.map NT.pt).take (i + 1)))) := by
            show _ = _
            rw [htk, ← cut_sum, ← HX.out, hd]
            exact hy.symm
          have hyi : min ((x : Int) + (d : Int)) 4097 = (y : Int) := by omega
          have hyl : y ≤ 4097 := by omega
          rw [hd] at hcall
          have HC1 := Lib.hid hcall
          clear hd hcall ht hra htk hy
          go_wp2_with (first | (refine wpl_loadN (.tmp 24) rfl rfl (g := b) (off := off + i * 8) (k := tk) (s := tS) (m := tm) (n := tn) (p := .slice ta tl tc) ?_ ?_ ?_; rfl; exact HRA.out) | (go_at_call 23; refine (HC1.out _ HB.out).mono ?_; rintro e w3 ⟨rfl, hb3⟩))
          go_roundw
          case rel => exact ⟨i + 1, y, by omega, by omega, by go_num, by go_num, HY.out, HB.out.trans (hb3.mono HB.out.size), CB.below HCr.out hb3⟩
          case measure => simp [intOf]; omega
        · obtain rfl : i = len := by omega
          have hfin : x = cut (cntL (ps.map NT.pt)) := by
            have := HX.out
            rw [List.take_of_length_le (by rw [List.length_map, HL.out]; exact Nat.le_refl _)] at this
            exact this
          have hv2 : V = x := by rw [HVE.out, hfin]
          have hv3 : min (x : Int) 4097 = (V : Int) := by omega
          clear hfin hv2
          go_wp2
          all_goals (go_ret; exact ⟨ret_int (by omega), HB.out⟩)
    · have hVe : V = cut (cntL (ps.map NT.pt) + len - 1) := by
        rw [← hV, cnt]
        rw [← hlen]
        show cut (cntL (ps.map NT.pt) + (ps.map NT.pt).length - 1) = _
        rw [List.length_map]
      have HVE := Lib.hid hVe
      clear hV hlen hVe
      go_enter Try.func23, Try.ntmps23
      go_wp2
      go_loopw [3, 4] (fun cv iv wr => ∃ i x : Nat, i ≤ len ∧ x ≤ 4097 ∧ iv = .int .i64 (i : Nat) ∧ cv = .int .i64 (x : Nat) ∧ Hid (x = cut (cntL ((ps.map NT.pt).take i))) ∧ Hid (Below w.heap.size w wr) ∧ Hid (CB wr 27 w.heap.size (nodeCells 5 s m n (.slice a len c)))) (fun _ iv _ => len - (intOf iv).toNat)
      case atStart => exact ⟨0, 0, by omega, by omega, rfl, rfl, (by show 0 = _; simp [cntL, cut]), HB1.out, HC.out⟩
      case round =>
        obtain ⟨i, x, hi, hx, rfl, rfl, HX, HB, HCr⟩ := hrel
        obtain ⟨⟨x0, x1, x2, x3, x4, x5, x6, x7⟩, _⟩ := HCr.out.eight
        by_cases hlt : i < len
        · have hip : i < ps.length := by rw [HL.out]; exact hlt
          obtain ⟨b, off, tk, tS, tm, tn, ta, tl, tc, tps, rfl, ht, htm, hra⟩ := lies_elem HROW.out HPS.out hip
          have HRA := Lib.hid (rangeAt_below hra HB.out)
          have htk := cntL_take1 ps hip
          rw [ht] at htk
          have hcall := fun W hW => HIH.out _ htm W (HMY.out _ htm) (HNP.out _ htm) ((HPS.out _ htm).below hW)
          obtain ⟨d, hd⟩ : ∃ d, cut (cnt (NT.mk tk tS tm tn (.slice ta tl tc) tps).pt) = d := ⟨_, rfl⟩
          have hdl : d ≤ 4097 := by rw [← hd]; exact cut_lt _
          obtain ⟨y, hy⟩ : ∃ y, min (x + d) 4097 = y := ⟨_, rfl⟩
          have HY : Hid (y = cut (cntL ((ps.map NT.pt).take (i + 1)))) := by
            show _ = _
            rw [htk, ← cut_sum, ← HX.out, hd]
            exact hy.symm
          have hyi : min ((x : Int) + (d : Int)) 4097 = (y : Int) := by omega
          have hyl : y ≤ 4097 := by omega
          rw [hd] at hcall
          have HC1 := Lib.hid hcall
          clear hd hcall ht hra htk hy
          go_wp2_with (first | (refine wpl_loadN (.tmp 24) rfl rfl (g := b) (off := off + i * 8) (k := tk) (s := tS) (m := tm) (n := tn) (p := .slice ta tl tc) ?_ ?_ ?_; rfl; exact HRA.out) | (go_at_call 23; refine (HC1.out _ HB.out).mono ?_; rintro e w3 ⟨rfl, hb3⟩))
          go_roundw
          case rel => exact ⟨i + 1, y, by omega, by omega, by go_num, by go_num, HY.out, HB.out.trans (hb3.mono HB.out.size), CB.below HCr.out hb3⟩
          case measure => simp [intOf]; omega
        · obtain rfl : i = len := by omega
          have hfin : x = cut (cntL (ps.map NT.pt)) := by
            have := HX.out
            rw [List.take_of_length_le (by rw [List.length_map, HL.out]; exact Nat.le_refl _)] at this
            exact this
          have hv2 : V = min (x + i - 1) 4097 := by
            rw [HVE.out, hfin]
            exact (cut_stroke _ _ (by omega)).symm
          have hv3 : min ((x : Int) + (i : Int) - 1) 4097 = (V : Int) := by omega
          clear hfin hv2
          go_wp2
          all_goals (go_ret; exact ⟨ret_int (by omega), HB.out⟩)
    · obtain ⟨h1, h2, h3⟩ := itv_parts hitv
      obtain ⟨M, rfl⟩ : ∃ M : Nat, m = (M : Int) := ⟨m.toNat, by omega⟩
      have hM : M ≤ 255 := by omega
      have hcl : cntL (ps.map NT.pt) = (ps.map NT.pt).head?.elim 0 cnt := by
        match ps, (hlen.trans hl2) with
        | [x], _ => simp [cntL]
      have hcr : cnt (.mk 6 s (M : Nat) n (ps.map NT.pt)) = again (M : Nat) n * (cntL (ps.map NT.pt) + 1) + M * cntL (ps.map NT.pt) := by
        rw [cnt]
        match ps, (hlen.trans hl2) with
        | [x], _ => simp [cntL, cntR]
      have HLN1 := Lib.hid hl2
      clear hcl hl2
      by_cases hn1 : n = -1
      · subst hn1
        have hVe : V = cut (1 * (cntL (ps.map NT.pt) + 1) + M * cntL (ps.map NT.pt)) := by
          rw [← hV, hcr]
          rfl
        clear hcr h3 hitv h1 h2
        have HVE := Lib.hid hVe
        clear hV hlen hVe
        go_enter Try.func23, Try.ntmps23
        go_wp2
        go_loopw [3, 4] (fun cv iv wr => ∃ i x : Nat, i ≤ len ∧ x ≤ 4097 ∧ iv = .int .i64 (i : Nat) ∧ cv = .int .i64 (x : Nat) ∧ Hid (x = cut (cntL ((ps.map NT.pt).take i))) ∧ Hid (Below w.heap.size w wr) ∧ Hid (CB wr 27 w.heap.size (nodeCells 6 s (M : Nat) (-1) (.slice a len c)))) (fun _ iv _ => len - (intOf iv).toNat)
        case atStart => exact ⟨0, 0, by omega, by omega, rfl, rfl, (by show 0 = _; simp [cntL, cut]), HB1.out, HC.out⟩
        case round =>
          obtain ⟨i, x, hi, hx, rfl, rfl, HX, HB, HCr⟩ := hrel
          obtain ⟨⟨x0, x1, x2, x3, x4, x5, x6, x7⟩, _⟩ := HCr.out.eight
          by_cases hlt : i < len
          · have hip : i < ps.length := by rw [HL.out]; exact hlt
            obtain ⟨b, off, tk, tS, tm, tn, ta, tl, tc, tps, rfl, ht, htm, hra⟩ := lies_elem HROW.out HPS.out hip
            have HRA := Lib.hid (rangeAt_below hra HB.out)
            have htk := cntL_take1 ps hip
            rw [ht] at htk
            have hcall := fun W hW => HIH.out _ htm W (HMY.out _ htm) (HNP.out _ htm) ((HPS.out _ htm).below hW)
            obtain ⟨d, hd⟩ : ∃ d, cut (cnt (NT.mk tk tS tm tn (.slice ta tl tc) tps).pt) = d := ⟨_, rfl⟩
            have hdl : d ≤ 4097 := by rw [← hd]; exact cut_lt _
            obtain ⟨y, hy⟩ : ∃ y, min (x + d) 4097 = y := ⟨_, rfl⟩
            have HY : Hid (y = cut (cntL ((ps.map NT.pt).take (i + 1)))) := by
              show _ = _
              rw [htk, ← cut_sum, ← HX.out, hd]
              exact hy.symm
            have hyi : min ((x : Int) + (d : Int)) 4097 = (y : Int) := by omega
            have hyl : y ≤ 4097 := by omega
            rw [hd] at hcall
            have HC1 := Lib.hid hcall
            clear hd hcall ht hra htk hy
            go_wp2_with (first | (refine wpl_loadN (.tmp 24) rfl rfl (g := b) (off := off + i * 8) (k := tk) (s := tS) (m := tm) (n := tn) (p := .slice ta tl tc) ?_ ?_ ?_; rfl; exact HRA.out) | (go_at_call 23; refine (HC1.out _ HB.out).mono ?_; rintro e w3 ⟨rfl, hb3⟩))
            go_roundw
            case rel => exact ⟨i + 1, y, by omega, by omega, by go_num, by go_num, HY.out, HB.out.trans (hb3.mono HB.out.size), CB.below HCr.out hb3⟩
            case measure => simp [intOf]; omega
          · obtain rfl : i = len := by omega
            have hfin : x = cut (cntL (ps.map NT.pt)) := by
              have := HX.out
              rw [List.take_of_length_le (by rw [List.length_map, HL.out]; exact Nat.le_refl _)] at this
              exact this
            have hv2 : V = min (1 * (x + 1) + M * x) 4097 := by
              rw [HVE.out, hfin]
              exact (cut_rep 1 M _).symm
            have hMx : M * x ≤ 255 * 4097 := Nat.mul_le_mul hM hx
            obtain ⟨Z, hZ⟩ : ∃ Z : Nat, M * x = Z := ⟨_, rfl⟩
            rw [hZ] at hv2 hMx
            have e4 : (x : Int) * ((M : Int) + 1) = (Z : Int) + (x : Int) := by rw [← hZ, Int.natCast_mul, Int.mul_add, Int.mul_one, Int.mul_comm]
            have hv3 : min ((Z : Int) + (x : Int) + 1) 4097 = (V : Int) := by omega
            clear hfin hv2 hZ
            go_wp2
            all_goals (go_ret; exact ⟨ret_int (by omega), HB.out⟩)

      · obtain ⟨A, hA0⟩ : ∃ A : Nat, n = ((M + A : Nat) : Int) := ⟨(n - M).toNat, by omega⟩
        obtain ⟨N, hN⟩ : ∃ N : Nat, N = M + A := ⟨_, rfl⟩
        rw [← hN] at hA0
        subst hA0
        have hA : A ≤ 255 := by omega
        have hNb : N ≤ 255 := by omega
        have HNE := Lib.hid hN
        have hVe : V = cut (A * (cntL (ps.map NT.pt) + 1) + M * cntL (ps.map NT.pt)) := by
          rw [← hV, hcr]
          have : again (M : Nat) (N : Nat) = A := by unfold again; rw [if_neg (by omega)]; omega
          rw [this]
        clear hcr h3 hitv h1 h2 hN hn1
        have HVE := Lib.hid hVe
        clear hV hlen hVe
        go_enter Try.func23, Try.ntmps23
        go_wp2
        go_loopw [3, 4] (fun cv iv wr => ∃ i x : Nat, i ≤ len ∧ x ≤ 4097 ∧ iv = .int .i64 (i : Nat) ∧ cv = .int .i64 (x : Nat) ∧ Hid (x = cut (cntL ((ps.map NT.pt).take i))) ∧ Hid (Below w.heap.size w wr) ∧ Hid (CB wr 27 w.heap.size (nodeCells 6 s (M : Nat) (N : Nat) (.slice a len c)))) (fun _ iv _ => len - (intOf iv).toNat)
        case atStart => exact ⟨0, 0, by omega, by omega, rfl, rfl, (by show 0 = _; simp [cntL, cut]), HB1.out, HC.out⟩
        case round =>
          obtain ⟨i, x, hi, hx, rfl, rfl, HX, HB, HCr⟩ := hrel
          obtain ⟨⟨x0, x1, x2, x3, x4, x5, x6, x7⟩, _⟩ := HCr.out.eight
          by_cases hlt : i < len
          · have hip : i < ps.length := by rw [HL.out]; exact hlt
            obtain ⟨b, off, tk, tS, tm, tn, ta, tl, tc, tps, rfl, ht, htm, hra⟩ := lies_elem HROW.out HPS.out hip
            have HRA := Lib.hid (rangeAt_below hra HB.out)
            have htk := cntL_take1 ps hip
            rw [ht] at htk
            have hcall := fun W hW => HIH.out _ htm W (HMY.out _ htm) (HNP.out _ htm) ((HPS.out _ htm).below hW)
            obtain ⟨d, hd⟩ : ∃ d, cut (cnt (NT.mk tk tS tm tn (.slice ta tl tc) tps).pt) = d := ⟨_, rfl⟩
            have hdl : d ≤ 4097 := by rw [← hd]; exact cut_lt _
            obtain ⟨y, hy⟩ : ∃ y, min (x + d) 4097 = y := ⟨_, rfl⟩
            have HY : Hid (y = cut (cntL ((ps.map NT.pt).take (i + 1)))) := by
              show _ = _
              rw [htk, ← cut_sum, ← HX.out, hd]
              exact hy.symm
            have hyi : min ((x : Int) + (d : Int)) 4097 = (y : Int) := by omega
            have hyl : y ≤ 4097 := by omega
            rw [hd] at hcall
            have HC1 := Lib.hid hcall
            clear hd hcall ht hra htk hy
            go_wp2_with (first | (refine wpl_loadN (.tmp 24) rfl rfl (g := b) (off := off + i * 8) (k := tk) (s := tS) (m := tm) (n := tn) (p := .slice ta tl tc) ?_ ?_ ?_; rfl; exact HRA.out) | (go_at_call 23; refine (HC1.out _ HB.out).mono ?_; rintro e w3 ⟨rfl, hb3⟩))
            go_roundw
            case rel => exact ⟨i + 1, y, by omega, by omega, by go_num, by go_num, HY.out, HB.out.trans (hb3.mono HB.out.size), CB.below HCr.out hb3⟩
            case measure => simp [intOf]; omega
          · obtain rfl : i = len := by omega
            have hfin : x = cut (cntL (ps.map NT.pt)) := by
              have := HX.out
              rw [List.take_of_length_le (by rw [List.length_map, HL.out]; exact Nat.le_refl _)] at this
              exact this
            have hv2 : V = min (A * (x + 1) + M * x) 4097 := by
              rw [HVE.out, hfin]
              exact (cut_rep A M _).symm
            have hMx : M * x ≤ 255 * 4097 := Nat.mul_le_mul hM hx
            have hAx : A * (x + 1) ≤ 255 * 4098 := Nat.mul_le_mul hA (by omega)
            obtain ⟨Z, hZ⟩ : ∃ Z : Nat, M * x = Z := ⟨_, rfl⟩
            obtain ⟨Y, hY⟩ : ∃ Y : Nat, A * (x + 1) = Y := ⟨_, rfl⟩
            rw [hZ, hY] at hv2
            rw [hZ] at hMx
            rw [hY] at hAx
            have e4 : (x : Int) * (N : Int) = (Z : Int) + (Y : Int) - (A : Int) := by
              have h9 : x * N = Z + x * A := by rw [HNE.out, Nat.mul_add, ← hZ, Nat.mul_comm M x]
              have h8 : Y = x * A + A := by rw [← hY, Nat.mul_add, Nat.mul_one, Nat.mul_comm A x]
              have h7 : ((x * N : Nat) : Int) = (x : Int) * (N : Int) := Int.natCast_mul _ _
              omega
            have hNA : N = M + A := HNE.out
            have hv3 : min ((Z : Int) + (Y : Int)) 4097 = (V : Int) := by omega
            have hv4 : min ((Z : Int) + (Y : Int) - (A : Int) + (N : Int) - (M : Int)) 4097 = (V : Int) := by omega
            clear hfin hv2 hZ hY hNA
            go_wp2
            all_goals (go_ret; exact ⟨ret_int (by omega), HB.out⟩)
end

section
/-! The reference's Size and Make. -/
set_option maxHeartbeats 4000000 in
set_option maxRecDepth 100000 in
theorem n_rSize (k : Int) (s : S4) (m n : Int) (a : Option Addr) (len c : Nat) (ps : List NT) (w : World) (hl : (NT.mk k s m n (.slice a len c) ps).Lies w) : Calls Try.prog 9 #[nodeVal k s m n (.slice a len c)] w fun e w' => e = .returned (.tuple #[.int .i64 ((sizeN (NT.mk k s m n (.slice a len c) ps).pt : Nat) : Int), .int .i64 (sizeE (NT.mk k s m n (.slice a len c) ps).pt)]) ∧ Below w.heap.size w w' := by
  have h1 := fun W hW => n_rCheck k s m n a len c ps W (hl.below hW)
  have h2 := fun (h0 : chk (NT.mk k s m n (.slice a len c) ps).pt = 0) W (hW : Below w.heap.size w W) => n_rstates (NT.mk k s m n (.slice a len c) ps) W (chk_zero h0).2 (Nat.le_trans (chk_zero h0).1 (by decide)) (hl.below hW)
  unfold sizeE sizeN
  obtain ⟨T, hT⟩ : ∃ T, (NT.mk k s m n (.slice a len c) ps).pt = T := ⟨_, rfl⟩
  rw [hT] at h1 h2 ⊢
  obtain ⟨e0, he0⟩ : ∃ e0, chk T = e0 := ⟨_, rfl⟩
  obtain ⟨C, hC⟩ : ∃ C, cnt T = C := ⟨_, rfl⟩
  rw [he0] at h1 h2 ⊢
  rw [hC] at h2 ⊢
  obtain ⟨X, hX⟩ : ∃ X, cut C = X := ⟨_, rfl⟩
  rw [hX] at h2
  have H1 : Hid (∀ W, Below w.heap.size w W → Calls Try.prog 22 #[nodeVal k s m n (.slice a len c)] W fun e w' => e = .returned (.int .i64 e0) ∧ Below W.heap.size W w') := h1
  have H2 : Hid (e0 = 0 → ∀ W, Below w.heap.size w W → Calls Try.prog 23 #[nodeVal k s m n (.slice a len c)] W fun e w' => e = .returned (.int .i64 (X : Nat)) ∧ Below W.heap.size W w') := h2
  have HB0 : Hid (Below w.heap.size w (w.alloc (.cells #[.int .i64 k, .int .u64 (s.a : Nat), .int .u64 (s.b : Nat), .int .u64 (s.c : Nat), .int .u64 (s.d : Nat), .int .i64 m, .int .i64 n, .slice a len c] 27))) := (Below.refl _ _).alloc (Nat.le_refl _) _
  have HC0 : Hid (CB (w.alloc (.cells #[.int .i64 k, .int .u64 (s.a : Nat), .int .u64 (s.b : Nat), .int .u64 (s.c : Nat), .int .u64 (s.d : Nat), .int .i64 m, .int .i64 n, .slice a len c] 27)) 27 w.heap.size (nodeCells k s m n (.slice a len c))) := CB.new w _ _
  have hXl : X ≤ 4097 := by rw [← hX]; exact cut_lt _
  clear h1 h2 hl hT he0 hC
  by_cases h0 : e0 = 0
  · subst h0
    rw [if_pos rfl, if_pos rfl]
    have H3 : Hid (∀ W, Below w.heap.size w W → Calls Try.prog 23 #[nodeVal k s m n (.slice a len c)] W fun e w' => e = .returned (.int .i64 (X : Nat)) ∧ Below W.heap.size W w') := H2.out rfl
    clear H2
    by_cases hbig : C + 1 ≤ 4096
    · have hXC : X = C := by rw [← hX]; unfold cut; omega
      subst hXC
      have hc : ¬ (4096 : Int) < (X : Int) + 1 := by omega
      rw [if_pos hbig, if_pos hbig]
      clear hX hbig
      go_enter Try.func9, Try.ntmps9
      go_wp2_with (first | (go_at_call 22; refine (H1.out _ HB0.out).mono ?_; rintro e w1 ⟨rfl, hb1⟩; have HB1 := Lib.hid (HB0.out.trans (hb1.mono HB0.out.size)); have HC1 := Lib.hid (CB.below HC0.out hb1); obtain ⟨⟨x0, x1, x2, x3, x4, x5, x6, x7⟩, -⟩ := HC1.out.eight; clear hb1) | (go_at_call 23; refine (H3.out _ HB1.out).mono ?_; rintro e w2 ⟨rfl, hb2⟩; have HB2 := Lib.hid (HB1.out.trans (hb2.mono HB1.out.size)); clear hb2))
      go_ret2
      exact ⟨ret_int2 (by omega), HB2.out⟩
    · have hc : (4096 : Int) < (X : Int) + 1 := by have : X = cut C := hX.symm; unfold cut at this; omega
      rw [if_neg hbig, if_neg hbig]
      clear hX hbig
      go_enter Try.func9, Try.ntmps9
      go_wp2_with (first | (go_at_call 22; refine (H1.out _ HB0.out).mono ?_; rintro e w1 ⟨rfl, hb1⟩; have HB1 := Lib.hid (HB0.out.trans (hb1.mono HB0.out.size)); have HC1 := Lib.hid (CB.below HC0.out hb1); obtain ⟨⟨x0, x1, x2, x3, x4, x5, x6, x7⟩, -⟩ := HC1.out.eight; clear hb1) | (go_at_call 23; refine (H3.out _ HB1.out).mono ?_; rintro e w2 ⟨rfl, hb2⟩; have HB2 := Lib.hid (HB1.out.trans (hb2.mono HB1.out.size)); clear hb2))
      go_ret2
      exact ⟨rfl, HB2.out⟩
  · rw [if_neg h0, if_neg h0]
    have hne : (e0 != 0) = true := by simpa using h0
    clear hX H2
    go_enter Try.func9, Try.ntmps9
    go_wp2_with (go_at_call 22; refine (H1.out _ HB0.out).mono ?_; rintro e w1 ⟨rfl, hb1⟩; have HB1 := Lib.hid (HB0.out.trans (hb1.mono HB0.out.size)); clear hb1)
    go_ret2
    exact ⟨rfl, HB1.out⟩
end

section
/-! The reference's Make. -/
set_option maxHeartbeats 2000000 in
set_option maxRecDepth 100000 in
theorem n_rMake_ok (k : Int) (s : S4) (m n : Int) (a : Option Addr) (len c : Nat) (ps : List NT) (w : World) (hl : (NT.mk k s m n (.slice a len c) ps).Lies w) (h0 : sizeE (NT.mk k s m n (.slice a len c) ps).pt = 0)
    (hlay : ∀ (B lb : Nat) (w0 : World), w0.heap.size ≤ B → (NT.mk k s m n (.slice a len c) ps).Lies w0 → YLayOK B lb w0 (.mk k s m n (.slice a len c) ps)) :
    Calls Try.prog 10 #[nodeVal k s m n (.slice a len c)] w fun e w' => MadeM (NT.mk k s m n (.slice a len c) ps).pt w e w' := by
  have hchk : chk (NT.mk k s m n (.slice a len c) ps).pt = 0 ∧ cnt (NT.mk k s m n (.slice a len c) ps).pt + 1 ≤ 4096 := by
    unfold sizeE at h0
    by_cases h1 : chk (NT.mk k s m n (.slice a len c) ps).pt = 0
    · rw [if_pos h1] at h0
      by_cases h2 : cnt (NT.mk k s m n (.slice a len c) ps).pt + 1 ≤ 4096
      · exact ⟨h1, h2⟩
      · rw [if_neg h2] at h0; cases h0
    · rw [if_neg h1] at h0; exact absurd h0 h1
  have hsn : sizeN (NT.mk k s m n (.slice a len c) ps).pt = cnt (NT.mk k s m n (.slice a len c) ps).pt + 1 := by unfold sizeN; rw [if_pos hchk.1, if_pos hchk.2]
  have hsize := fun W (hW : Below w.heap.size w W) => n_rSize k s m n a len c ps W (hl.below hW)
  rw [h0, hsn] at hsize
  have hlays := fun B lb W (hW : Below w.heap.size w W) (hB : W.heap.size ≤ B) => hlay B lb W hB (hl.below hW)
  unfold YLayOK at hlays
  unfold MadeM mk11
  obtain ⟨T, hT⟩ : ∃ T, (NT.mk k s m n (.slice a len c) ps).pt = T := ⟨_, rfl⟩
  rw [hT] at hsize hlays hchk ⊢
  obtain ⟨Z, hZ⟩ : ∃ Z, cnt T = Z := ⟨_, rfl⟩
  rw [hZ] at hsize hlays hchk
  obtain ⟨L, hL⟩ : ∃ L, (layT T 0 [doneS]).1 = L := ⟨_, rfl⟩
  obtain ⟨q, hq⟩ : ∃ q, (layT T 0 [doneS]).2 = q := ⟨_, rfl⟩
  have HLAY : Hid (∀ (B lb : Nat) (W0 : World), Below w.heap.size w W0 → W0.heap.size ≤ B → ∀ (v : Value) (W : World), YC B W lb [doneS] v → Below W0.heap.size W0 W → Calls Try.prog 25 #[.pointer (some ⟨lb, 0, none⟩), nodeVal k s m n (.slice a len c), .int .i64 0] W fun e w' => YRet B lb v L q W e w') := fun B lb W0 h1 h2 v W h3 h4 => by
    have h9 := hlays B lb W0 h1 h2 [doneS] 0 v W h3 h4 (by decide) (by decide) good_done (by show 1 + Z ≤ _; omega)
    rw [hL, hq] at h9
    exact h9
  have HSIZE : Hid (∀ W, Below w.heap.size w W → Calls Try.prog 9 #[nodeVal k s m n (.slice a len c)] W fun e w' => e = .returned (.tuple #[.int .i64 ((Z + 1 : Nat) : Int), .int .i64 0]) ∧ Below W.heap.size W w') := hsize
  rw [hL, hq]
  have hz : Z + 1 ≤ 4096 := hchk.2
  obtain ⟨Z1, hZ1⟩ : ∃ Z1, Z + 1 = Z1 := ⟨_, rfl⟩
  rw [hZ1] at HSIZE hz
  clear hsize hlays hchk hL hq hT hZ hl h0 hlay hsn hZ1
  have HB1 : Hid (Below w.heap.size w ((w.alloc (.cells #[.int .i64 k, .int .u64 (s.a : Nat), .int .u64 (s.b : Nat), .int .u64 (s.c : Nat), .int .u64 (s.d : Nat), .int .i64 m, .int .i64 n, .slice a len c] 27)).alloc (.cells #[.slice none 0 0, .int .i64 0] 35))) := ((Below.refl _ _).alloc (Nat.le_refl _) _).alloc (by go_size) _
  have HC1 : Hid (CB ((w.alloc (.cells #[.int .i64 k, .int .u64 (s.a : Nat), .int .u64 (s.b : Nat), .int .u64 (s.c : Nat), .int .u64 (s.d : Nat), .int .i64 m, .int .i64 n, .slice a len c] 27)).alloc (.cells #[.slice none 0 0, .int .i64 0] 35)) 27 w.heap.size (nodeCells k s m n (.slice a len c))) := CB.alloc (CB.new w _ _) _
  have HR1 : Hid (CB ((w.alloc (.cells #[.int .i64 k, .int .u64 (s.a : Nat), .int .u64 (s.b : Nat), .int .u64 (s.c : Nat), .int .u64 (s.d : Nat), .int .i64 m, .int .i64 n, .slice a len c] 27)).alloc (.cells #[.slice none 0 0, .int .i64 0] 35)) 35 (w.heap.size + 1) [.slice none 0 0, .int .i64 0]) := cb2 w _ _ _
  go_enter Try.func10, Try.ntmps10
  go_wp2_with (first
    | (go_at_call 25; refine (HLAY.out w2.heap.size w2.heap.size w2 HB2.out (Nat.le_refl _) v4 _ HS4.out.at_ HB4.out).mono ?_; rintro e w5 ⟨rfl, v5, hS5⟩; obtain ⟨la, lc, rfl⟩ := own_slice hS5.at_.row; obtain ⟨z0, -⟩ := hS5.at_.cells; have HR5 := Lib.hid (hS5.box HR4.out HNE.out.1 (fun e => (by have h9 := World.ownsRow.lt HS4.out.at_.row _ e; have h8 := HNE.out.2; omega))); obtain ⟨⟨r0, r1⟩, rf0, rf1⟩ := CB.two HR5.out; have HB5 := Lib.hid (hS5.from0 HS4.out.at_ HB4.out (Nat.le_refl _)); have HO5 := Lib.hid hS5.at_.row; clear hS5)
    | (go_at_call 24; have HL3 : Hid (YC w2.heap.size (w2.alloc (.cells #[.slice none 0 0] 58)) w2.heap.size [] (.slice none 0 0)) := ⟨CB.new w2 _ _, World.ownsRow_nil _ _ _ _, (fun e => by cases e), Nat.le_refl _⟩; have HB3 : Hid (Below w2.heap.size w2 (w2.alloc (.cells #[.slice none 0 0] 58))) := (Below.refl _ _).alloc (Nat.le_refl _) _; have HC3 := Lib.hid (CB.below HC2.out HB3.out); have HR3 := Lib.hid (CB.below HR2.out HB3.out); have HNE : Hid (w.heap.size + 1 ≠ w2.heap.size ∧ w.heap.size + 1 < w2.heap.size) := (by have h8 := CB.lt HR2.out; exact ⟨by omega, by omega⟩); have HNF : Hid (w.heap.size ≠ w2.heap.size ∧ w.heap.size < w2.heap.size) := (by have h8 := CB.lt HR2.out; exact ⟨by omega, by omega⟩); refine (n_state w2.heap.size [] (.slice none 0 0) _ 5 .zero 0 0 HL3.out (by decide)).mono ?_; rintro e w4 ⟨rfl, v4, hS4⟩; have HR4 := Lib.hid (hS4.box HR3.out HNE.out.1 (fun e => (by cases e))); have HC4 := Lib.hid (hS4.box HC3.out HNF.out.1 (fun e => (by cases e))); obtain ⟨⟨y0, y1, y2, y3, y4, y5, y6, y7⟩, -⟩ := HC4.out.eight; have HB4 := Lib.hid (hS4.from0 HL3.out HB3.out (Nat.le_refl _)); have HS4 := Lib.hid hS4; clear hS4)
    | (go_at_call 9; refine (HSIZE.out _ HB1.out).mono ?_; rintro e w2 ⟨rfl, hb2⟩; have HB2 := Lib.hid (HB1.out.trans (hb2.mono HB1.out.size)); have HC2 := Lib.hid (CB.below HC1.out hb2); have HR2 := Lib.hid (CB.below HR1.out hb2); clear hb2))
  have hz9 := CB.set2 HR5.out (.slice la L.length lc) (.int .i64 (q : Nat))
  refine bodyPost_ret (results_cbT rfl rfl rfl hz9 Try.underlying35 infoNfa) rfl ⟨?_, la, lc, rfl, ?_⟩
  · exact ((HB2.out.trans (HB5.out.mono HB2.out.size)).setCell (p := ⟨w.heap.size + 1, 0, none⟩) (Nat.le_succ _) _).setCell (p := ⟨w.heap.size + 1, 1, none⟩) (Nat.le_succ _) _
  · have hch : Chg (fun k => k = w.heap.size + 1) w5 ((w5.setCell ⟨w.heap.size + 1, 0, none⟩ (.slice la L.length lc)).setCell ⟨w.heap.size + 1, 1, none⟩ (.int .i64 (q : Nat))) := Chg.setCell (S := fun k => k = w.heap.size + 1) (Chg.setCell (S := fun k => k = w.heap.size + 1) (Chg.refl _ w5) (p := ⟨w.heap.size + 1, 0, none⟩) rfl _) (p := ⟨w.heap.size + 1, 1, none⟩) rfl _
    exact hch.ownsS (ownsS_base HO5.out HB2.out.size) fun k hk e => (by have h9 := World.ownsRow.lt HO5.out k hk; have h8 := HNE.out.2; omega)
set_option maxHeartbeats 1000000 in
set_option maxRecDepth 100000 in
theorem n_rMake_no (k : Int) (s : S4) (m n : Int) (a : Option Addr) (len c : Nat) (ps : List NT) (w : World) (E : Int) (hl : (NT.mk k s m n (.slice a len c) ps).Lies w) (h0 : sizeE (NT.mk k s m n (.slice a len c) ps).pt = E) (hE : E ≠ 0) :
    Calls Try.prog 10 #[nodeVal k s m n (.slice a len c)] w fun e w' => e = .returned (.tuple #[.agg #[.slice none 0 0, .int .i64 0], .int .i64 E]) ∧ Below w.heap.size w w' := by
  have hsize := fun W (hW : Below w.heap.size w W) => n_rSize k s m n a len c ps W (hl.below hW)
  rw [h0] at hsize
  obtain ⟨Z, hZ⟩ : ∃ Z, sizeN (NT.mk k s m n (.slice a len c) ps).pt = Z := ⟨_, rfl⟩
  rw [hZ] at hsize
  have HSIZE : Hid (∀ W, Below w.heap.size w W → Calls Try.prog 9 #[nodeVal k s m n (.slice a len c)] W fun e w' => e = .returned (.tuple #[.int .i64 ((Z : Nat) : Int), .int .i64 E]) ∧ Below W.heap.size W w') := hsize
  have hne : (E != 0) = true := by simpa using hE
  clear hsize hZ hl h0
  have HB1 : Hid (Below w.heap.size w ((w.alloc (.cells #[.int .i64 k, .int .u64 (s.a : Nat), .int .u64 (s.b : Nat), .int .u64 (s.c : Nat), .int .u64 (s.d : Nat), .int .i64 m, .int .i64 n, .slice a len c] 27)).alloc (.cells #[.slice none 0 0, .int .i64 0] 35))) := ((Below.refl _ _).alloc (Nat.le_refl _) _).alloc (by go_size) _
  have HR1 : Hid (CB ((w.alloc (.cells #[.int .i64 k, .int .u64 (s.a : Nat), .int .u64 (s.b : Nat), .int .u64 (s.c : Nat), .int .u64 (s.d : Nat), .int .i64 m, .int .i64 n, .slice a len c] 27)).alloc (.cells #[.slice none 0 0, .int .i64 0] 35)) 35 (w.heap.size + 1) [.slice none 0 0, .int .i64 0]) := cb2 w _ _ _
  go_enter Try.func10, Try.ntmps10
  go_wp2_with (go_at_call 9; refine (HSIZE.out _ HB1.out).mono ?_; rintro e w2 ⟨rfl, hb2⟩; have HB2 := Lib.hid (HB1.out.trans (hb2.mono HB1.out.size)); have HR2 := Lib.hid (CB.below HR1.out hb2); obtain ⟨⟨r0, r1⟩, rf0, rf1⟩ := CB.two HR2.out; clear hb2)
  have hz9 := CB.set2 HR2.out (.slice none 0 0) (.int .i64 0)
  refine bodyPost_ret (results_cbT rfl rfl rfl hz9 Try.underlying35 infoNfa) rfl ⟨rfl, ?_⟩
  exact (HB2.out.setCell (p := ⟨w.heap.size + 1, 0, none⟩) (Nat.le_succ _) _).setCell (p := ⟨w.heap.size + 1, 1, none⟩) (Nat.le_succ _) _
theorem n_rMake (t : NT) (w : World) (hn : t.num) (hl : t.Lies w) (h0 : sizeE t.pt = 0) : Calls Try.prog 10 #[t.val] w fun e w' => MadeM t.pt w e w' := by
  obtain ⟨k, s, m, n, p, ps⟩ := t
  obtain ⟨⟨a, c, rfl, hrow⟩, hps⟩ := NT.Lies_mk.1 hl
  obtain ⟨h1, h2⟩ := chk_zero (size_parts h0).1
  exact n_rMake_ok k s m n a _ c ps w hl h0 fun B lb w0 hw hl0 => n_rlays lb w0 hw _ h2 (n_num_sets _ hn) (by omega) hl0
end
end Go.Proofs.Ytboebadpohjolaa
