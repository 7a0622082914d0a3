import Derived.Test.YtboebadpohjolaaNfO
import Derived.Test.YtboebadpohjolaaNfM1
namespace Go.Proofs.Ytboebadpohjolaa
open Go.RowKit

variable {B : Nat}

/-! The reference lays a repeat. -/
theorem YC.turn {w : World} {lb g len c q b : Nat} {L M : List St} (h : YC B w lb (L ++ splitS 0 q :: M) (.slice (some ⟨g, 0, none⟩) len c)) (hl : (L ++ splitS 0 q :: M).length = len) :
    YS B w (w.setCell ⟨g, L.length * 7 + 5, none⟩ (.int .i64 (b : Nat))) lb (.slice (some ⟨g, 0, none⟩) len c) (L ++ splitS b q :: M) (.slice (some ⟨g, 0, none⟩) len c) := by
  have hne : g ≠ lb := fun e => h.ne (by rw [e]; rfl)
  have hl2 : (L ++ splitS b q :: M).length = len := by rw [← hl]; simp
  refine ⟨⟨CB.other h.box ⟨g, _, none⟩ hne _, ?_, h.ne, h.base⟩, (Chg.refl _ w).setCell (p := ⟨g, L.length * 7 + 5, none⟩) (.inr rfl) _, fun k hk => .inl hk⟩
  have h1 := h.row
  rw [hl] at h1
  have h2 := owned_set h1 (L.length * 7 + 5) (.int .i64 (b : Nat))
  rw [next_set] at h2
  rw [hl2]
  exact h2
/-- What the reference knows of a repeat as it goes on: n0 the box of the node, n0 + 1 that of its part. -/
structure RpI (B : Nat) (w : World) (lb : Nat) (v : Value) (cn cp : List Value) (L : List St) (q : Nat) (W : World) (vk : Value) : Prop where
  ys : YS B w W lb v L vk
  bn : CB W 27 w.heap.size cn
  bp : CB W 27 (w.heap.size + 1) cp
  n1 : vk.ownBlock ≠ some w.heap.size
  n2 : vk.ownBlock ≠ some (w.heap.size + 1)
  li : LI L q
theorem RpI.go {w W W' : World} {lb : Nat} {v v1 v2 : Value} {cn cp : List Value} {L L2 : List St} {q q2 : Nat} (h : RpI B w lb v cn cp L q W v1) (hy : YS B W W' lb v1 L2 v2) (hlb : lb < w.heap.size) (hli : LI L2 q2) : RpI B w lb v cn cp L2 q2 W' v2 :=
  ⟨h.ys.trans hy, hy.box h.bn (by omega) h.n1, hy.box h.bp (by omega) h.n2, fun e => (hy.own _ e).elim h.n1 fun e2 => by have := CB.lt h.bn; omega, fun e => (hy.own _ e).elim h.n2 fun e2 => by have := CB.lt h.bp; omega, hli⟩
theorem RpI.below {w W W' : World} {lb : Nat} {v v1 : Value} {cn cp : List Value} {L : List St} {q : Nat} (h : RpI B w lb v cn cp L q W v1) (hb : Below W.heap.size W W') : RpI B w lb v cn cp L q W' v1 :=
  ⟨h.ys.below hb, h.bn.below hb, h.bp.below hb, h.n1, h.n2, h.li⟩
set_option maxHeartbeats 8000000 in
set_option maxRecDepth 100000 in
theorem n_rrep (lb : Nat) (w0 : World) (k : Int) (s : S4) (m n : Int) (a : Option Addr) (len c : Nat) (ps : List NT) (hok : YLayOK B lb w0 (.mk k s m n (.slice a len c) ps)) (hlaid : Laid (layT (NT.mk k s m n (.slice a len c) ps).pt) (cnt (NT.mk k s m n (.slice a len c) ps).pt)) (hw0 : w0.heap.size ≤ B)
    (b off bc : Nat) (hra : w0.rangeAt b off (nodeCells k s m n (.slice a len c))) (S : S4) (M A : Nat) (X : Int) (hX : (X = -1 ∧ A = 0) ∨ X = ((M + A : Nat) : Int)) (hM : M ≤ 255) (hA : A ≤ 255)
    (L : List St) (q : Nat) (v : Value) (w : World) (h : YC B w lb L v) (hb : Below w0.heap.size w0 w) (hi : LI L q) (hlen : L.length + ((if X = -1 then 1 else A) * (cnt (NT.mk k s m n (.slice a len c) ps).pt + 1) + M * cnt (NT.mk k s m n (.slice a len c) ps).pt) ≤ 1048576) :
    Calls Try.prog 35 #[.pointer (some ⟨lb, 0, none⟩), nodeVal 6 S (M : Nat) X (.slice (some ⟨b, off, none⟩) 1 bc), .int .i64 (q : Nat)] w fun e w' =>
      YRet B lb v (repF (layT (NT.mk k s m n (.slice a len c) ps).pt) (M : Nat) X q L).1 (repF (layT (NT.mk k s m n (.slice a len c) ps).pt) (M : Nat) X q L).2 w e w' := by
  unfold YLayOK at hok
  have hbeh : Behind (layT (NT.mk k s m n (.slice a len c) ps).pt) := lay_behind _
  have hround := fun L q h0 h1 h2 => round_laid hlaid L q h0 h1 h2
  obtain ⟨f, hf⟩ : ∃ f, layT (NT.mk k s m n (.slice a len c) ps).pt = f := ⟨_, rfl⟩
  obtain ⟨C, hC⟩ : ∃ C, cnt (NT.mk k s m n (.slice a len c) ps).pt = C := ⟨_, rfl⟩
  rw [hf, hC] at hok hlaid hround
  rw [hC] at hlen
  rw [hf] at hbeh ⊢
  have HOK : Hid (∀ (L : List St) (q : Nat) (v : Value) (w : World), YC B w lb L v → Below w0.heap.size w0 w → 0 < L.length → q < L.length → GoodS L → L.length + C ≤ 1048576 →
    Calls Try.prog 25 #[.pointer (some ⟨lb, 0, none⟩), nodeVal k s m n (.slice a len c), .int .i64 (q : Nat)] w fun e w' => YRet B lb v (f q L).1 (f q L).2 w e w') := hok
  have HLAID := Lib.hid hlaid
  have HH := Lib.hid h
  have HB := Lib.hid hb
  have hlt := h.lt
  have hbase := h.base
  have hv1 : v.ownBlock ≠ some w.heap.size := fun e => absurd (World.ownsRow.lt h.row _ e).2 (by omega)
  have hv2 : v.ownBlock ≠ some (w.heap.size + 1) := fun e => absurd (World.ownsRow.lt h.row _ e).2 (by omega)
  have HR0 : Hid (RpI B w lb v (nodeCells 6 S (M : Nat) X (.slice (some ⟨b, off, none⟩) 1 bc)) (nodeCells k s m n (.slice a len c)) L q ((w.alloc (.cells #[.int .i64 6, .int .u64 (S.a : Nat), .int .u64 (S.b : Nat), .int .u64 (S.c : Nat), .int .u64 (S.d : Nat), .int .i64 ((M : Nat) : Int), .int .i64 X, .slice (some ⟨b, off, none⟩) 1 bc] 27)).alloc (.cells #[.int .i64 k, .int .u64 (s.a : Nat), .int .u64 (s.b : Nat), .int .u64 (s.c : Nat), .int .u64 (s.d : Nat), .int .i64 m, .int .i64 n, .slice a len c] 27)) v) :=
    ⟨((YS.refl h).alloc _).alloc _, (CB.new w _ _).alloc _, cb2 w _ _ _, hv1, hv2, hi⟩
  have HRA : Hid ((w.alloc (.cells #[.int .i64 6, .int .u64 (S.a : Nat), .int .u64 (S.b : Nat), .int .u64 (S.c : Nat), .int .u64 (S.d : Nat), .int .i64 ((M : Nat) : Int), .int .i64 X, .slice (some ⟨b, off, none⟩) 1 bc] 27)).rangeAt b off (nodeCells k s m n (.slice a len c))) := rangeAt_below hra (hb.alloc hb.size _)
  have HI := Lib.hid hi
  have hXc : ∀ i, i < A → ((M : Int) + (i : Int) < X) := fun i hi => by omega
  have hXd : ¬ ((M : Int) + (A : Int) < X) := by omega
  have HXC := Lib.hid hXc
  obtain ⟨F, hF⟩ : ∃ F, repF f (M : Nat) X q L = F := ⟨_, rfl⟩
  rw [hF]
  by_cases hX1 : X = -1
  · have hA0 : A = 0 := by omega
    subst hA0
    subst hX1
    rw [if_pos rfl] at hlen
    have hFe : timesF f M (roundF f L q).1 (roundF f L q).2 = F := by rw [← hF]; unfold repF; rw [if_pos rfl, Int.toNat_natCast]
    obtain ⟨N, hN⟩ := round_split hbeh L q
    obtain ⟨g1, g2, g3⟩ := hround L q hi.1 hi.2.1 hi.2.2
    rw [round_turns hN] at hFe g1 g2 g3
    obtain ⟨r1, r2, r3⟩ := hlaid L.length (L ++ [splitS 0 q]) (by simp) (by simp) (hi.2.2.split hi.1 hi.2.1)
    have hcall := fun v2 w2 h2 hb2 => hok (L ++ [splitS 0 q]) L.length v2 w2 h2 hb2 (by simp) (by simp) (hi.2.2.split hi.1 hi.2.1) (by simp; omega)
    obtain ⟨x, hx⟩ : ∃ x, (f L.length (L ++ [splitS 0 q])).2 = x := ⟨_, rfl⟩
    rw [hN, hx] at hcall
    rw [hx] at hFe g1 g2 g3
    rw [hN] at r1
    obtain ⟨P, hP⟩ : ∃ P, L.length = P := ⟨_, rfl⟩
    obtain ⟨T, hT⟩ : ∃ T, (L ++ splitS 0 q :: N).length = T := ⟨_, rfl⟩
    have hT2 : (L ++ splitS x q :: N).length = T := by rw [← hT]; simp
    have hpt : (P : Int) < (T : Int) := by rw [← hP, ← hT]; simp; omega
    have hq1 : q < L.length := hi.2.1
    have HFE : Hid (timesF f M (perhF f q 0 (L ++ splitS x q :: N) P).1 (perhF f q 0 (L ++ splitS x q :: N) P).2 = F) := by rw [hP] at hFe; exact hFe
    have HLI1 : Hid (LI (L ++ splitS x q :: N) P) := ⟨by simp; omega, by rw [← hP]; exact g2, g3⟩
    have HLA : Hid (LI (L ++ [splitS 0 q]) P) := ⟨by simp, by rw [← hP]; simp, hi.2.2.split hi.1 hi.2.1⟩
    have HLB : Hid (LI (L ++ splitS 0 q :: N) x) := ⟨by simp; omega, by have h9 := r2; rw [hN, hx] at h9; exact h9, by have := r3; rw [hN] at this; exact this⟩
    have HQ1 : Hid (q < (L ++ splitS x q :: N).length) := by show q < _; simp; omega
    have HLEN1 : Hid ((L ++ splitS x q :: N).length + 0 * (C + 1) + M * C ≤ 1048576) := by
      show _ ≤ _
      have h9 : (L ++ [splitS 0 q]).length = P + 1 := by simp [hP]
      rw [hT2]
      rw [h9, hT] at r1
      omega
    rw [hP] at hcall
    have HCALL := Lib.hid hcall
    have HP := Lib.hid hP
    have HT := Lib.hid hT
    have hpl : P ≤ 1048576 := by omega
    clear hok hlaid hf hC h hb hi hlen hN hx hT hcall hbeh r1 r2 r3 hP g1 g2 g3 hFe hF hround hra hT2
    go_enter Try.func35, Try.ntmps35
    go_wp2_with (first | (refine wpl_loadN (.tmp 17) rfl rfl (g := b) (off := off) (k := k) (s := s) (m := m) (n := n) (p := .slice a len c) ?_ HRA.out ?_; rfl) | (go_at_call 24; refine (n_state lb L v _ 2 .zero 0 (q : Nat) HR0.out.ys.at_ (by have := HP.out; omega)).mono ?_; rintro e w2 ⟨rfl, v2, hS2⟩; rw [HP.out]; have HR2 := Lib.hid (HR0.out.go hS2 hlt HLA.out); clear hS2; obtain ⟨⟨y0, y1, y2, y3, y4, y5, y6, y7⟩, -⟩ := HR2.out.bp.eight) | (go_at_call 25; refine (HCALL.out v2 _ HR2.out.ys.at_ (HR2.out.ys.from0 HH.out HB.out hw0)).mono ?_; rintro e w3 ⟨rfl, v3, hS3⟩; have HR3 := Lib.hid (HR2.out.go hS3 hlt HLB.out); clear hS3; obtain ⟨g3, c3, hv3⟩ := Go.Joins.ownsRow_form HR3.out.ys.at_.row (by simp; omega); rw [HT.out] at hv3; subst hv3; have HLC := Lib.hid HR3.out.ys.at_; have hrow3 := HLC.out.row; rw [HT.out] at hrow3; have hc3 := owned_next hrow3 HT.out.symm; have hf3 := owned_free hrow3 (P * 7 + 5); rw [HP.out] at hc3; obtain ⟨z0, -⟩ := HLC.out.cells; have hgn : g3 ≠ w.heap.size := (fun e => HR3.out.n1 (by rw [e]; rfl)); have hst := CB.other HR3.out.bn ⟨g3, P * 7 + 5, none⟩ hgn (.int .i64 (x : Nat)); obtain ⟨⟨t0, t1, t2, t3, t4, t5, t6, t7⟩, -⟩ := hst.eight; clear hrow3 hst))
    have hturn := YC.turn (b := x) HLC.out HT.out
    rw [HP.out] at hturn
    obtain ⟨L1, hL1⟩ : ∃ L1, L ++ splitS x q :: N = L1 := ⟨_, rfl⟩
    rw [hL1] at HFE HLI1 HQ1 HLEN1 hturn
    have HR1 := Lib.hid (HR3.out.go hturn hlt HLI1.out)
    clear hturn hL1 y0 y1 y2 y3 y4 y5 y6 y7 z0 t0 t1 t2 t3 t4 t5 t6 t7 hc3 hf3
    go_loopw [8, 11] (fun tv iv wr => ∃ (i : Nat) (Li : List St) (qi : Nat) (vi : Value), i ≤ 0 ∧ iv = .int .i64 ((M : Int) + (i : Int)) ∧ tv = .int .i64 (qi : Nat) ∧ Hid (RpI B w lb v (nodeCells 6 S (M : Nat) (-1) (.slice (some ⟨b, off, none⟩) 1 bc)) (nodeCells k s m n (.slice a len c)) Li qi wr vi) ∧ Hid (timesF f M (perhF f q (0 - i) Li qi).1 (perhF f q (0 - i) Li qi).2 = F) ∧ Hid (q < Li.length) ∧ Hid (Li.length + (0 - i) * (C + 1) + M * C ≤ 1048576)) (fun _ iv _ => 0 - (intOf iv - (M : Int)).toNat)
    case atStart => exact ⟨0, _, _, _, Nat.zero_le _, by simp, rfl, HR1.out, (by show _ = _; rw [Nat.sub_zero]; exact HFE.out), HQ1.out, (by show _ ≤ _; rw [Nat.sub_zero]; exact HLEN1.out)⟩
    case round =>
      rename_i wr
      obtain ⟨i, Li, qi, vi, hiA, rfl, rfl, HRi, HEi, HQi, HLi⟩ := hrel
      obtain ⟨⟨x0, x1, x2, x3, x4, x5, x6, x7⟩, -⟩ := HRi.out.bn.eight
      obtain ⟨⟨y0, y1, y2, y3, y4, y5, y6, y7⟩, -⟩ := HRi.out.bp.eight
      by_cases hltA : i < 0
      · omega
      · obtain rfl : i = 0 := by omega
        have HE2 : Hid (timesF f M Li qi = F) := by
          have := HEi.out
          rw [Nat.sub_self, perhF] at this
          exact this
        have HL2 : Hid (Li.length + M * C ≤ 1048576) := by have := HLi.out; show _ ≤ _; omega
        have hXd2 : ¬ ((M : Int) < -1) := by omega
        clear HEi HLi
        go_wp2
        clear x0 x1 x2 x3 x4 x5 x6 x7 y0 y1 y2 y3 y4 y5 y6 y7
        go_loopw [8, 13] (fun tv iv wz => ∃ (d : Nat) (Lk : List St) (qk : Nat) (vk : Value), d ≤ M ∧ iv = .int .i64 (d : Nat) ∧ tv = .int .i64 (qk : Nat) ∧ Hid (RpI B w lb v (nodeCells 6 S (M : Nat) (-1) (.slice (some ⟨b, off, none⟩) 1 bc)) (nodeCells k s m n (.slice a len c)) Lk qk wz vk) ∧ Hid (timesF f (M - d) Lk qk = F) ∧ Hid (Lk.length + (M - d) * C ≤ 1048576)) (fun _ iv _ => M - (intOf iv).toNat)
        case atStart => exact ⟨0, Li, qi, vi, Nat.zero_le _, rfl, rfl, HRi.out, (by show _ = _; rw [Nat.sub_zero]; exact HE2.out), (by show _ ≤ _; rw [Nat.sub_zero]; exact HL2.out)⟩
        case round =>
          obtain ⟨d, Lk, qk, vk, hdM, rfl, rfl, HRk, HEk, HLk⟩ := hrel
          obtain ⟨⟨x0, x1, x2, x3, x4, x5, x6, x7⟩, -⟩ := HRk.out.bn.eight
          obtain ⟨⟨y0, y1, y2, y3, y4, y5, y6, y7⟩, -⟩ := HRk.out.bp.eight
          obtain ⟨va, vc, rfl⟩ := own_slice HRk.out.ys.at_.row
          obtain ⟨c0, -⟩ := HRk.out.ys.at_.cells
          by_cases hltM : d < M
          · obtain ⟨j, hj⟩ : ∃ j, M - d = j + 1 := ⟨M - d - 1, by omega⟩
            have hj2 : M - (d + 1) = j := by omega
            rw [hj] at HEk HLk
            have hli := HRk.out.li
            obtain ⟨r1, r2, r3⟩ := HLAID.out qk Lk hli.1 hli.2.1 hli.2.2
            have hjc : (j + 1) * C = j * C + C := by rw [Nat.add_mul, Nat.one_mul]
            have hle2 : Lk.length + C ≤ 1048576 := by have := HLk.out; omega
            have hlz : Lk.length ≤ 1048576 := by omega
            have he := HEk.out
            rw [timesF] at he
            have hcall := HOK.out Lk qk _ _ HRk.out.ys.at_ (HRk.out.ys.from0 HH.out HB.out hw0) hli.1 hli.2.1 hli.2.2 hle2
            obtain ⟨Lj, hLj⟩ : ∃ Lj, (f qk Lk).1 = Lj := ⟨_, rfl⟩
            obtain ⟨qj, hqj⟩ : ∃ qj, (f qk Lk).2 = qj := ⟨_, rfl⟩
            have hfe : f qk Lk = (Lj, qj) := by rw [← hLj, ← hqj]
            rw [hfe] at he hcall r1 r2 r3
            have h9 : Lj.length = Lk.length + C := r1
            have hljz : Lj.length ≤ 1048576 := by omega
            have HLIj : Hid (LI Lj qj) := ⟨by have := hli.1; omega, r2, r3⟩
            have HLJ : Hid (Lj.length + j * C ≤ 1048576) := by show _ ≤ _; have := HLk.out; omega
            have HCALL := Lib.hid hcall
            obtain ⟨K, hK⟩ : ∃ K, Lk.length = K := ⟨_, rfl⟩
            rw [hK] at h9 hlz c0 hle2
            have HK := Lib.hid hK
            by_cases hsame : Lj.length = K
            · have hsi : ((Lj.length : Nat) : Int) = (K : Int) := by omega
              have HEQ : Hid ((Lj, qj) = F) := by
                show _ = _
                rw [← he, if_pos (by rw [hK]; exact hsame)]
              clear he hcall r1 r2 r3 hfe hLj hqj hli hjc hK h9 hsame
              go_wp2_with (go_at_call 25; refine (HCALL.out).mono ?_; rintro e w2 ⟨rfl, v2, hS2⟩; have HR2 := Lib.hid (HRk.out.go hS2 hlt HLIj.out); obtain ⟨wa, wc, rfl⟩ := own_slice hS2.at_.row; obtain ⟨d0, -⟩ := hS2.at_.cells; clear hS2)
              go_ret
              rw [← HEQ.out]
              exact ⟨rfl, _, HR2.out.ys⟩
            · have hsi : ¬ ((Lj.length : Nat) : Int) = (K : Int) := by omega
              have HEQ : Hid (timesF f j Lj qj = F) := by
                show _ = _
                rw [← he, if_neg (by rw [hK]; exact hsame)]
              clear he hcall r1 r2 r3 hfe hLj hqj hli hjc hK h9 hsame
              go_wp2_with (go_at_call 25; refine (HCALL.out).mono ?_; rintro e w2 ⟨rfl, v2, hS2⟩; have HR2 := Lib.hid (HRk.out.go hS2 hlt HLIj.out); obtain ⟨wa, wc, rfl⟩ := own_slice hS2.at_.row; obtain ⟨d0, -⟩ := hS2.at_.cells; clear hS2)
              go_roundw
              case rel => exact ⟨d + 1, Lj, qj, _, by omega, by go_num, rfl, HR2.out, (by show _ = _; rw [hj2]; exact HEQ.out), (by show _ ≤ _; rw [hj2]; exact HLJ.out)⟩
              case measure => simp [intOf]; omega
          · obtain rfl : d = M := by omega
            have HEQ : Hid ((Lk, qk) = F) := by
              have := HEk.out
              rw [Nat.sub_self, timesF] at this
              exact this
            go_wp2
            go_ret
            rw [← HEQ.out]
            exact ⟨rfl, _, HRk.out.ys⟩
  · rw [if_neg hX1] at hlen
    have hXA : X = ((M + A : Nat) : Int) := by omega
    have HFE : Hid (timesF f M (perhF f q A L q).1 (perhF f q A L q).2 = F) := by
      show _ = _
      rw [← hF]
      unfold repF
      rw [if_neg hX1, Int.toNat_natCast, show (X - (M : Int)).toNat = A by omega]
    have HQ1 : Hid (q < L.length) := hi.2.1
    have HLEN1 : Hid (L.length + A * (C + 1) + M * C ≤ 1048576) := by show _ ≤ _; omega
    have HR1 := HR0
    clear hok hlaid hf hC h hb hlen hbeh hF hround hra hXA hX hi
    go_enter Try.func35, Try.ntmps35
    go_wp2_with (refine wpl_loadN (.tmp 17) rfl rfl (g := b) (off := off) (k := k) (s := s) (m := m) (n := n) (p := .slice a len c) ?_ HRA.out ?_; rfl)
    go_loopw [8, 11] (fun tv iv wr => ∃ (i : Nat) (Li : List St) (qi : Nat) (vi : Value), i ≤ A ∧ iv = .int .i64 ((M : Int) + (i : Int)) ∧ tv = .int .i64 (qi : Nat) ∧ Hid (RpI B w lb v (nodeCells 6 S (M : Nat) X (.slice (some ⟨b, off, none⟩) 1 bc)) (nodeCells k s m n (.slice a len c)) Li qi wr vi) ∧ Hid (timesF f M (perhF f q (A - i) Li qi).1 (perhF f q (A - i) Li qi).2 = F) ∧ Hid (q < Li.length) ∧ Hid (Li.length + (A - i) * (C + 1) + M * C ≤ 1048576)) (fun _ iv _ => A - (intOf iv - (M : Int)).toNat)
    case atStart => exact ⟨0, _, _, _, Nat.zero_le _, by simp, rfl, HR1.out, (by show _ = _; rw [Nat.sub_zero]; exact HFE.out), HQ1.out, (by show _ ≤ _; rw [Nat.sub_zero]; exact HLEN1.out)⟩
    case round =>
      rename_i wr
      obtain ⟨i, Li, qi, vi, hiA, rfl, rfl, HRi, HEi, HQi, HLi⟩ := hrel
      obtain ⟨⟨x0, x1, x2, x3, x4, x5, x6, x7⟩, -⟩ := HRi.out.bn.eight
      obtain ⟨⟨y0, y1, y2, y3, y4, y5, y6, y7⟩, -⟩ := HRi.out.bp.eight
      by_cases hltA : i < A
      · have hcond := HXC.out i hltA
        obtain ⟨j, hj⟩ : ∃ j, A - i = j + 1 := ⟨A - i - 1, by omega⟩
        have hj2 : A - (i + 1) = j := by omega
        rw [hj] at HEi HLi
        have hli := HRi.out.li
        obtain ⟨r1, r2, r3⟩ := HLAID.out qi Li hli.1 hli.2.1 hli.2.2
        have hjc : (j + 1) * (C + 1) = j * (C + 1) + (C + 1) := by rw [Nat.add_mul, Nat.one_mul]
        have hle2 : Li.length + C ≤ 1048576 := by have := HLi.out; omega
        have he := HEi.out
        rw [perhF] at he
        have hcall := HOK.out Li qi vi wr HRi.out.ys.at_ (HRi.out.ys.from0 HH.out HB.out hw0) hli.1 hli.2.1 hli.2.2 hle2
        obtain ⟨Lj, hLj⟩ : ∃ Lj, (f qi Li).1 = Lj := ⟨_, rfl⟩
        obtain ⟨qj, hqj⟩ : ∃ qj, (f qi Li).2 = qj := ⟨_, rfl⟩
        rw [hLj, hqj] at he hcall
        rw [hLj] at r1 r3
        rw [hLj, hqj] at r2
        have hQ := HQi.out
        have HLIj : Hid (LI Lj qj) := ⟨by have := hli.1; omega, r2, r3⟩
        have HLIk : Hid (LI (Lj ++ [splitS qj q]) Lj.length) := ⟨by simp, by simp, GoodS.split r3 r2 (by omega)⟩
        have HQJ : Hid (q < (Lj ++ [splitS qj q]).length) := by show q < _; rw [List.length_append, List.length_singleton]; omega
        have HLJ : Hid ((Lj ++ [splitS qj q]).length + j * (C + 1) + M * C ≤ 1048576) := by show _ ≤ _; rw [List.length_append, List.length_singleton]; have := HLi.out; omega
        have hljz : Lj.length ≤ 1048576 := by have := HLi.out; omega
        have HCALL := Lib.hid hcall
        have HEQ := Lib.hid he
        clear he hcall r1 r2 r3 hLj hqj hQ hjc hli
        go_wp2_with (first | (go_at_call 25; refine (HCALL.out).mono ?_; rintro e w2 ⟨rfl, v2, hS2⟩; have HR2 := Lib.hid (HRi.out.go hS2 hlt HLIj.out); clear hS2) | (go_at_call 24; refine (n_state lb Lj v2 _ 2 .zero (qj : Nat) (q : Nat) HR2.out.ys.at_ hljz).mono ?_; rintro e w4 ⟨rfl, v4, hS4⟩; have HR4 := Lib.hid (HR2.out.go hS4 hlt HLIk.out); clear hS4))
        go_roundw
        case rel => exact ⟨i + 1, Lj ++ [splitS qj q], Lj.length, v4, by omega, by go_num, rfl, HR4.out, (by show _ = _; rw [hj2]; exact HEQ.out), HQJ.out, (by show _ ≤ _; rw [hj2]; exact HLJ.out)⟩
        case measure => simp [intOf]; omega
      · obtain rfl : i = A := by omega
        have HE2 : Hid (timesF f M Li qi = F) := by
          have := HEi.out
          rw [Nat.sub_self, perhF] at this
          exact this
        have HL2 : Hid (Li.length + M * C ≤ 1048576) := by have := HLi.out; show _ ≤ _; omega
        have hXd2 : ¬ ((M : Int) + (i : Int) < X) := by omega
        clear HEi HLi
        go_wp2
        clear x0 x1 x2 x3 x4 x5 x6 x7 y0 y1 y2 y3 y4 y5 y6 y7
        go_loopw [8, 13] (fun tv iv wz => ∃ (d : Nat) (Lk : List St) (qk : Nat) (vk : Value), d ≤ M ∧ iv = .int .i64 (d : Nat) ∧ tv = .int .i64 (qk : Nat) ∧ Hid (RpI B w lb v (nodeCells 6 S (M : Nat) X (.slice (some ⟨b, off, none⟩) 1 bc)) (nodeCells k s m n (.slice a len c)) Lk qk wz vk) ∧ Hid (timesF f (M - d) Lk qk = F) ∧ Hid (Lk.length + (M - d) * C ≤ 1048576)) (fun _ iv _ => M - (intOf iv).toNat)
        case atStart => exact ⟨0, Li, qi, vi, Nat.zero_le _, rfl, rfl, HRi.out, (by show _ = _; rw [Nat.sub_zero]; exact HE2.out), (by show _ ≤ _; rw [Nat.sub_zero]; exact HL2.out)⟩
        case round =>
          obtain ⟨d, Lk, qk, vk, hdM, rfl, rfl, HRk, HEk, HLk⟩ := hrel
          obtain ⟨⟨x0, x1, x2, x3, x4, x5, x6, x7⟩, -⟩ := HRk.out.bn.eight
          obtain ⟨⟨y0, y1, y2, y3, y4, y5, y6, y7⟩, -⟩ := HRk.out.bp.eight
          obtain ⟨va, vc, rfl⟩ := own_slice HRk.out.ys.at_.row
          obtain ⟨c0, -⟩ := HRk.out.ys.at_.cells
          by_cases hltM : d < M
          · obtain ⟨j, hj⟩ : ∃ j, M - d = j + 1 := ⟨M - d - 1, by omega⟩
            have hj2 : M - (d + 1) = j := by omega
            rw [hj] at HEk HLk
            have hli := HRk.out.li
            obtain ⟨r1, r2, r3⟩ := HLAID.out qk Lk hli.1 hli.2.1 hli.2.2
            have hjc : (j + 1) * C = j * C + C := by rw [Nat.add_mul, Nat.one_mul]
            have hle2 : Lk.length + C ≤ 1048576 := by have := HLk.out; omega
            have hlz : Lk.length ≤ 1048576 := by omega
            have he := HEk.out
            rw [timesF] at he
            have hcall := HOK.out Lk qk _ _ HRk.out.ys.at_ (HRk.out.ys.from0 HH.out HB.out hw0) hli.1 hli.2.1 hli.2.2 hle2
            obtain ⟨Lj, hLj⟩ : ∃ Lj, (f qk Lk).1 = Lj := ⟨_, rfl⟩
            obtain ⟨qj, hqj⟩ : ∃ qj, (f qk Lk).2 = qj := ⟨_, rfl⟩
            have hfe : f qk Lk = (Lj, qj) := by rw [← hLj, ← hqj]
            rw [hfe] at he hcall r1 r2 r3
            have h9 : Lj.length = Lk.length + C := r1
            have hljz : Lj.length ≤ 1048576 := by omega
            have HLIj : Hid (LI Lj qj) := ⟨by have := hli.1; omega, r2, r3⟩
            have HLJ : Hid (Lj.length + j * C ≤ 1048576) := by show _ ≤ _; have := HLk.out; omega
            have HCALL := Lib.hid hcall
            obtain ⟨K, hK⟩ : ∃ K, Lk.length = K := ⟨_, rfl⟩
            rw [hK] at h9 hlz c0 hle2
            have HK := Lib.hid hK
            by_cases hsame : Lj.length = K
            · have hsi : ((Lj.length : Nat) : Int) = (K : Int) := by omega
              have HEQ : Hid ((Lj, qj) = F) := by
                show _ = _
                rw [← he, if_pos (by rw [hK]; exact hsame)]
              clear he hcall r1 r2 r3 hfe hLj hqj hli hjc hK h9 hsame
              go_wp2_with (go_at_call 25; refine (HCALL.out).mono ?_; rintro e w2 ⟨rfl, v2, hS2⟩; have HR2 := Lib.hid (HRk.out.go hS2 hlt HLIj.out); obtain ⟨wa, wc, rfl⟩ := own_slice hS2.at_.row; obtain ⟨d0, -⟩ := hS2.at_.cells; clear hS2)
              go_ret
              rw [← HEQ.out]
              exact ⟨rfl, _, HR2.out.ys⟩
            · have hsi : ¬ ((Lj.length : Nat) : Int) = (K : Int) := by omega
              have HEQ : Hid (timesF f j Lj qj = F) := by
                show _ = _
                rw [← he, if_neg (by rw [hK]; exact hsame)]
              clear he hcall r1 r2 r3 hfe hLj hqj hli hjc hK h9 hsame
              go_wp2_with (go_at_call 25; refine (HCALL.out).mono ?_; rintro e w2 ⟨rfl, v2, hS2⟩; have HR2 := Lib.hid (HRk.out.go hS2 hlt HLIj.out); obtain ⟨wa, wc, rfl⟩ := own_slice hS2.at_.row; obtain ⟨d0, -⟩ := hS2.at_.cells; clear hS2)
              go_roundw
              case rel => exact ⟨d + 1, Lj, qj, _, by omega, by go_num, rfl, HR2.out, (by show _ = _; rw [hj2]; exact HEQ.out), (by show _ ≤ _; rw [hj2]; exact HLJ.out)⟩
              case measure => simp [intOf]; omega
          · obtain rfl : d = M := by omega
            have HEQ : Hid ((Lk, qk) = F) := by
              have := HEk.out
              rw [Nat.sub_self, timesF] at this
              exact this
            go_wp2
            go_ret
            rw [← HEQ.out]
            exact ⟨rfl, _, HRk.out.ys⟩
end Go.Proofs.Ytboebadpohjolaa
