import Derived.Test.YtboebadpohjolaaNfV
import Derived.Test.YtboebadpohjolaaNfH
import Derived.Test.YtboebadpohjolaaNfHe
import Derived.Test.YtboebadpohjolaaNfJ
import Derived.Test.YtboebadpohjolaaNfRe
namespace Go.Proofs.Ytboebadpohjolaa
open Go.RowKit

variable {B : Nat}

/-! Every tree is laid; Make of any tree. -/
set_option maxHeartbeats 1000000 in
set_option maxRecDepth 100000 in
theorem n_layRow (lb : Nat) (w0 : World) (s : S4) (m n : Int) (a : Option Addr) (c : Nat) (ps : List NT) (hok : ∀ t ∈ ps, LayOK B lb w0 t) (hlaid : ∀ t ∈ ps.map NT.pt, Laid (layT t) (cnt t)) (hw0 : w0.heap.size ≤ B)
    (hrow : RowAt w0 a (ps.flatMap NT.cells)) (hps : ∀ t ∈ ps, t.Lies w0) (hpl : ps.length ≤ 1099511627776) : LayOK B lb w0 (.mk 4 s m n (.slice a ps.length c) ps) := by
  intro L q v w h hb h0 hq hg hlen
  have e1 : layT (NT.mk 4 s m n (.slice a ps.length c) ps).pt q L = layRow (ps.map NT.pt) q L := by rw [NT.pt_mk, layT_eq]; rfl
  have e2 : cnt (NT.mk 4 s m n (.slice a ps.length c) ps).pt = cntL (ps.map NT.pt) := by rw [NT.pt_mk, cnt]; rfl
  rw [e1]
  rw [e2] at hlen
  have hcall := fun W hW hB => n_row lb w0 4 s m n a c ps hok hlaid hw0 hrow hps hpl L q v W hW hB ⟨h0, hq, hg⟩ hlen
  obtain ⟨R, hR⟩ : ∃ R, layRow (ps.map NT.pt) q L = R := ⟨_, rfl⟩
  obtain ⟨len, hl⟩ : ∃ len, ps.length = len := ⟨_, rfl⟩
  rw [hR] at hcall ⊢
  rw [hl] at hcall
  have HCALL := Lib.hid hcall
  show Calls Try.prog 21 #[.pointer (some ⟨lb, 0, none⟩), nodeVal 4 s m n (.slice a ps.length c), .int .i64 (q : Nat)] w _
  rw [hl]
  have HS := Lib.hid ((LS.refl h).alloc (.cells #[.int .i64 4, .int .u64 (s.a : Nat), .int .u64 (s.b : Nat), .int .u64 (s.c : Nat), .int .u64 (s.d : Nat), .int .i64 m, .int .i64 n, .slice a len c] 27))
  have HSD := Lib.hid (HS.out.below ((Below.refl _ _).drew))
  have HBD := Lib.hid (HSD.out.from0 h hb hw0)
  obtain ⟨⟨c0, c1, c2, c3, c4, c5, c6, c7⟩, f0⟩ := HS.out.at_.cells
  clear h hb hg e1 e2 hcall hR hok hlaid hrow hps hlen hl hpl
  go_enter Try.func21, Try.ntmps21
  go_wp2
  go_region_with (go_at_call 41; refine (HCALL.out _ HSD.out.at_ HBD.out).mono ?_; rintro e w2 ⟨rfl, v2, hS2⟩; have HS2 := Lib.hid (HSD.out.trans hS2); clear hS2)
  all_goals
    go_wp2
    go_ret
    exact ⟨rfl, _, HS2.out⟩
set_option maxHeartbeats 1000000 in
set_option maxRecDepth 100000 in
theorem n_layChoice (lb : Nat) (w0 : World) (s : S4) (m n : Int) (a : Option Addr) (c : Nat) (ps : List NT) (hok : ∀ t ∈ ps, LayOK B lb w0 t) (hlaid : ∀ t ∈ ps.map NT.pt, Laid (layT t) (cnt t)) (hw0 : w0.heap.size ≤ B)
    (hrow : RowAt w0 a (ps.flatMap NT.cells)) (hps : ∀ t ∈ ps, t.Lies w0) (last : Nat) (hpl : ps.length = last + 1) : LayOK B lb w0 (.mk 5 s m n (.slice a ps.length c) ps) := by
  intro L q v w h hb h0 hq hg hlen
  have e1 : layT (NT.mk 5 s m n (.slice a ps.length c) ps).pt q L = choose (layAll (ps.map NT.pt) q L) q := by rw [NT.pt_mk, layT_eq]; rfl
  have e2 : cnt (NT.mk 5 s m n (.slice a ps.length c) ps).pt = cntL (ps.map NT.pt) + last := by
    rw [NT.pt_mk, cnt]
    show cntL (ps.map NT.pt) + (ps.map NT.pt).length - 1 = _
    rw [List.length_map, hpl]
    omega
  rw [e1]
  rw [e2] at hlen
  have hcall := fun W hW hB => n_choice lb w0 5 s m n a c ps hok hlaid hw0 hrow hps last hpl (by omega) L q v W hW hB ⟨h0, hq, hg⟩ (by omega)
  obtain ⟨R, hR⟩ : ∃ R, choose (layAll (ps.map NT.pt) q L) q = R := ⟨_, rfl⟩
  obtain ⟨len, hl⟩ : ∃ len, ps.length = len := ⟨_, rfl⟩
  rw [hR] at hcall ⊢
  rw [hl] at hcall
  have HCALL := Lib.hid hcall
  show Calls Try.prog 21 #[.pointer (some ⟨lb, 0, none⟩), nodeVal 5 s m n (.slice a ps.length c), .int .i64 (q : Nat)] w _
  rw [hl]
  have HS := Lib.hid ((LS.refl h).alloc (.cells #[.int .i64 5, .int .u64 (s.a : Nat), .int .u64 (s.b : Nat), .int .u64 (s.c : Nat), .int .u64 (s.d : Nat), .int .i64 m, .int .i64 n, .slice a len c] 27))
  have HSD := Lib.hid (HS.out.below ((Below.refl _ _).drew))
  have HBD := Lib.hid (HSD.out.from0 h hb hw0)
  obtain ⟨⟨c0, c1, c2, c3, c4, c5, c6, c7⟩, f0⟩ := HS.out.at_.cells
  clear h hb hg e1 e2 hcall hR hok hlaid hrow hps hlen hl hpl
  go_enter Try.func21, Try.ntmps21
  go_wp2
  go_region_with (go_at_call 42; refine (HCALL.out _ HSD.out.at_ HBD.out).mono ?_; rintro e w2 ⟨rfl, v2, hS2⟩; have HS2 := Lib.hid (HSD.out.trans hS2); clear hS2)
  all_goals
    go_wp2
    go_ret
    exact ⟨rfl, _, HS2.out⟩
theorem n_lays (lb : Nat) (w0 : World) (hw0 : w0.heap.size ≤ B) (t : NT) : may t.pt = true → setsOk t.pt → nodes t.pt ≤ 1099511627776 → t.Lies w0 → LayOK B lb w0 t := by
  induction t using NT.ind with
  | h k s m n p ps ih =>
    intro hmay hsets hnod hlies
    obtain ⟨⟨a, c, rfl, hrow⟩, hps⟩ := NT.Lies_mk.1 hlies
    obtain ⟨hl1, hnp⟩ := nodes_part (k := k) (s := s) (m := m) (n := n) (p := .slice a ps.length c) (ps := ps)
    have hlb : ps.length ≤ 1099511627776 := by omega
    rw [NT.pt_mk] at hmay hsets
    obtain ⟨hmayL, hk⟩ := may_kinds hmay
    rw [List.length_map] at hk
    have hsetsL := (show s.fit ∧ setsOkL (ps.map NT.pt) from by rw [setsOk] at hsets; exact hsets).2
    have hmays : ∀ t ∈ ps, may t.pt = true := fun t ht => mayL_mem hmayL _ (List.mem_map_of_mem ht)
    have hsetss : ∀ t ∈ ps, setsOk t.pt := fun t ht => setsOkL_mem hsetsL _ (List.mem_map_of_mem ht)
    have hok : ∀ t ∈ ps, LayOK B lb w0 t := fun t ht => ih t ht (hmays t ht) (hsetss t ht) (Nat.le_trans (hnp t ht) hnod) (hps t ht)
    have hlaid : ∀ t ∈ ps.map NT.pt, Laid (layT t) (cnt t) := fun t ht => lay_laid t (mayL_mem hmayL t ht) (setsOkL_mem hsetsL t ht)
    rcases hk with rfl | rfl | rfl | rfl | ⟨rfl, hl2⟩ | ⟨rfl, hl2⟩ | ⟨rfl, hl2, hitv⟩
    · exact n_layNone lb w0 s m n _ ps ⟨_, _, _, rfl⟩
    · exact p_laySet lb w0 s m n _ ps ⟨_, _, _, rfl⟩
    · exact n_layBegin lb w0 s m n _ ps ⟨_, _, _, rfl⟩
    · exact n_layEnd lb w0 s m n _ ps ⟨_, _, _, rfl⟩
    · exact n_layRow lb w0 s m n a c ps hok hlaid hw0 hrow hps hlb
    · exact n_layChoice lb w0 s m n a c ps hok hlaid hw0 hrow hps (ps.length - 1) (by omega)
    · obtain ⟨h1, h2, h3⟩ := itv_parts hitv
      obtain ⟨M, rfl⟩ : ∃ M : Nat, m = (M : Int) := ⟨m.toNat, by omega⟩
      obtain ⟨b, off, k1, s1, m1, n1, ta, tl, tc, tps, rfl, ht, htm, hra⟩ := lies_elem hrow hps (i := 0) (by omega)
      have hps1 : ps = [.mk k1 s1 m1 n1 (.slice ta tl tc) tps] := by
        match ps, hl2, ht with
        | [x], _, ht => rw [← ht]; rfl
      have hok1 := hok _ htm
      have hld1 := hlaid _ (List.mem_map_of_mem htm)
      rw [show off + 0 * 8 = off by omega] at hra
      rw [hps1]
      show LayOK B lb w0 (.mk 6 s (M : Nat) n (.slice (some ⟨b, off, none⟩) 1 c) _)
      rcases h3 with rfl | ⟨h3, h4⟩
      · exact n_layRepE lb w0 k1 s1 m1 n1 ta tl tc tps hok1 hld1 hw0 b off c hra s M (by omega)
      · obtain ⟨A, hA⟩ : ∃ A : Nat, n = ((M + A : Nat) : Int) := ⟨(n - M).toNat, by omega⟩
        rw [hA]
        exact n_layRepB lb w0 k1 s1 m1 n1 ta tl tc tps hok1 hld1 hw0 b off c hra s M (M + A) A (by omega) rfl
theorem size_parts {t : PT} (h : sizeE t = 0) : chk t = 0 ∧ cnt t + 1 ≤ 4096 := by
  unfold sizeE at h
  by_cases h1 : chk t = 0
  · rw [if_pos h1] at h
    by_cases h2 : cnt t + 1 ≤ 4096
    · exact ⟨h1, h2⟩
    · rw [if_neg h2] at h
      omega
  · rw [if_neg h1] at h
    exact absurd h h1
theorem n_num_sets (t : NT) : t.num → setsOk t.pt := by
  induction t using NT.ind with
  | h k s m n p ps ih =>
    rw [NT.num_mk, NT.pt_mk, setsOk]
    rintro ⟨_, _, _, hs, hps⟩
    refine ⟨hs, ?_⟩
    clear hs
    induction ps with
    | nil => trivial
    | cons x xs ih2 => exact ⟨ih x (by simp) (hps x (by simp)), ih2 (fun t ht => ih t (List.mem_cons_of_mem _ ht)) (fun t ht => hps t (List.mem_cons_of_mem _ ht))⟩
theorem n_Make (t : NT) (w : World) (hn : t.num) (hl : t.Lies w) (h0 : sizeE t.pt = 0) : Calls Try.prog 8 #[t.val] w fun e w' => MadeM t.pt w e w' := by
  obtain ⟨k, s, m, n, p, ps⟩ := t
  obtain ⟨⟨a, c, rfl, hrow⟩, hps⟩ := NT.Lies_mk.1 hl
  obtain ⟨h1, h2⟩ := chk_zero (size_parts h0).1
  exact n_Make_ok k s m n a _ c ps w hn hl h0 fun B lb w0 hw hl0 => n_lays lb w0 hw _ h2 (n_num_sets _ hn) (by omega) hl0
end Go.Proofs.Ytboebadpohjolaa
