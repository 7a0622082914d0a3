import Derived.Test.YtckgbcgmladcfaaDoorPuL
namespace Go.Proofs.YtckgbcgmladcfaaDoor
open Go.RowKit

/-! A choice written. -/
set_option maxHeartbeats 2000000 in
set_option maxRecDepth 100000 in
theorem p_nodeChoice (wb : Nat) (w0 : World) (s : S4) (m n : Int) (p : Value) (ps : List NT) (hw0 : w0.heap.size ≤ wb) (hlies : (NT.mk 5 s m n p ps).Lies w0) (hlb : ps.length ≤ 1099511627776) (hok : ∀ t ∈ ps, NodeOK wb w0 t) : NodeOK wb w0 (.mk 5 s m n p ps) := by
  obtain ⟨⟨a, c, rfl, hrow⟩, hps⟩ := NT.Lies_mk.1 hlies
  intro l o d v w h hb hod hd hlen hdep
  have hD : dep (NT.mk 5 s m n (.slice a ps.length c) ps).pt = depL choiceK (ps.map NT.pt) := by rw [NT.pt_mk, dep]; simp
  have hP : prt (NT.mk 5 s m n (.slice a ps.length c) ps).pt = prtL choiceK [124] true (ps.map NT.pt) := by rw [NT.pt_mk, prt]; simp
  rw [hD] at hdep ⊢
  rw [hP] at hlen ⊢
  have HH := Lib.hid h
  have hlt := h.lt
  show Calls Tryd.prog 13 #[.pointer (some ⟨wb, 0, none⟩), nodeVal 5 s m n (.slice a ps.length c)] w _
  obtain ⟨len, hln⟩ : ∃ len, ps.length = len := ⟨_, rfl⟩
  rw [hln] at hlb ⊢
  have HS := Lib.hid ((WS.refl h).alloc (.cells #[.int .i64 5, .int .u64 (s.a : Nat), .int .u64 (s.b : Nat), .int .u64 (s.c : Nat), .int .u64 (s.d : Nat), .int .i64 m, .int .i64 n, .slice a len c] 27))
  have HROW := Lib.hid hrow
  have HPS := Lib.hid hps
  have HOKS := Lib.hid hok
  have HLN := Lib.hid hln
  have HB := Lib.hid hb
  have HLEN := Lib.hid hlen
  have HDEP := Lib.hid hdep
  clear h hD hP hrow hps hlies hln hok hb hlen hdep
  go_enter Tryd.func13, Tryd.ntmps13
  go_wp2
  go_loopw [45] (fun iv wr => ∃ (i di : Nat) (vi : Value), i ≤ len ∧ iv = .int .i64 (i : Nat) ∧ o ≤ di ∧ di ≤ 1099511627776 ∧ Hid (di = max d (o + depL choiceK ((ps.map NT.pt).take i))) ∧ Hid (WS w wr wb v (l ++ prtL choiceK [124] true ((ps.map NT.pt).take i)) o di vi)) (fun iv _ => len - (intOf iv).toNat)
  case atStart => exact ⟨0, d, v, Nat.zero_le _, rfl, hod, hd, (by show d = _; rw [List.take_zero, depL]; omega), by rw [List.take_zero, prtL, List.append_nil]; exact HS.out⟩
  case round =>
    obtain ⟨i, di, vi, hi, rfl, hodi, hdi, HDI, HWi⟩ := hrel
    by_cases hlti : i < len
    · have hip : i < ps.length := by rw [HLN.out]; exact hlti
      obtain ⟨b, off, tk, tS, tm, tn, ta, tl, tc, tps, rfl, ht, htm, hra⟩ := lies_elem HROW.out HPS.out hip
      have HBr := Lib.hid (HWi.out.from0 HH.out HB.out hw0)
      have HRA := Lib.hid (rangeAt_below hra HBr.out)
      have hpt := prtL_take choiceK [124] hip
      have hdt := depL_take choiceK hip
      have hpl := prtL_take_le choiceK [124] (ps.map NT.pt) (i + 1)
      have hdl := depL_take_le choiceK (ps.map NT.pt) (i + 1)
      rw [ht, show (NT.mk tk tS tm tn (.slice ta tl tc) tps).pt.kind = tk by rw [NT.pt_mk]; rfl] at hpt hdt
      obtain ⟨P, hP⟩ : ∃ P, prt (NT.mk tk tS tm tn (.slice ta tl tc) tps).pt = P := ⟨_, rfl⟩
      obtain ⟨D, hD⟩ : ∃ D, dep (NT.mk tk tS tm tn (.slice ta tl tc) tps).pt = D := ⟨_, rfl⟩
      rw [hP] at hpt
      rw [hD] at hdt
      obtain ⟨gg, hgg⟩ : ∃ gg, choiceK tk = gg := ⟨_, rfl⟩
      rw [hgg] at hpt hdt
      obtain ⟨M, hM⟩ : ∃ M, l ++ prtL choiceK [124] true ((ps.map NT.pt).take i) = M := ⟨_, rfl⟩
      rw [hM] at HWi
      have hlen1 := HLEN.out
      have hdep1 := HDEP.out
      have hpart := fun W v9 M9 d9 => p_part wb w0 tk tS tm tn ta tl tc tps (HOKS.out _ htm) hw0 gg P hP D hD M9 o d9 v9 W
      have HPART := Lib.hid hpart
      have HPT : Hid (l ++ prtL choiceK [124] true ((ps.map NT.pt).take (i + 1)) = M ++ ((if i = 0 then [] else [124]) ++ grpT gg P)) := (by show _ = _; rw [hpt, ← List.append_assoc, hM])
      have hlf : (M ++ ((if i = 0 then [] else [124]) ++ grpT gg P)).length ≤ 549755810000 := by rw [← HPT.out, List.length_append]; omega
      have hdf : o + (D + if gg then 1 else 0) ≤ 1099511627776 := by omega
      have HDN : Hid (max di (o + (D + if gg then 1 else 0)) = max d (o + depL choiceK ((ps.map NT.pt).take (i + 1)))) := (by show _ = _; rw [hdt, HDI.out]; omega)
      have HC9 : Hid (CB (wr.alloc (.cells #[.int .i64 tk, .int .u64 (tS.a : Nat), .int .u64 (tS.b : Nat), .int .u64 (tS.c : Nat), .int .u64 (tS.d : Nat), .int .i64 tm, .int .i64 tn, .slice ta tl tc] 27)) 27 wr.heap.size (nodeCells tk tS tm tn (.slice ta tl tc))) := CB.new wr _ _
      clear hra ht hpt hdt hpl hdl hP hD hM hlen1 hdep1 hpart
      have hgg2 : (tk == 5) = gg := hgg
      have hwl := HWi.out.at_.lt
      have hne1 : wr.heap.size ≠ wb := by omega
      have hne2 : vi.ownBlock ≠ some wr.heap.size := fun e => absurd (World.ownsRow.lt HWi.out.at_.row _ e).2 (by omega)
      clear hgg
      by_cases hi0 : i = 0
      · have HTXT : Hid (M ++ ((if i = 0 then [] else [124]) ++ grpT gg P) = M ++ grpT gg P) := (by show _ = _; rw [if_pos hi0]; rfl)
        have HLF : Hid (M.length + (grpT gg P).length ≤ 549755810000) := (by show _ ≤ _; rw [HTXT.out, List.length_append] at hlf; exact hlf)
        have d0 : ¬ (0 : Int) < (i : Int) := by omega
        clear hlf hi0
        go_wp2_with (first | (refine wpl_loadN (.tmp 48) rfl rfl (g := b) (off := off + i * 8) (k := tk) (s := tS) (m := tm) (n := tn) (p := .slice ta tl tc) ?_ ?_ ?_; rfl; exact HRA.out) | (go_at_call 20; refine (HPART.out _ _ M di (HWi.out.alloc _).at_ ((HWi.out.alloc _).from0 HH.out HB.out hw0) hodi hdi HLF.out hdf).mono ?_; rintro e w5 ⟨rfl, v5, hS5⟩; have HS5 := Lib.hid ((HWi.out.alloc _).trans hS5); clear hS5))
        go_roundw
        case rel => exact ⟨i + 1, _, v5, by omega, by go_num, by omega, by omega, HDN.out, by rw [HPT.out, HTXT.out]; exact HS5.out⟩
        case measure => simp [intOf]; omega
      · obtain ⟨M2, hM2⟩ : ∃ M2, M ++ bsN ⟨#[124]⟩ = M2 := ⟨_, rfl⟩
        have HTXT : Hid (M ++ ((if i = 0 then [] else [124]) ++ grpT gg P) = M2 ++ grpT gg P) := (by show _ = _; rw [if_neg hi0, ← hM2, ← List.append_assoc]; rfl)
        have HLF : Hid (M2.length + (grpT gg P).length ≤ 549755810000) := (by show _ ≤ _; rw [HTXT.out, List.length_append] at hlf; exact hlf)
        have HM2 := Lib.hid hM2
        have HM2l : Hid (M2.length ≤ 549755813888) := (by show _ ≤ _; have := HLF.out; omega)
        have d0 : (0 : Int) < (i : Int) := by omega
        clear hlf hM2 hi0
        go_wp2_with (first | (refine wpl_loadN (.tmp 48) rfl rfl (g := b) (off := off + i * 8) (k := tk) (s := tS) (m := tm) (n := tn) (p := .slice ta tl tc) ?_ ?_ ?_; rfl; exact HRA.out) | (go_at_call 19; refine (p_put wb _ M M2 o di vi _ (HWi.out.alloc _).at_ HM2.out HM2l.out).mono ?_; rintro e w3 ⟨rfl, v3, hS3⟩; obtain ⟨⟨y0, y1, y2, y3, y4, y5, y6, y7⟩, _⟩ := (hS3.box HC9.out hne1 hne2).eight; have HS3 := Lib.hid ((HWi.out.alloc _).trans hS3); clear hS3) | (go_at_call 20; refine (HPART.out _ _ M2 di HS3.out.at_ (HS3.out.from0 HH.out HB.out hw0) hodi hdi HLF.out hdf).mono ?_; rintro e w5 ⟨rfl, v5, hS5⟩; have HS5 := Lib.hid (HS3.out.trans hS5); clear hS5))
        go_roundw
        case rel => exact ⟨i + 1, _, v5, by omega, by go_num, by omega, by omega, HDN.out, by rw [HPT.out, HTXT.out]; exact HS5.out⟩
        case measure => simp [intOf]; omega
    · obtain rfl : i = len := by omega
      have h1 : (ps.map NT.pt).take i = ps.map NT.pt := List.take_of_length_le (by rw [List.length_map, HLN.out]; exact Nat.le_refl _)
      have HF : Hid (WS w wr wb v (l ++ prtL choiceK [124] true (ps.map NT.pt)) o di vi) := by have := HWi.out; rw [h1] at this; exact this
      have HDF : Hid (di = max d (o + depL choiceK (ps.map NT.pt))) := by have := HDI.out; rw [h1] at this; exact this
      clear h1
      go_wp2
      exact bodyPost_end (results_none rfl _ _ _) rfl ⟨rfl, vi, by rw [← HDF.out]; exact HF.out⟩
end Go.Proofs.YtckgbcgmladcfaaDoor
