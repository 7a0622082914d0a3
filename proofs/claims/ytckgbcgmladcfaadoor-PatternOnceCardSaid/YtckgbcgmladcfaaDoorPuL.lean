import Derived.Test.YtckgbcgmladcfaaDoorPuK
namespace Go.Proofs.YtckgbcgmladcfaaDoor
open Go.RowKit

/-! A tree written. -/
theorem prtL_app (g : Int → Bool) (sep : List Nat) : ∀ (A : List PT) (f : Bool) (B : List PT), prtL g sep f (A ++ B) = prtL g sep f A ++ prtL g sep (f && A.isEmpty) B
  | [], f, B => by simp [prtL]
  | t :: A, f, B => by
    rw [List.cons_append, prtL, prtL, prtL_app g sep A false B]
    simp [List.append_assoc]
theorem depL_app (g : Int → Bool) : ∀ (A B : List PT), depL g (A ++ B) = max (depL g A) (depL g B)
  | [], B => by simp [depL]
  | t :: A, B => by rw [List.cons_append, depL, depL, depL_app g A B]; omega
theorem prtL_take (g : Int → Bool) (sep : List Nat) {ps : List NT} {i : Nat} (h : i < ps.length) : prtL g sep true ((ps.map NT.pt).take (i + 1)) = prtL g sep true ((ps.map NT.pt).take i) ++ ((if i = 0 then [] else sep) ++ grpT (g (ps[i]).pt.kind) (prt (ps[i]).pt)) := by
  rw [take_mapP h, prtL_app]
  congr 1
  rw [prtL, prtL, List.append_nil]
  congr 1
  by_cases hi : i = 0
  · subst hi; simp
  · rw [if_neg hi, if_neg]
    have h9 : ps ≠ [] := fun e => by rw [e] at h; cases h
    simp [hi, h9]
theorem depL_take (g : Int → Bool) {ps : List NT} {i : Nat} (h : i < ps.length) : depL g ((ps.map NT.pt).take (i + 1)) = max (depL g ((ps.map NT.pt).take i)) (dep (ps[i]).pt + if g (ps[i]).pt.kind then 1 else 0) := by
  rw [take_mapP h, depL_app, depL, depL, Nat.max_eq_left (Nat.zero_le _)]
theorem prtL_take_le (g : Int → Bool) (sep : List Nat) (l : List PT) (i : Nat) : (prtL g sep true (l.take i)).length ≤ (prtL g sep true l).length := by
  have := prtL_app g sep (l.take i) true (l.drop i)
  rw [List.take_append_drop] at this
  rw [this, List.length_append]
  omega
theorem depL_take_le (g : Int → Bool) (l : List PT) (i : Nat) : depL g (l.take i) ≤ depL g l := by
  have := depL_app g (l.take i) (l.drop i)
  rw [List.take_append_drop] at this
  omega
def Cell8 (k : Int) (s : S4) (m n : Int) (p : Value) : Obj := .cells #[.int .i64 k, .int .u64 (s.a : Nat), .int .u64 (s.b : Nat), .int .u64 (s.c : Nat), .int .u64 (s.d : Nat), .int .i64 m, .int .i64 n, p] 27
set_option maxHeartbeats 1500000 in
set_option maxRecDepth 100000 in
theorem p_nodeLeaf (wb : Nat) (w0 : World) (k : Int) (s : S4) (m n : Int) (p : Value) (hk : k = 0 ∨ k = 1 ∨ k = 2 ∨ k = 3) (hs : s.fit) (hp : ∃ a l c, p = .slice a l c) : NodeOK wb w0 (.mk k s m n p []) := by
  obtain ⟨a, pl, c, rfl⟩ := hp
  intro l o d v w h hb hod hd hlen hdep
  have hD : dep (NT.mk k s m n (.slice a pl c) []).pt = 0 := by rw [NT.pt_mk, dep]; rcases hk with rfl | rfl | rfl | rfl <;> simp [depL]
  rw [hD] at hdep ⊢
  rw [show max d (o + 0) = d by omega]
  have HH := Lib.hid h
  have hlt := h.lt
  have HS := Lib.hid ((WS.refl h).alloc (.cells #[.int .i64 k, .int .u64 (s.a : Nat), .int .u64 (s.b : Nat), .int .u64 (s.c : Nat), .int .u64 (s.d : Nat), .int .i64 m, .int .i64 n, .slice a pl c] 27))
  show Calls Tryd.prog 13 #[.pointer (some ⟨wb, 0, none⟩), nodeVal k s m n (.slice a pl c)] w _
  rw [NT.pt_mk] at hlen ⊢
  clear h hD hdep
  rcases hk with rfl | rfl | rfl | rfl
  · rw [show prt (.mk 0 s m n ([].map NT.pt)) = [] by rw [prt]; rfl, List.append_nil]
    clear hlen
    go_enter Tryd.func13, Tryd.ntmps13
    go_wp2
    exact bodyPost_end (results_none rfl _ _ _) rfl ⟨rfl, _, HS.out⟩
  · have hP : prt (.mk 1 s m n ([].map NT.pt)) = setTxt s := by rw [prt]; rfl
    rw [hP] at hlen ⊢
    have h2 : l.length + 2818 ≤ 549755813888 := by omega
    clear hP hlen
    go_enter Tryd.func13, Tryd.ntmps13
    go_wp2_with (go_at_call 18; refine (p_set wb s l o d v _ hs HS.out.at_ h2).mono ?_; rintro e w2 ⟨rfl, v2, hS2⟩; have HS2 := Lib.hid (HS.out.trans hS2); clear hS2)
    exact bodyPost_end (results_none rfl _ _ _) rfl ⟨rfl, _, HS2.out⟩
  · have hP : prt (.mk 2 s m n ([].map NT.pt)) = bsN ⟨#[94]⟩ := by rw [prt]; rfl
    rw [hP] at hlen ⊢
    obtain ⟨L, hL⟩ : ∃ L, l ++ bsN ⟨#[94]⟩ = L := ⟨_, rfl⟩
    have hLl : L.length ≤ 549755813888 := by rw [← hL, List.length_append]; omega
    rw [hL]
    have HL := Lib.hid hL
    clear hP hlen hL
    go_enter Tryd.func13, Tryd.ntmps13
    go_wp2_with (go_at_call 19; refine (p_put wb _ l L o d v _ HS.out.at_ HL.out hLl).mono ?_; rintro e w2 ⟨rfl, v2, hS2⟩; have HS2 := Lib.hid (HS.out.trans hS2); clear hS2)
    exact bodyPost_end (results_none rfl _ _ _) rfl ⟨rfl, _, HS2.out⟩
  · have hP : prt (.mk 3 s m n ([].map NT.pt)) = bsN ⟨#[36]⟩ := by rw [prt]; rfl
    rw [hP] at hlen ⊢
    obtain ⟨L, hL⟩ : ∃ L, l ++ bsN ⟨#[36]⟩ = L := ⟨_, rfl⟩
    have hLl : L.length ≤ 549755813888 := by rw [← hL, List.length_append]; omega
    rw [hL]
    have HL := Lib.hid hL
    clear hP hlen hL
    go_enter Tryd.func13, Tryd.ntmps13
    go_wp2_with (go_at_call 19; refine (p_put wb _ l L o d v _ HS.out.at_ HL.out hLl).mono ?_; rintro e w2 ⟨rfl, v2, hS2⟩; have HS2 := Lib.hid (HS.out.trans hS2); clear hS2)
    exact bodyPost_end (results_none rfl _ _ _) rfl ⟨rfl, _, HS2.out⟩
set_option maxHeartbeats 2000000 in
set_option maxRecDepth 100000 in
theorem p_nodeRow (wb : Nat) (w0 : World) (s : S4) (m n : Int) (p : Value) (ps : List NT) (hw0 : w0.heap.size ≤ wb) (hlies : (NT.mk 4 s m n p ps).Lies w0) (hlb : ps.length ≤ 1099511627776) (hok : ∀ t ∈ ps, NodeOK wb w0 t) : NodeOK wb w0 (.mk 4 s m n p ps) := by
  obtain ⟨⟨a, c, rfl, hrow⟩, hps⟩ := NT.Lies_mk.1 hlies
  intro l o d v w h hb hod hd hlen hdep
  have hD : dep (NT.mk 4 s m n (.slice a ps.length c) ps).pt = depL (fun k => !pieceK k) (ps.map NT.pt) := by rw [NT.pt_mk, dep]; simp
  have hP : prt (NT.mk 4 s m n (.slice a ps.length c) ps).pt = prtL (fun k => !pieceK k) [] true (ps.map NT.pt) := by rw [NT.pt_mk, prt]; simp
  rw [hD] at hdep ⊢
  rw [hP] at hlen ⊢
  have HH := Lib.hid h
  have hlt := h.lt
  show Calls Tryd.prog 13 #[.pointer (some ⟨wb, 0, none⟩), nodeVal 4 s m n (.slice a ps.length c)] w _
  obtain ⟨len, hln⟩ : ∃ len, ps.length = len := ⟨_, rfl⟩
  rw [hln] at hlb ⊢
  have HS := Lib.hid ((WS.refl h).alloc (.cells #[.int .i64 4, .int .u64 (s.a : Nat), .int .u64 (s.b : Nat), .int .u64 (s.c : Nat), .int .u64 (s.d : Nat), .int .i64 m, .int .i64 n, .slice a len c] 27))
  have HROW := Lib.hid hrow
  have HPS := Lib.hid hps
  have HOKS := Lib.hid hok
  have HLN := Lib.hid hln
  have HB := Lib.hid hb
  have HLEN := Lib.hid hlen
  have HDEP := Lib.hid hdep
  clear h hD hP hrow hps hlies hln hok hb hlen hdep
  go_enter Tryd.func13, Tryd.ntmps13
  go_wp2
  go_loopw [29] (fun iv wr => ∃ (i di : Nat) (vi : Value), i ≤ len ∧ iv = .int .i64 (i : Nat) ∧ o ≤ di ∧ di ≤ 1099511627776 ∧ Hid (di = max d (o + depL (fun k => !pieceK k) ((ps.map NT.pt).take i))) ∧ Hid (WS w wr wb v (l ++ prtL (fun k => !pieceK k) [] true ((ps.map NT.pt).take i)) o di vi)) (fun iv _ => len - (intOf iv).toNat)
  case atStart => exact ⟨0, d, v, Nat.zero_le _, rfl, hod, hd, (by show d = _; rw [List.take_zero, depL]; omega), by rw [List.take_zero, prtL, List.append_nil]; exact HS.out⟩
  case round =>
    obtain ⟨i, di, vi, hi, rfl, hodi, hdi, HDI, HWi⟩ := hrel
    by_cases hlti : i < len
    · have hip : i < ps.length := by rw [HLN.out]; exact hlti
      obtain ⟨b, off, tk, tS, tm, tn, ta, tl, tc, tps, rfl, ht, htm, hra⟩ := lies_elem HROW.out HPS.out hip
      have HBr := Lib.hid (HWi.out.from0 HH.out HB.out hw0)
      have HRA := Lib.hid (rangeAt_below hra HBr.out)
      have hpt := prtL_take (fun k => !pieceK k) [] hip
      have hdt := depL_take (fun k => !pieceK k) hip
      have hpl := prtL_take_le (fun k => !pieceK k) [] (ps.map NT.pt) (i + 1)
      have hdl := depL_take_le (fun k => !pieceK k) (ps.map NT.pt) (i + 1)
      rw [ht, show (NT.mk tk tS tm tn (.slice ta tl tc) tps).pt.kind = tk by rw [NT.pt_mk]; rfl] at hpt hdt
      obtain ⟨P, hP⟩ : ∃ P, prt (NT.mk tk tS tm tn (.slice ta tl tc) tps).pt = P := ⟨_, rfl⟩
      obtain ⟨D, hD⟩ : ∃ D, dep (NT.mk tk tS tm tn (.slice ta tl tc) tps).pt = D := ⟨_, rfl⟩
      rw [hP] at hpt
      rw [hD] at hdt
      obtain ⟨gg, hgg⟩ : ∃ gg, (!pieceK tk) = gg := ⟨_, rfl⟩
      rw [hgg] at hpt hdt
      obtain ⟨M, hM⟩ : ∃ M, l ++ prtL (fun k => !pieceK k) [] true ((ps.map NT.pt).take i) = M := ⟨_, rfl⟩
      rw [hM] at HWi
      have hlen1 := HLEN.out
      have hdep1 := HDEP.out
      have hpart := fun W v9 M9 d9 => p_part wb w0 tk tS tm tn ta tl tc tps (HOKS.out _ htm) hw0 gg P hP D hD M9 o d9 v9 W
      have HPART := Lib.hid hpart
      have HPT : Hid (l ++ prtL (fun k => !pieceK k) [] true ((ps.map NT.pt).take (i + 1)) = M ++ ((if i = 0 then [] else []) ++ grpT gg P)) := (by show _ = _; rw [hpt, ← List.append_assoc, hM])
      have hlf : (M ++ ((if i = 0 then [] else []) ++ grpT gg P)).length ≤ 549755810000 := by rw [← HPT.out, List.length_append]; omega
      have hdf : o + (D + if gg then 1 else 0) ≤ 1099511627776 := by omega
      have HDN : Hid (max di (o + (D + if gg then 1 else 0)) = max d (o + depL (fun k => !pieceK k) ((ps.map NT.pt).take (i + 1)))) := (by show _ = _; rw [hdt, HDI.out]; omega)
      have HC9 : Hid (CB (wr.alloc (.cells #[.int .i64 tk, .int .u64 (tS.a : Nat), .int .u64 (tS.b : Nat), .int .u64 (tS.c : Nat), .int .u64 (tS.d : Nat), .int .i64 tm, .int .i64 tn, .slice ta tl tc] 27)) 27 wr.heap.size (nodeCells tk tS tm tn (.slice ta tl tc))) := CB.new wr _ _
      clear hra ht hpt hdt hpl hdl hP hD hM hlen1 hdep1 hpart
      have hgg2 : (!pieceK tk) = gg := hgg
      have HLF : Hid (M.length + (grpT gg P).length ≤ 549755810000) := (by show _ ≤ _; rw [List.length_append, List.length_append] at hlf; omega)
      have HTXT : Hid (M ++ ((if i = 0 then [] else []) ++ grpT gg P) = M ++ grpT gg P) := (by show _ = _; split <;> rfl)
      clear hgg hlf
      go_wp2_with (first | (refine wpl_loadN (.tmp 31) rfl rfl (g := b) (off := off + i * 8) (k := tk) (s := tS) (m := tm) (n := tn) (p := .slice ta tl tc) ?_ ?_ ?_; rfl; exact HRA.out))
      go_region_with (first | (go_at_call 21; refine (p_isPiece tk tS tm tn ta tl tc _).mono ?_; rintro e w3 ⟨rfl, hb3⟩; have hb4 : Below (wr.alloc (.cells #[.int .i64 tk, .int .u64 (tS.a : Nat), .int .u64 (tS.b : Nat), .int .u64 (tS.c : Nat), .int .u64 (tS.d : Nat), .int .i64 tm, .int .i64 tn, .slice ta tl tc] 27)).heap.size (wr.alloc (.cells #[.int .i64 tk, .int .u64 (tS.a : Nat), .int .u64 (tS.b : Nat), .int .u64 (tS.c : Nat), .int .u64 (tS.d : Nat), .int .i64 tm, .int .i64 tn, .slice ta tl tc] 27)) w3 := (by first | exact hb3 | exact below_drw hb3); obtain ⟨⟨y0, y1, y2, y3, y4, y5, y6, y7⟩, _⟩ := (CB.below HC9.out hb4).eight; have HS3 := Lib.hid ((HWi.out.alloc _).below hb4)) | (go_at_call 20; refine (HPART.out _ vi M di HS3.out.at_ (HS3.out.from0 HH.out HB.out hw0) hodi hdi HLF.out hdf).mono ?_; rintro e w5 ⟨rfl, v5, hS5⟩; have HS5 := Lib.hid (HS3.out.trans hS5)))
      all_goals
        go_wp2
        go_roundw
        case rel => exact ⟨i + 1, _, v5, by omega, by go_num, by omega, by omega, HDN.out, by rw [HPT.out, HTXT.out]; exact HS5.out⟩
        case measure => simp [intOf]; omega
    · obtain rfl : i = len := by omega
      have h1 : (ps.map NT.pt).take i = ps.map NT.pt := List.take_of_length_le (by rw [List.length_map, HLN.out]; exact Nat.le_refl _)
      have HF : Hid (WS w wr wb v (l ++ prtL (fun k => !pieceK k) [] true (ps.map NT.pt)) o di vi) := by have := HWi.out; rw [h1] at this; exact this
      have HDF : Hid (di = max d (o + depL (fun k => !pieceK k) (ps.map NT.pt))) := by have := HDI.out; rw [h1] at this; exact this
      clear h1
      go_wp2
      exact bodyPost_end (results_none rfl _ _ _) rfl ⟨rfl, vi, by rw [← HDF.out]; exact HF.out⟩
end Go.Proofs.YtckgbcgmladcfaaDoor
