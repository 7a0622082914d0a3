import Derived.Test.YtckgbcgmladcfaaDoorPuM
namespace Go.Proofs.YtckgbcgmladcfaaDoor
open Go.RowKit

/-! A repetition written; any tree. -/
theorem dec3_8 (n : Nat) (h : n < 256) : B8 (dec3 n) := fun x hx => by
  unfold dec3 at hx
  split at hx
  · simp at hx; omega
  · split at hx
    · simp at hx; omega
    · simp at hx; omega
theorem signT_8 {m n : Int} (hm : m < 256) (hn : n < 256) : B8 (signT m n) := by
  have h1 := dec3_8 m.toNat (by omega)
  have h2 := dec3_8 n.toNat (by omega)
  have e : ∀ c : Nat, c < 256 → B8 [c] := fun c hc x hx => by simp at hx; omega
  have e0 : B8 [] := fun x hx => by cases hx
  unfold signT
  split
  · exact e 42 (by decide)
  · split
    · exact e 43 (by decide)
    · split
      · exact e 63 (by decide)
      · refine B8.append (xs := [123]) (e 123 (by decide)) (B8.append h1 (B8.append ?_ (B8.append ?_ (e 125 (by decide)))))
        · split
          · exact e 44 (by decide)
          · exact e0
        · split
          · exact h2
          · exact e0
theorem range8 {w : World} {g off : Nat} {a b c d e f x y : Value} (h : w.rangeAt g off [a, b, c, d, e, f, x, y]) :
    w.cell? ⟨g, off, none⟩ = some a ∧ w.cell? ⟨g, off + 1, none⟩ = some b ∧ w.cell? ⟨g, off + 2, none⟩ = some c ∧ w.cell? ⟨g, off + 3, none⟩ = some d ∧ w.cell? ⟨g, off + 4, none⟩ = some e ∧ w.cell? ⟨g, off + 5, none⟩ = some f ∧ w.cell? ⟨g, off + 6, none⟩ = some x ∧ w.cell? ⟨g, off + 7, none⟩ = some y :=
  ⟨h 0 a rfl, h 1 b rfl, h 2 c rfl, h 3 d rfl, h 4 e rfl, h 5 f rfl, h 6 x rfl, h 7 y rfl⟩
set_option maxHeartbeats 2000000 in
set_option maxRecDepth 100000 in
theorem p_nodeRep (wb : Nat) (w0 : World) (s : S4) (m n : Int) (p : Value) (t : NT) (hw0 : w0.heap.size ≤ wb) (hT : Tb w0) (hlies : (NT.mk 6 s m n p [t]).Lies w0) (hi : itv m n = true) (hok : NodeOK wb w0 t) : NodeOK wb w0 (.mk 6 s m n p [t]) := by
  obtain ⟨⟨a, c, rfl, hrow⟩, hps⟩ := NT.Lies_mk.1 hlies
  intro l o d v w h hb hod hd hlen hdep
  obtain ⟨b, off, tk, tS, tm, tn, ta, tl, tc, tps, rfl, ht, htm, hra⟩ := lies_elem (i := 0) hrow hps (by simp)
  have ht2 : t = .mk tk tS tm tn (.slice ta tl tc) tps := ht
  subst ht2
  rw [Nat.zero_mul, Nat.add_zero] at hra
  obtain ⟨P, hP⟩ : ∃ P, prt (NT.mk tk tS tm tn (.slice ta tl tc) tps).pt = P := ⟨_, rfl⟩
  obtain ⟨D, hD⟩ : ∃ D, dep (NT.mk tk tS tm tn (.slice ta tl tc) tps).pt = D := ⟨_, rfl⟩
  have hkd : (NT.mk tk tS tm tn (.slice ta tl tc) tps).pt.kind = tk := by rw [NT.pt_mk]; rfl
  have hD1 : dep (NT.mk 6 s m n (.slice (some ⟨b, off, none⟩) [NT.mk tk tS tm tn (.slice ta tl tc) tps].length c) [NT.mk tk tS tm tn (.slice ta tl tc) tps]).pt = D + if (!pieceK tk) then 1 else 0 := by
    rw [NT.pt_mk, dep]
    simp only [List.map_cons, List.map_nil, depL, hD, hkd]
    simp
  have hP1 : prt (NT.mk 6 s m n (.slice (some ⟨b, off, none⟩) [NT.mk tk tS tm tn (.slice ta tl tc) tps].length c) [NT.mk tk tS tm tn (.slice ta tl tc) tps]).pt = grpT (!pieceK tk) P ++ signT m n := by
    rw [NT.pt_mk, prt]
    simp only [List.map_cons, List.map_nil, prtL, hP, hkd]
    simp
  rw [hD1] at hdep ⊢
  rw [hP1] at hlen ⊢
  have hpart := fun W v9 M9 d9 => p_part wb w0 tk tS tm tn ta tl tc tps hok hw0 (!pieceK tk) P hP D hD M9 o d9 v9 W
  show Calls Tryd.prog 13 #[.pointer (some ⟨wb, 0, none⟩), nodeVal 6 s m n (.slice (some ⟨b, off, none⟩) 1 c)] w _
  obtain ⟨gg, hgg⟩ : ∃ gg, (!pieceK tk) = gg := ⟨_, rfl⟩
  rw [hgg] at hdep hlen hpart ⊢
  have HPART := Lib.hid hpart
  have HH := Lib.hid h
  have hlt := h.lt
  have HB := Lib.hid hb
  have HS := Lib.hid ((WS.refl h).alloc (.cells #[.int .i64 6, .int .u64 (s.a : Nat), .int .u64 (s.b : Nat), .int .u64 (s.c : Nat), .int .u64 (s.d : Nat), .int .i64 m, .int .i64 n, .slice (some ⟨b, off, none⟩) 1 c] 27))
  have HC : Hid (CB (w.alloc (.cells #[.int .i64 6, .int .u64 (s.a : Nat), .int .u64 (s.b : Nat), .int .u64 (s.c : Nat), .int .u64 (s.d : Nat), .int .i64 m, .int .i64 n, .slice (some ⟨b, off, none⟩) 1 c] 27)) 27 w.heap.size (nodeCells 6 s m n (.slice (some ⟨b, off, none⟩) 1 c))) := CB.new w _ _
  have hBa : Below w0.heap.size w0 (w.alloc (.cells #[.int .i64 6, .int .u64 (s.a : Nat), .int .u64 (s.b : Nat), .int .u64 (s.c : Nat), .int .u64 (s.d : Nat), .int .i64 m, .int .i64 n, .slice (some ⟨b, off, none⟩) 1 c] 27)) := HS.out.from0 h hb hw0
  have HRB := Lib.hid (rangeAt_below hra hBa)
  obtain ⟨x0, x1, x2, x3, x4, x5, x6, x7⟩ := range8 (rangeAt_below hra hBa)
  have HT0 := Lib.hid hT
  have hne1 : w.heap.size ≠ wb := by omega
  have hne2 : v.ownBlock ≠ some w.heap.size := fun e => absurd (World.ownsRow.lt h.row _ e).2 (by omega)
  unfold itv at hi
  simp only [Bool.and_eq_true, Bool.or_eq_true, decide_eq_true_eq, beq_iff_eq] at hi
  obtain ⟨⟨hm0, hm1⟩, hn1⟩ := hi
  obtain ⟨M2, hM2⟩ : ∃ M2, l ++ grpT gg P ++ bsN (strN (signT m n)) = M2 := ⟨_, rfl⟩
  have HMN : Hid (0 ≤ m ∧ m ≤ 255 ∧ (n = -1 ∨ (m ≤ n ∧ n ≤ 255))) := ⟨hm0, hm1, hn1⟩
  have h8 := signT_8 (m := m) (n := n) (by omega) (by omega)
  rw [List.length_append] at hlen
  have HLF : Hid (l.length + (grpT gg P).length ≤ 549755810000) := (by show _ ≤ _; omega)
  have HM2l : Hid (M2.length ≤ 549755813888) := (by show _ ≤ _; rw [← hM2, bsN_strN h8, List.length_append, List.length_append]; omega)
  have HM2 := Lib.hid hM2
  have HFIN : Hid (M2 = l ++ (grpT gg P ++ signT m n)) := (by show _ = _; rw [← hM2, bsN_strN h8, List.append_assoc])
  have hdf : o + (D + if gg then 1 else 0) ≤ 1099511627776 := hdep
  clear hlies hrow hps hok htm hra ht hP hD hkd hD1 hP1 hpart h hb hlen hdep hM2 h8 hT hm0 hm1 hn1
  obtain ⟨E, hE⟩ : ∃ E, max d (o + (D + if gg = true then 1 else 0)) = E := ⟨_, rfl⟩
  rw [hE]
  obtain ⟨G, hG⟩ : ∃ G, l ++ (grpT gg P ++ signT m n) = G := ⟨_, rfl⟩
  rw [hG]
  have HE := Lib.hid hE
  have HG := Lib.hid hG
  clear hE hG
  go_enter Tryd.func13, Tryd.ntmps13
  go_wp2
  go_region_with (first | (go_at_call 21; refine (p_isPiece tk tS tm tn ta tl tc _).mono ?_; rintro e w3 ⟨rfl, hb3⟩; have hb4 : Below (w.alloc (.cells #[.int .i64 6, .int .u64 (s.a : Nat), .int .u64 (s.b : Nat), .int .u64 (s.c : Nat), .int .u64 (s.d : Nat), .int .i64 m, .int .i64 n, .slice (some ⟨b, off, none⟩) 1 c] 27)).heap.size (w.alloc (.cells #[.int .i64 6, .int .u64 (s.a : Nat), .int .u64 (s.b : Nat), .int .u64 (s.c : Nat), .int .u64 (s.d : Nat), .int .i64 m, .int .i64 n, .slice (some ⟨b, off, none⟩) 1 c] 27)) w3 := (by first | exact hb3 | exact below_drw hb3); obtain ⟨⟨y0, y1, y2, y3, y4, y5, y6, y7⟩, _⟩ := (CB.below HC.out hb4).eight; obtain ⟨x0, x1, x2, x3, x4, x5, x6, x7⟩ := range8 (rangeAt_below HRB.out hb4); have HS3 := Lib.hid (HS.out.below hb4); have HC3 := Lib.hid (CB.below HC.out hb4)) | (go_at_call 20; refine (HPART.out _ v l d HS3.out.at_ (HS3.out.from0 HH.out HB.out hw0) hod hd HLF.out hdf).mono ?_; rintro e w5 ⟨rfl, v5, hS5⟩; have hT5 := HS3.out.trans hS5; obtain ⟨⟨z0, z1, z2, z3, z4, z5, z6, z7⟩, _⟩ := (hS5.box HC3.out hne1 hne2).eight; have HS5 := Lib.hid hT5; have HT5 := Lib.hid (HT0.out.below (hT5.from0 HH.out HB.out hw0)); clear hS5 hT5))
  all_goals
    go_wp2_with (first | (go_at_call 22; refine (p_sign m n _ HT5.out HMN.out.1 HMN.out.2.1 HMN.out.2.2).mono ?_; rintro e w6 ⟨rfl, hb6⟩; have HS6 := Lib.hid (HS5.out.below hb6)) | (go_at_call 19; refine (p_put wb _ _ M2 o _ v5 _ HS6.out.at_ HM2.out HM2l.out).mono ?_; rintro e w7 ⟨rfl, v7, hS7⟩; have HS7 := Lib.hid (HS6.out.trans hS7); clear hS7))
    refine bodyPost_end (results_none rfl _ _ _) rfl ⟨rfl, v7, ?_⟩
    have h99 := HS7.out
    rw [HFIN.out, HG.out, HE.out] at h99
    exact h99
theorem NT.pt_len {k : Int} {s : S4} {m n : Int} {p : Value} {ps : List NT} : may (NT.mk k s m n p ps).pt = (fitT k s m n ps.length && mayL (ps.map NT.pt)) := by rw [NT.pt_mk, may, List.length_map]
theorem p_node (wb : Nat) (w0 : World) (hw0 : w0.heap.size ≤ wb) (hT : Tb w0) (t : NT) : may t.pt = true → t.num → nodes t.pt ≤ 1099511627776 → t.Lies w0 → NodeOK wb w0 t := by
  induction t using NT.ind with
  | h k s m n p ps ih =>
    intro hmay hnum hnod hlies
    rw [NT.pt_len, Bool.and_eq_true] at hmay
    obtain ⟨hfit, hmays⟩ := hmay
    obtain ⟨_, _, _, hsf, hnums⟩ := NT.num_mk.1 hnum
    obtain ⟨hl1, hnp⟩ := nodes_part (k := k) (s := s) (m := m) (n := n) (p := p) (ps := ps)
    obtain ⟨⟨a, c, hp, _⟩, hps⟩ := NT.Lies_mk.1 hlies
    have hoks : ∀ t ∈ ps, NodeOK wb w0 t := fun t ht => ih t ht (mayL_mem hmays _ (List.mem_map_of_mem ht)) (hnums t ht) (Nat.le_trans (hnp t ht) hnod) (hps t ht)
    unfold fitT at hfit
    simp only [Bool.and_eq_true] at hfit
    obtain ⟨_, _, hf⟩ := hfit
    split at hf
    · rename_i hk
      have h0 : ps = [] := List.eq_nil_of_length_eq_zero (by simpa using hf)
      subst h0
      exact p_nodeLeaf wb w0 k s m n p hk hsf ⟨a, _, c, hp⟩
    · split at hf
      · rename_i hk
        rcases hk with rfl | rfl
        · exact p_nodeRow wb w0 s m n p ps hw0 hlies (by omega) hoks
        · exact p_nodeChoice wb w0 s m n p ps hw0 hlies (by omega) hoks
      · split at hf
        · rename_i hk
          subst hk
          simp only [Bool.and_eq_true, beq_iff_eq] at hf
          obtain ⟨t, rfl⟩ := List.length_eq_one_iff.1 hf.1
          exact p_nodeRep wb w0 s m n p t hw0 hT hlies hf.2 (hoks t (by simp))
        · cases hf
end Go.Proofs.YtckgbcgmladcfaaDoor
