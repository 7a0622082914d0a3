import Derived.Test.YtckgbcgmladcfaaDoorPuJ
namespace Go.Proofs.YtckgbcgmladcfaaDoor
open Go.RowKit

/-! A part of a tree written, in parentheses where it must be. -/
theorem WC.setO {w : World} {wb : Nat} {l : List Nat} {o d : Nat} {v : Value} (h : WC w wb l o d v) (j : Nat) {u : Value} (hu : u = .int .i64 (j : Nat)) : WS w (w.setCell ⟨wb, 1, none⟩ u) wb v l j d v := by
  subst hu
  exact ⟨⟨h.b8, CB.set h.box 1 _, (Chg.setCell (S := fun k => k = wb) (Chg.refl _ w) (p := ⟨wb, 1, none⟩) rfl _).owns h.row fun k hk => by have := World.ownsRow.lt h.row k hk; omega⟩, Chg.setCell (Chg.refl _ w) (p := ⟨wb, 1, none⟩) (.inl rfl) _, fun k hk => .inl hk⟩
theorem WC.setD {w : World} {wb : Nat} {l : List Nat} {o d : Nat} {v : Value} (h : WC w wb l o d v) (j : Nat) {u : Value} (hu : u = .int .i64 (j : Nat)) : WS w (w.setCell ⟨wb, 2, none⟩ u) wb v l o j v := by
  subst hu
  exact ⟨⟨h.b8, CB.set h.box 2 _, (Chg.setCell (S := fun k => k = wb) (Chg.refl _ w) (p := ⟨wb, 2, none⟩) rfl _).owns h.row fun k hk => by have := World.ownsRow.lt h.row k hk; omega⟩, Chg.setCell (Chg.refl _ w) (p := ⟨wb, 2, none⟩) (.inl rfl) _, fun k hk => .inl hk⟩
theorem WC.drewN {w : World} {wb : Nat} {l : List Nat} {o d : Nat} {v : Value} (h : WC w wb l o d v) (n : Nat) : WC (w.drewN n) wb l o d v := ⟨h.b8, CB.drewN h.box n, h.row⟩
/-- The writer writes this tree. -/
def NodeOK (wb : Nat) (w0 : World) (t : NT) : Prop :=
  ∀ (l : List Nat) (o d : Nat) (v : Value) (w : World), WC w wb l o d v → Below w0.heap.size w0 w → o ≤ d → d ≤ 1099511627776 → l.length + (prt t.pt).length ≤ 549755810000 → o + dep t.pt ≤ 1099511627776 →
    Calls Tryd.prog 13 #[.pointer (some ⟨wb, 0, none⟩), t.val] w fun e w' => Wrote wb v (l ++ prt t.pt) o (max d (o + dep t.pt)) w e w'
theorem WS.from0 {a b w0 : World} {wb : Nat} {v0 v1 : Value} {l k : List Nat} {o d o' d' : Nat} (h : WS a b wb v0 l o d v1) (h0 : WC a wb k o' d' v0) (hb : Below w0.heap.size w0 a) (hw : w0.heap.size ≤ wb) : Below w0.heap.size w0 b :=
  hb.trans ((h.low h0 hw).mono (Nat.le_refl _))
set_option maxHeartbeats 1500000 in
set_option maxRecDepth 100000 in
theorem p_part (wb : Nat) (w0 : World) (k : Int) (s : S4) (m n : Int) (a : Option Addr) (len c : Nat) (ps : List NT) (hok : NodeOK wb w0 (.mk k s m n (.slice a len c) ps)) (hw0 : w0.heap.size ≤ wb) (g : Bool)
    (P : List Nat) (hP : prt (NT.mk k s m n (.slice a len c) ps).pt = P) (D : Nat) (hD : dep (NT.mk k s m n (.slice a len c) ps).pt = D)
    (l : List Nat) (o d : Nat) (v : Value) (w : World) (h : WC w wb l o d v) (hb : Below w0.heap.size w0 w) (hod : o ≤ d) (hd : d ≤ 1099511627776) (hlen : l.length + (grpT g P).length ≤ 549755810000) (hdep : o + (D + if g then 1 else 0) ≤ 1099511627776) :
    Calls Tryd.prog 20 #[.pointer (some ⟨wb, 0, none⟩), nodeVal k s m n (.slice a len c), .bool g] w fun e w' => Wrote wb v (l ++ grpT g P) o (max d (o + (D + if g then 1 else 0))) w e w' := by
  have HH := Lib.hid h
  have hlt := h.lt
  have HB0 : Hid (Below w0.heap.size w0 (w.alloc (.cells #[.int .i64 k, .int .u64 (s.a : Nat), .int .u64 (s.b : Nat), .int .u64 (s.c : Nat), .int .u64 (s.d : Nat), .int .i64 m, .int .i64 n, .slice a len c] 27))) := hb.alloc (by omega) _
  have HC : Hid (CB (w.alloc (.cells #[.int .i64 k, .int .u64 (s.a : Nat), .int .u64 (s.b : Nat), .int .u64 (s.c : Nat), .int .u64 (s.d : Nat), .int .i64 m, .int .i64 n, .slice a len c] 27)) 27 w.heap.size (nodeCells k s m n (.slice a len c))) := CB.new w _ _
  have hne1 : w.heap.size ≠ wb := by omega
  have hne2 : v.ownBlock ≠ some w.heap.size := fun e => absurd (World.ownsRow.lt h.row _ e).2 (by omega)
  unfold NodeOK at hok
  rw [hP, hD] at hok
  have HOK : Hid (∀ (l : List Nat) (o d : Nat) (v : Value) (w : World), WC w wb l o d v → Below w0.heap.size w0 w → o ≤ d → d ≤ 1099511627776 → l.length + P.length ≤ 549755810000 → o + D ≤ 1099511627776 →
    Calls Tryd.prog 13 #[.pointer (some ⟨wb, 0, none⟩), nodeVal k s m n (.slice a len c)] w fun e w' => Wrote wb v (l ++ P) o (max d (o + D)) w e w') := hok
  clear hok hP hD h
  cases g
  · have hl2 : l.length + P.length ≤ 549755810000 := hlen
    have hd2 : o + D ≤ 1099511627776 := hdep
    show Calls _ _ _ w fun e w' => Wrote wb v (l ++ P) o (max d (o + D)) w e w'
    clear hlen hdep
    go_enter Tryd.func20, Tryd.ntmps20
    go_wp2_with (go_at_call 13; refine (HOK.out l o d v _ (HH.out.alloc _) HB0.out hod hd hl2 hd2).mono ?_; rintro e w2 ⟨rfl, v2, hS2⟩; have HS2 := Lib.hid (((WS.refl HH.out).alloc _).trans hS2); clear hS2)
    exact bodyPost_ret (results_none rfl _ _ _) rfl ⟨rfl, _, HS2.out⟩
  · obtain ⟨L, hL⟩ : ∃ L, l ++ bsN ⟨#[40]⟩ = L := ⟨_, rfl⟩
    have hLl : L.length = l.length + 1 := by rw [← hL, List.length_append, bsN_len]; rfl
    have hgl : (grpT true P).length = P.length + 2 := by unfold grpT; simp
    obtain ⟨F, hF⟩ : ∃ F, (L ++ P) ++ bsN ⟨#[41]⟩ = F := ⟨_, rfl⟩
    have hlF : l ++ grpT true P = F := by rw [← hF, ← hL]; unfold grpT; simp [bsN]
    have hFl : F.length = l.length + (P.length + 2) := by rw [← hlF, List.length_append, hgl]
    have hd3 : o + (D + 1) ≤ 1099511627776 := hdep
    show Calls _ _ _ w fun e w' => Wrote wb v (l ++ grpT true P) o (max d (o + (D + 1))) w e w'
    rw [hlF]
    rw [hgl] at hlen
    have HL := Lib.hid hL
    have HF := Lib.hid hF
    have HL1 : Hid (L.length ≤ 549755813888) := (by show _ ≤ _; omega)
    have HL2 : Hid (L.length + P.length ≤ 549755810000) := (by show _ ≤ _; omega)
    have HL3 : Hid (F.length ≤ 549755813888) := (by show _ ≤ _; omega)
    obtain ⟨d1, hd1⟩ : ∃ d1, max d (o + 1) = d1 := ⟨_, rfl⟩
    have e1 : max (d : Int) ((o : Int) + 1) = (d1 : Int) := by rw [← hd1]; omega
    have hd1b : d1 ≤ 1099511627776 := by omega
    have ho1 : o + 1 ≤ d1 := by omega
    have ho1D : o + 1 + D ≤ 1099511627776 := by omega
    have hmx : max d1 (o + 1 + D) = max d (o + (D + 1)) := by omega
    have HMX := Lib.hid hmx
    obtain ⟨⟨c0, c1, c2⟩, f0, f1, f2⟩ := (HH.out.alloc (.cells #[.int .i64 k, .int .u64 (s.a : Nat), .int .u64 (s.b : Nat), .int .u64 (s.c : Nat), .int .u64 (s.d : Nat), .int .i64 m, .int .i64 n, .slice a len c] 27)).cells
    clear hL hLl hgl hF hlF hFl hlen hdep hmx hd1
    go_enter Tryd.func20, Tryd.ntmps20
    have hq := (HH.out.alloc (.cells #[.int .i64 k, .int .u64 (s.a : Nat), .int .u64 (s.b : Nat), .int .u64 (s.c : Nat), .int .u64 (s.d : Nat), .int .i64 m, .int .i64 n, .slice a len c] 27)).setO (o + 1) (u := .int .i64 ((o : Int) + 1)) (by go_num)
    have hq2 := (hq.trans (hq.at_.setD d1 (u := .int .i64 ((d1 : Nat) : Int)) rfl)).below ((Below.refl _ _).drew)
    have HC2 := Lib.hid (hq2.box HC.out hne1 hne2)
    have HP := Lib.hid (((WS.refl HH.out).alloc (.cells #[.int .i64 k, .int .u64 (s.a : Nat), .int .u64 (s.b : Nat), .int .u64 (s.c : Nat), .int .u64 (s.d : Nat), .int .i64 m, .int .i64 n, .slice a len c] 27)).trans hq2)
    clear hq hq2
    go_wp2
    go_region
    all_goals
      go_wp2_with (first | (go_at_call 19; refine (p_put wb _ (L ++ P) F (o + 1) _ v4 _ HS4.out.at_ HF.out HL3.out).mono ?_; rintro e w5 ⟨rfl, v5, hS5⟩; obtain ⟨⟨z0, z1, z2⟩, fz0, fz1, fz2⟩ := hS5.at_.cells; have HS5 := Lib.hid (HS4.out.trans hS5); clear hS5) | (go_at_call 19; refine (p_put wb _ l L (o + 1) d1 v _ HP.out.at_ HL.out HL1.out).mono ?_; rintro e w3 ⟨rfl, v3, hS3⟩; obtain ⟨⟨y0, y1, y2, y3, y4, y5, y6, y7⟩, _⟩ := (hS3.box HC2.out hne1 hne2).eight; have HS3 := Lib.hid (HP.out.trans hS3); clear hS3) | (go_at_call 13; refine (HOK.out L (o + 1) d1 v3 _ HS3.out.at_ (HS3.out.from0 HH.out hb hw0) ho1 hd1b HL2.out ho1D).mono ?_; rintro e w4 ⟨rfl, v4, hS4⟩; have HS4 := Lib.hid (HS3.out.trans hS4); clear hS4))
      refine bodyPost_end (results_none rfl _ _ _) rfl ⟨rfl, v5, ?_⟩
      rw [← HMX.out]
      exact HS5.out.trans (HS5.out.at_.setO o (by go_num))
end Go.Proofs.YtckgbcgmladcfaaDoor
