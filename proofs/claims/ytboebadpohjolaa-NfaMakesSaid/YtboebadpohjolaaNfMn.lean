import Derived.Test.YtboebadpohjolaaNfN
import Derived.Test.YtboebadpohjolaaNfQ
import Derived.Test.YtboebadpohjolaaNfM2
import Derived.Test.YtboebadpohjolaaNfM3
namespace Go.Proofs.Ytboebadpohjolaa
open Go.RowKit

/-! The law NfaMakes. -/
theorem n_num_pt (t : NT) : ∀ u : NT, t.pt = u.pt → t.num → u.num := by
  induction t using NT.ind with
  | h k s m n p ps ih =>
    intro u he hn
    obtain ⟨k', s', m', n', p', qs⟩ := u
    rw [NT.pt_mk, NT.pt_mk] at he
    simp only [PT.mk.injEq] at he
    obtain ⟨rfl, rfl, rfl, rfl, hpq⟩ := he
    obtain ⟨h1, h2, h3, h4, h5⟩ := NT.num_mk.1 hn
    refine NT.num_mk.2 ⟨h1, h2, h3, h4, fun t ht => ?_⟩
    obtain ⟨i, hi, rfl⟩ := List.getElem_of_mem ht
    have hl : ps.length = qs.length := by have := congrArg List.length hpq; simpa using this
    have hi2 : i < ps.length := by omega
    have h9 : (ps.map NT.pt)[i]'(by simpa using hi2) = (qs.map NT.pt)[i]'(by simpa using hi) := by simp only [hpq]
    exact ih ps[i] (List.getElem_mem _) qs[i] (by simpa using h9) (h5 _ (List.getElem_mem _))
def mkL (t : PT) : List St := if sizeE t = 0 then (mk11 t).1 else []
def mkQ (t : PT) : Nat := if sizeE t = 0 then (mk11 t).2 else 0
/-- What Make tells of any tree. -/
def MadeX (L : List St) (q : Nat) (E : Int) (w : World) (e : Ending) (w' : World) : Prop :=
  Below w.heap.size w w' ∧ ∃ (a : Option Addr) (c : Nat), e = .returned (.tuple #[.agg #[.slice a L.length c, .int .i64 (q : Nat)], .int .i64 E]) ∧ w'.ownsRow w.heap.size 45 7 (.slice a L.length c) L.length (L.flatMap St.cells)
theorem n_MakeX (t : NT) (w : World) (hn : t.num) (hl : t.Lies w) : Calls Try.prog 8 #[t.val] w fun e w' => MadeX (mkL t.pt) (mkQ t.pt) (sizeE t.pt) w e w' := by
  unfold mkL mkQ
  by_cases h0 : sizeE t.pt = 0
  · rw [if_pos h0, if_pos h0, h0]
    exact n_Make t w hn hl h0
  · rw [if_neg h0, if_neg h0]
    obtain ⟨k, s, m, n, p, ps⟩ := t
    obtain ⟨⟨a, c, rfl, hrow⟩, hps⟩ := NT.Lies_mk.1 hl
    refine (n_Make_no k s m n a _ c ps w _ hn hl rfl h0).mono ?_
    rintro e w2 ⟨rfl, hb⟩
    exact ⟨hb, none, 0, rfl, World.ownsRow_nil _ _ _ _⟩
theorem n_rMakeX (t : NT) (w : World) (hn : t.num) (hl : t.Lies w) : Calls Try.prog 10 #[t.val] w fun e w' => MadeX (mkL t.pt) (mkQ t.pt) (sizeE t.pt) w e w' := by
  unfold mkL mkQ
  by_cases h0 : sizeE t.pt = 0
  · rw [if_pos h0, if_pos h0, h0]
    exact n_rMake t w hn hl h0
  · rw [if_neg h0, if_neg h0]
    obtain ⟨k, s, m, n, p, ps⟩ := t
    obtain ⟨⟨a, c, rfl, hrow⟩, hps⟩ := NT.Lies_mk.1 hl
    refine (n_rMake_no k s m n a _ c ps w _ hl rfl h0).mono ?_
    rintro e w2 ⟨rfl, hb⟩
    exact ⟨hb, none, 0, rfl, World.ownsRow_nil _ _ _ _⟩
theorem mkL_len (t : NT) (hn : t.num) : (mkL t.pt).length ≤ 4096 := by
  unfold mkL
  by_cases h0 : sizeE t.pt = 0
  · rw [if_pos h0]
    obtain ⟨h1, h2⟩ := size_parts h0
    rw [(mk11_laid (chk_zero h1).2 (n_num_sets _ hn)).1]
    omega
  · rw [if_neg h0]
    simp
/-- The tree and what was lent of it, in their boxes. -/
structure MkX (w : World) (cn cx : List Value) (bx : Nat) (x : NT) (W : World) : Prop where
  b : Below w.heap.size w W
  lt : w.heap.size < bx
  nb : CB W 27 w.heap.size cn
  xb : CB W 27 bx cx
  sp : x.Spare W fun g => g < bx
theorem MkX.below {w W W' : World} {cn cx : List Value} {bx : Nat} {x : NT} (h : MkX w cn cx bx x W) (hb : Below W.heap.size W W') : MkX w cn cx bx x W' :=
  ⟨h.b.trans (hb.mono h.b.size), h.lt, h.nb.below hb, h.xb.below hb, h.sp.below hb⟩
theorem MkX.chg {w W W' : World} {cn cx : List Value} {bx : Nat} {x : NT} {T : Nat → Prop} (h : MkX w cn cx bx x W) (hc : Chg T W W') (hT : ∀ k, T k → bx < k) : MkX w cn cx bx x W' :=
  ⟨h.b.trans (hc.below h.b.size fun k hk => by have := hT k hk; have := h.lt; omega), h.lt, h.nb.chg hc fun e => by have := hT _ e; have := h.lt; omega, h.xb.chg hc fun e => by have := hT _ e; omega, NT.Spare.chg hc (fun g hg e => by have := hT _ e; omega) (fun _ h => h) _ h.sp⟩
/-- A machine in its box: its row lies from lo on, ahead of the box. -/
structure MkM (lo bm : Nat) (L : List St) (N q : Nat) (a : Option Addr) (c : Nat) (W : World) : Prop where
  cb : CB W 35 bm [.slice a N c, .int .i64 (q : Nat)]
  row : W.ownsRow lo 45 7 (.slice a N c) N (L.flatMap St.cells)
  lt : ∀ k, (Value.slice a N c).ownBlock = some k → k < bm
  lo : lo ≤ bm
theorem MkM.below {lo bm : Nat} {L : List St} {N q : Nat} {a : Option Addr} {c : Nat} {W W' : World} (h : MkM lo bm L N q a c W) (hb : Below W.heap.size W W') : MkM lo bm L N q a c W' :=
  ⟨h.cb.below hb, own_below h.row hb, h.lt, h.lo⟩
theorem MkM.chg {lo bm : Nat} {L : List St} {N q : Nat} {a : Option Addr} {c : Nat} {W W' : World} {T : Nat → Prop} (h : MkM lo bm L N q a c W) (hc : Chg T W W') (hT : ∀ k, T k → k < lo) : MkM lo bm L N q a c W' :=
  ⟨h.cb.chg hc fun e => by have := hT _ e; have := h.lo; omega, hc.ownsS h.row fun k hk e => by have := hT _ e; have := (World.ownsRow.lt h.row k hk).1; omega, h.lt, h.lo⟩
theorem MkM.new {lo : Nat} {L : List St} {N q : Nat} {a : Option Addr} {c : Nat} {W : World} (h : W.ownsRow lo 45 7 (.slice a N c) N (L.flatMap St.cells)) (hlo : lo ≤ W.heap.size) : MkM lo W.heap.size L N q a c (W.alloc (.cells #[.slice a N c, .int .i64 (q : Nat)] 35)) :=
  ⟨CB.new W _ _, own_alloc h _, fun k hk => (World.ownsRow.lt h k hk).2, hlo⟩
theorem MkM.rowAt {lo bm : Nat} {L : List St} {N q : Nat} {a : Option Addr} {c : Nat} {W : World} (h : MkM lo bm L N q a c W) (hN : N = L.length) : RowAt W a (L.flatMap St.cells) := own_rowAt h.row hN
theorem MkM.base {lo bm : Nat} {L : List St} {N q : Nat} {a : Option Addr} {c : Nat} {W : World} (h : MkM lo bm L N q a c W) : lo ≤ W.heap.size := by have := CB.lt h.cb; have := h.lo; omega
theorem MkM.inN {lo bm : Nat} {L : List St} {N q : Nat} {a : Option Addr} {c : Nat} {W : World} (h : MkM lo bm L N q a c W) : ∀ k, (Value.slice a N c).ownBlock = some k → lo ≤ k ∧ k < bm := fun k hk => ⟨(World.ownsRow.lt h.row k hk).1, h.lt k hk⟩
set_option maxHeartbeats 16000000 in
set_option maxRecDepth 100000 in
theorem n_NfaMakes (k : Int) (s : S4) (m n : Int) (a : Option Addr) (c : Nat) (ps : List NT) (len : Nat) (w : World) (hn : (NT.mk k s m n (.slice a len c) ps).num) (hl : (NT.mk k s m n (.slice a len c) ps).Lies w) : Calls Try.prog 3 #[nodeVal k s m n (.slice a len c)] w fun e w' => e = .returned (.bool true) ∧ Below w.heap.size w w' := by
  obtain ⟨T, hT⟩ : ∃ T, (NT.mk k s m n (.slice a len c) ps).pt = T := ⟨_, rfl⟩
  have hmany := fun W (hW : Below w.heap.size w W) => p_many11 _ 2500 W (by omega) (hl.below hW)
  rw [hT] at hmany
  have HB0 : Hid (Below w.heap.size w (w.alloc (.cells #[.int .i64 k, .int .u64 (s.a : Nat), .int .u64 (s.b : Nat), .int .u64 (s.c : Nat), .int .u64 (s.d : Nat), .int .i64 m, .int .i64 n, .slice a len c] 27))) := (Below.refl _ _).alloc (Nat.le_refl _) _
  have HC0 : Hid (CB (w.alloc (.cells #[.int .i64 k, .int .u64 (s.a : Nat), .int .u64 (s.b : Nat), .int .u64 (s.c : Nat), .int .u64 (s.d : Nat), .int .i64 m, .int .i64 n, .slice a len c] 27)) 27 w.heap.size (nodeCells k s m n (.slice a len c))) := CB.new w _ _
  obtain ⟨X, hX⟩ : ∃ X, min (nodes T) (2500 + 1) = X := ⟨_, rfl⟩
  rw [hX] at hmany
  have HMANY : Hid (∀ W : World, Below w.heap.size w W → Calls Try.prog 5 #[nodeVal k s m n (.slice a len c), .int .i64 2500] W fun e w' => e = .returned (.int .i64 (X : Nat)) ∧ Below W.heap.size W w') := hmany
  by_cases hX1 : (2500 : Int) < (X : Int)
  · clear hmany hn hl hT hX
    go_enter Try.func3, Try.ntmps3
    go_wp2_with (go_at_call 5; refine (HMANY.out _ HB0.out).mono ?_; rintro e w1 ⟨rfl, hb1⟩; have HB1 := Lib.hid (HB0.out.trans (hb1.mono HB0.out.size)); clear hb1)
    go_ret
    exact ⟨rfl, HB1.out⟩
  · have hnod : nodes T ≤ 1099511627000 := by omega
    have hlent := fun W (hW : Below w.heap.size w W) => n_lentNode (NT.mk k s m n (.slice a len c) ps) W (by rw [hT]; exact hnod) (hl.below hW)
    have hLn := mkL_len _ hn
    obtain ⟨L, hL⟩ : ∃ L, mkL T = L := ⟨_, rfl⟩
    obtain ⟨q, hq⟩ : ∃ q, mkQ T = q := ⟨_, rfl⟩
    obtain ⟨E, hE⟩ : ∃ E, sizeE T = E := ⟨_, rfl⟩
    obtain ⟨K, hK⟩ : ∃ K, sizeN T = K := ⟨_, rfl⟩
    obtain ⟨N, hN⟩ : ∃ N, L.length = N := ⟨_, rfl⟩
    have HSIZE : Hid (∀ x : NT, x.pt = T → x.num → ∀ W : World, x.Lies W → Calls Try.prog 7 #[x.val] W fun e w' => e = .returned (.tuple #[.int .i64 (K : Nat), .int .i64 E]) ∧ Below W.heap.size W w') := fun x hx hnx W hlx => by
      have h := p_Size x W hnx hlx
      rw [hx, hK, hE] at h
      exact h
    have HMAKE : Hid (∀ x : NT, x.pt = T → x.num → ∀ W : World, x.Lies W → Calls Try.prog 8 #[x.val] W fun e w' => Below W.heap.size W w' ∧ ∃ (a : Option Addr) (c : Nat), e = .returned (.tuple #[.agg #[.slice a N c, .int .i64 (q : Nat)], .int .i64 E]) ∧ w'.ownsRow W.heap.size 45 7 (.slice a N c) N (L.flatMap St.cells)) := fun x hx hnx W hlx => by
      have h := n_MakeX x W hnx hlx
      unfold MadeX at h
      rw [hx, hL, hq, hE, hN] at h
      exact h
    have HRSIZE : Hid (∀ W : World, Below w.heap.size w W → Calls Try.prog 9 #[nodeVal k s m n (.slice a len c)] W fun e w' => e = .returned (.tuple #[.int .i64 (K : Nat), .int .i64 E]) ∧ Below W.heap.size W w') := fun W hW => by
      have h := n_rSize k s m n a len c ps W (hl.below hW)
      rw [hT, hK, hE] at h
      exact h
    have HRMAKE : Hid (∀ W : World, Below w.heap.size w W → Calls Try.prog 10 #[nodeVal k s m n (.slice a len c)] W fun e w' => Below W.heap.size W w' ∧ ∃ (a : Option Addr) (c : Nat), e = .returned (.tuple #[.agg #[.slice a N c, .int .i64 (q : Nat)], .int .i64 E]) ∧ w'.ownsRow W.heap.size 45 7 (.slice a N c) N (L.flatMap St.cells)) := fun W hW => by
      have h := n_rMakeX (NT.mk k s m n (.slice a len c) ps) W hn (hl.below hW)
      unfold MadeX at h
      rw [hT, hL, hq, hE, hN] at h
      exact h
    have HKEPT : Hid (∀ x : NT, x.pt = T → ∀ W : World, Below w.heap.size w W → ∀ {bx : Nat}, (x.Spare W fun g => g < bx) → Calls Try.prog 12 #[x.val, nodeVal k s m n (.slice a len c)] W fun e w' => e = .returned (.bool true) ∧ Below W.heap.size W w') := fun x hx W hW bx hsx => n_keptNode x (NT.mk k s m n (.slice a len c) ps) W (hx.trans hT.symm) (by rw [hx]; exact hnod) hsx (hl.below hW)
    rw [hT, hL, hN] at hLn
    have HLN : Hid (N = L.length) := hN.symm
    have HSAME : Hid (∀ (a a' : Option Addr) (c c' : Nat) (W : World), RowAt W a (L.flatMap St.cells) → RowAt W a' (L.flatMap St.cells) → Calls Try.prog 11 #[.agg #[.slice a N c, .int .i64 (q : Nat)], .agg #[.slice a' N c', .int .i64 (q : Nat)]] W fun e w' => e = .returned (.bool true) ∧ Below W.heap.size W w') := fun a a' c c' W h1 h2 => by
      have h := p_sameNfa L a a' c c' q W (by omega) h1 h2
      rw [hN] at h
      exact h
    have HSPOIL : Hid (∀ (a : Option Addr) (c B : Nat) (W : World), W.ownsRow B 45 7 (.slice a N c) N (L.flatMap St.cells) → B ≤ W.heap.size → Calls Try.prog 13 #[.agg #[.slice a N c, .int .i64 (q : Nat)]] W fun e w' => (∃ v, e = .returned v) ∧ Chg (fun k => (Value.slice a N c).ownBlock = some k) W w') := fun a c B W h1 h2 => by
      have h := n_spoil L a c q B W (by omega) (by rw [hN]; exact h1) h2
      rw [hN] at h
      exact h
    have HMN : Hid (∀ (lo : Nat) (a : Option Addr) (c : Nat) (W : World), W.ownsRow lo 45 7 (.slice a N c) N (L.flatMap St.cells) → lo ≤ W.heap.size → MkM lo W.heap.size L N q a c (W.alloc (.cells #[.slice a N c, .int .i64 (q : Nat)] 35))) := fun lo a c W h1 h2 => MkM.new h1 h2
    have HLENT : Hid (∀ W : World, Below w.heap.size w W → Calls Try.prog 6 #[nodeVal k s m n (.slice a len c)] W fun e w' => ∃ (g xc : Nat) (us : List NT), e = .returned (nodeVal k s m n (.slice (some ⟨g, 0, none⟩) us.length xc)) ∧ us.map NT.pt = ps.map NT.pt ∧ (NT.mk k s m n (.slice (some ⟨g, 0, none⟩) us.length xc) us).Spare w' (fun g => W.heap.size ≤ g ∧ g < w'.heap.size) ∧ Below W.heap.size W w') := hlent
    have HTT := Lib.hid hT
    have HNUM := Lib.hid hn
    have HK1 : Hid True := trivial
    have HK2 : Hid True := trivial
    have HK3 : Hid True := trivial
    have HK4 : Hid True := trivial
    clear hmany hn hl hT hX hlent hLn hL hq hE hK hN hnod
    go_enter Try.func3, Try.ntmps3
    go_wp2_with (first | (go_at_call 5; refine (HMANY.out _ HB0.out).mono ?_; rintro e w1 ⟨rfl, hb1⟩; have HB1 := Lib.hid (HB0.out.trans (hb1.mono HB0.out.size)); have HC1 := Lib.hid (CB.below HC0.out hb1); obtain ⟨⟨n0, n1, n2, n3, n4, n5, n6, n7⟩, -⟩ := HC1.out.eight; clear hb1) | (go_at_call 6; refine (HLENT.out _ HB1.out).mono ?_; rintro e w2 ⟨g, xc, us, rfl, hus, hsp, hb2⟩; have hal := (Below.refl w2.heap.size w2).alloc (Nat.le_refl _) (.cells #[.int .i64 k, .int .u64 (s.a : Nat), .int .u64 (s.b : Nat), .int .u64 (s.c : Nat), .int .u64 (s.d : Nat), .int .i64 m, .int .i64 n, .slice (some ⟨g, 0, none⟩) us.length xc] 27); have HUS := Lib.hid hus; have HX2 : Hid (MkX w (nodeCells k s m n (.slice a len c)) (nodeCells k s m n (.slice (some ⟨g, 0, none⟩) us.length xc)) w2.heap.size (NT.mk k s m n (.slice (some ⟨g, 0, none⟩) us.length xc) us) (w2.alloc (.cells #[.int .i64 k, .int .u64 (s.a : Nat), .int .u64 (s.b : Nat), .int .u64 (s.c : Nat), .int .u64 (s.d : Nat), .int .i64 m, .int .i64 n, .slice (some ⟨g, 0, none⟩) us.length xc] 27))) := ⟨(HB1.out.trans (hb2.mono HB1.out.size)).trans (hal.mono (HB1.out.trans (hb2.mono HB1.out.size)).size), (by have := CB.lt (CB.below HC1.out hb2); omega), (CB.below HC1.out hb2).below hal, CB.new w2 _ _, (NT.Spare.below hal _ (NT.Spare.turn (fun _ _ _ _ h => h) (fun g' hg' => hg'.2) _ hsp))⟩; have hxp : (NT.mk k s m n (.slice (some ⟨g, 0, none⟩) us.length xc) us).pt = T := (by rw [← HTT.out, NT.pt_mk, NT.pt_mk, hus]); have HXP := Lib.hid hxp; have HXN : Hid (NT.mk k s m n (.slice (some ⟨g, 0, none⟩) us.length xc) us).num := n_num_pt _ _ (by rw [HXP.out]; exact HTT.out) HNUM.out; obtain ⟨⟨n0, n1, n2, n3, n4, n5, n6, n7⟩, -⟩ := HX2.out.nb.eight; obtain ⟨⟨x0, x1, x2, x3, x4, x5, x6, x7⟩, -⟩ := HX2.out.xb.eight; clear hb2 hal hus hsp hxp) | (go_at_call 7; refine (HSIZE.out (NT.mk k s m n (.slice (some ⟨g, 0, none⟩) us.length xc) us) HXP.out HXN.out _ (HX2.out.sp.lies _)).mono ?_; rintro e w3 ⟨rfl, hb3⟩; have HX3 := Lib.hid (HX2.out.below hb3); obtain ⟨⟨n0, n1, n2, n3, n4, n5, n6, n7⟩, -⟩ := HX3.out.nb.eight; obtain ⟨⟨x0, x1, x2, x3, x4, x5, x6, x7⟩, -⟩ := HX3.out.xb.eight; clear hb3) | (go_at_call 8; clear HK1; refine (HMAKE.out (NT.mk k s m n (.slice (some ⟨g, 0, none⟩) us.length xc) us) HXP.out HXN.out _ (HX3.out.sp.lies _)).mono ?_; rintro e w4 ⟨hb4, aa, ac, rfl, hown4⟩; have hal := (Below.refl w4.heap.size w4).alloc (Nat.le_refl _) (.cells #[.slice aa N ac, .int .i64 (q : Nat)] 35); have HX4 := Lib.hid ((HX3.out.below hb4).below hal); have HA4 := Lib.hid (HMN.out _ _ _ w4 hown4 hb4.size); obtain ⟨⟨ha0, ha1⟩, -⟩ := CB.two HA4.out.cb; obtain ⟨⟨n0, n1, n2, n3, n4, n5, n6, n7⟩, -⟩ := HX4.out.nb.eight; obtain ⟨⟨x0, x1, x2, x3, x4, x5, x6, x7⟩, -⟩ := HX4.out.xb.eight; clear hb4 hown4 hal) | (go_at_call 8; refine (HMAKE.out (NT.mk k s m n (.slice (some ⟨g, 0, none⟩) us.length xc) us) HXP.out HXN.out _ (HX4.out.sp.lies _)).mono ?_; rintro e w5 ⟨hb5, ba, bc, rfl, hown5⟩; have hal := (Below.refl w5.heap.size w5).alloc (Nat.le_refl _) (.cells #[.slice ba N bc, .int .i64 (q : Nat)] 35); have HX5 := Lib.hid ((HX4.out.below hb5).below hal); have HA5 := Lib.hid ((HA4.out.below hb5).below hal); have HB5 := Lib.hid (HMN.out _ _ _ w5 hown5 hb5.size); obtain ⟨⟨ha0, ha1⟩, -⟩ := CB.two HA5.out.cb; obtain ⟨⟨hb0, hb1⟩, -⟩ := CB.two HB5.out.cb; obtain ⟨⟨n0, n1, n2, n3, n4, n5, n6, n7⟩, -⟩ := HX5.out.nb.eight; obtain ⟨⟨x0, x1, x2, x3, x4, x5, x6, x7⟩, -⟩ := HX5.out.xb.eight; clear hb5 hown5 hal) | (go_at_call 9; refine (HRSIZE.out _ HX5.out.b).mono ?_; rintro e w6 ⟨rfl, hb6⟩; have HX6 := Lib.hid (HX5.out.below hb6); have HA6 := Lib.hid (HA5.out.below hb6); have HB6 := Lib.hid (HB5.out.below hb6); obtain ⟨⟨ha0, ha1⟩, -⟩ := CB.two HA6.out.cb; obtain ⟨⟨hb0, hb1⟩, -⟩ := CB.two HB6.out.cb; obtain ⟨⟨n0, n1, n2, n3, n4, n5, n6, n7⟩, -⟩ := HX6.out.nb.eight; obtain ⟨⟨x0, x1, x2, x3, x4, x5, x6, x7⟩, -⟩ := HX6.out.xb.eight; clear hb6) | (go_at_call 10; refine (HRMAKE.out _ HX6.out.b).mono ?_; rintro e w7 ⟨hb7, ra, rc, rfl, hown7⟩; have hal := (Below.refl w7.heap.size w7).alloc (Nat.le_refl _) (.cells #[.slice ra N rc, .int .i64 (q : Nat)] 35); have HX7 := Lib.hid ((HX6.out.below hb7).below hal); have HA7 := Lib.hid ((HA6.out.below hb7).below hal); have HB7 := Lib.hid ((HB6.out.below hb7).below hal); have HR7 := Lib.hid (HMN.out _ _ _ w7 hown7 hb7.size); obtain ⟨⟨ha0, ha1⟩, -⟩ := CB.two HA7.out.cb; obtain ⟨⟨hb0, hb1⟩, -⟩ := CB.two HB7.out.cb; obtain ⟨⟨hr0, hr1⟩, -⟩ := CB.two HR7.out.cb; obtain ⟨⟨n0, n1, n2, n3, n4, n5, n6, n7⟩, -⟩ := HX7.out.nb.eight; obtain ⟨⟨x0, x1, x2, x3, x4, x5, x6, x7⟩, -⟩ := HX7.out.xb.eight; clear hb7 hown7 hal) | (go_at_call 11; clear HK2; refine (HSAME.out aa ra ac rc _ (HA7.out.rowAt HLN.out) (HR7.out.rowAt HLN.out)).mono ?_; rintro e w8 ⟨rfl, hb8⟩; have HX8 := Lib.hid (HX7.out.below hb8); have HA8 := Lib.hid (HA7.out.below hb8); have HB8 := Lib.hid (HB7.out.below hb8); have HR8 := Lib.hid (HR7.out.below hb8); obtain ⟨⟨ha0, ha1⟩, -⟩ := CB.two HA8.out.cb; obtain ⟨⟨hb0, hb1⟩, -⟩ := CB.two HB8.out.cb; obtain ⟨⟨hr0, hr1⟩, -⟩ := CB.two HR8.out.cb; obtain ⟨⟨n0, n1, n2, n3, n4, n5, n6, n7⟩, -⟩ := HX8.out.nb.eight; obtain ⟨⟨x0, x1, x2, x3, x4, x5, x6, x7⟩, -⟩ := HX8.out.xb.eight; clear hb8) | (go_at_call 11; clear HK3; refine (HSAME.out ba ra bc rc _ (HB8.out.rowAt HLN.out) (HR8.out.rowAt HLN.out)).mono ?_; rintro e w9 ⟨rfl, hb9⟩; have HX9 := Lib.hid (HX8.out.below hb9); have HA9 := Lib.hid (HA8.out.below hb9); have HB9 := Lib.hid (HB8.out.below hb9); have HR9 := Lib.hid (HR8.out.below hb9); obtain ⟨⟨ha0, ha1⟩, -⟩ := CB.two HA9.out.cb; obtain ⟨⟨hb0, hb1⟩, -⟩ := CB.two HB9.out.cb; obtain ⟨⟨hr0, hr1⟩, -⟩ := CB.two HR9.out.cb; obtain ⟨⟨n0, n1, n2, n3, n4, n5, n6, n7⟩, -⟩ := HX9.out.nb.eight; obtain ⟨⟨x0, x1, x2, x3, x4, x5, x6, x7⟩, -⟩ := HX9.out.xb.eight; clear hb9) | (go_at_call 12; clear HK4; refine (HKEPT.out (NT.mk k s m n (.slice (some ⟨g, 0, none⟩) us.length xc) us) HXP.out _ HX9.out.b HX9.out.sp).mono ?_; rintro e w10 ⟨rfl, hb10⟩; have HX10 := Lib.hid (HX9.out.below hb10); have HA10 := Lib.hid (HA9.out.below hb10); have HB10 := Lib.hid (HB9.out.below hb10); have HR10 := Lib.hid (HR9.out.below hb10); obtain ⟨⟨ha0, ha1⟩, -⟩ := CB.two HA10.out.cb; obtain ⟨⟨hb0, hb1⟩, -⟩ := CB.two HB10.out.cb; obtain ⟨⟨hr0, hr1⟩, -⟩ := CB.two HR10.out.cb; obtain ⟨⟨n0, n1, n2, n3, n4, n5, n6, n7⟩, -⟩ := HX10.out.nb.eight; obtain ⟨⟨x0, x1, x2, x3, x4, x5, x6, x7⟩, -⟩ := HX10.out.xb.eight; clear hb10) | (go_at_call 13; refine (HSPOIL.out aa ac _ _ HA10.out.row HA10.out.base).mono ?_; rintro e w11 ⟨⟨vs, rfl⟩, hc11⟩; have hT := HA10.out.inN; have hx3 := CB.lt HX3.out.xb; have ha6 := CB.lt HA6.out.cb; have HX11 := Lib.hid (HX10.out.chg hc11 (fun k hk => by have := hT k hk; omega)); have HB11 := Lib.hid (HB10.out.chg hc11 (fun k hk => by have := hT k hk; simp only [World.size_alloc]; omega)); have HR11 := Lib.hid (HR10.out.chg hc11 (fun k hk => by have := hT k hk; omega)); obtain ⟨⟨hb0, hb1⟩, -⟩ := CB.two HB11.out.cb; obtain ⟨⟨hr0, hr1⟩, -⟩ := CB.two HR11.out.cb; obtain ⟨⟨n0, n1, n2, n3, n4, n5, n6, n7⟩, -⟩ := HX11.out.nb.eight; obtain ⟨⟨x0, x1, x2, x3, x4, x5, x6, x7⟩, -⟩ := HX11.out.xb.eight; clear hc11 hT hx3 ha6) | (go_at_call 11; refine (HSAME.out ba ra bc rc _ (HB11.out.rowAt HLN.out) (HR11.out.rowAt HLN.out)).mono ?_; rintro e w12 ⟨rfl, hb12⟩; have HX12 := Lib.hid (HX11.out.below hb12); have HB12 := Lib.hid (HB11.out.below hb12); have HR12 := Lib.hid (HR11.out.below hb12); obtain ⟨⟨hb0, hb1⟩, -⟩ := CB.two HB12.out.cb; obtain ⟨⟨hr0, hr1⟩, -⟩ := CB.two HR12.out.cb; obtain ⟨⟨n0, n1, n2, n3, n4, n5, n6, n7⟩, -⟩ := HX12.out.nb.eight; obtain ⟨⟨x0, x1, x2, x3, x4, x5, x6, x7⟩, -⟩ := HX12.out.xb.eight; clear hb12) | (go_at_call 12; refine (HKEPT.out (NT.mk k s m n (.slice (some ⟨g, 0, none⟩) us.length xc) us) HXP.out _ HX12.out.b HX12.out.sp).mono ?_; rintro e w13 ⟨rfl, hb13⟩; have HX13 := Lib.hid (HX12.out.below hb13); have HB13 := Lib.hid (HB12.out.below hb13); have HR13 := Lib.hid (HR12.out.below hb13); obtain ⟨⟨hb0, hb1⟩, -⟩ := CB.two HB13.out.cb; obtain ⟨⟨hr0, hr1⟩, -⟩ := CB.two HR13.out.cb; obtain ⟨⟨n0, n1, n2, n3, n4, n5, n6, n7⟩, -⟩ := HX13.out.nb.eight; obtain ⟨⟨x0, x1, x2, x3, x4, x5, x6, x7⟩, -⟩ := HX13.out.xb.eight; clear hb13) | (go_at_call 14; refine (n_works _).mono ?_; rintro e w14 ⟨rfl, hb14⟩; have HF := Lib.hid (HX13.out.b.trans (hb14.mono HX13.out.b.size)); clear hb14))
    go_ret
    exact ⟨rfl, HF.out⟩
end Go.Proofs.Ytboebadpohjolaa
