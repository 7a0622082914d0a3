import Derived.Test.YtboebadpohjolaaNfRe
namespace Go.Proofs.Ytboebadpohjolaa
open Go.RowKit

section
variable {B : Nat}

/-! The reference's layer: a box of states. -/
structure YC (B : Nat) (w : World) (lb : Nat) (L : List St) (v : Value) : Prop where
  box : CB w 58 lb [v]
  row : w.ownsRow B 45 7 v L.length (L.flatMap St.cells)
  ne : v.ownBlock ≠ some lb
  base : B ≤ lb
theorem YC.below {w w' : World} {lb : Nat} {L : List St} {v : Value} (h : YC B w lb L v) (hb : Below w.heap.size w w') : YC B w' lb L v :=
  ⟨CB.below h.box hb, (Chg.of_below hb).ownsS h.row fun k hk => (by have := World.ownsRow.lt h.row k hk; omega), h.ne, h.base⟩
theorem YC.alloc {w : World} {lb : Nat} {L : List St} {v : Value} (h : YC B w lb L v) (o : Obj) : YC B (w.alloc o) lb L v := h.below ((Below.refl _ _).alloc (Nat.le_refl _) o)
theorem YC.lt {w : World} {lb : Nat} {L : List St} {v : Value} (h : YC B w lb L v) : lb + 1 ≤ w.heap.size := CB.lt h.box
theorem YC.cells {w : World} {lb : Nat} {L : List St} {v : Value} (h : YC B w lb L v) : w.cell? ⟨lb, 0, none⟩ = some v ∧ w.frozen? ⟨lb, 0, none⟩ = false := ⟨CB.cell h.box 0, CB.free h.box 0⟩
theorem YC.grown {w w1 : World} {lb : Nat} {L : List St} {v : Value} (h : YC B w lb L v) (hg : w.grownBy w1 v.ownBlock) : w1.cell? ⟨lb, 0, none⟩ = some v ∧ w1.frozen? ⟨lb, 0, none⟩ = false := by
  have := CB.chg h.box (Chg.of_grown hg) fun e => h.ne e.symm
  exact ⟨CB.cell this 0, CB.free this 0⟩
/-- The layout has gone on: its box and its row alone have turned. -/
structure YS (B : Nat) (w0 w : World) (lb : Nat) (v0 : Value) (L : List St) (v : Value) : Prop where
  at_ : YC B w lb L v
  chg : Chg (fun k => k = lb ∨ v0.ownBlock = some k) w0 w
  own : ∀ k, v.ownBlock = some k → v0.ownBlock = some k ∨ w0.heap.size ≤ k
theorem YS.refl {w : World} {lb : Nat} {L : List St} {v : Value} (h : YC B w lb L v) : YS B w w lb v L v := ⟨h, Chg.refl _ _, fun _ hk => .inl hk⟩
theorem YS.trans {a b c : World} {lb : Nat} {v0 v1 v2 : Value} {L M : List St} (h : YS B a b lb v0 L v1) (k : YS B b c lb v1 M v2) : YS B a c lb v0 M v2 :=
  ⟨k.at_, h.chg.step k.chg fun i hi hlt => hi.imp id fun e => (h.own i e).resolve_right (by omega), fun i hi => (k.own i hi).elim (h.own i) fun e => .inr (Nat.le_trans h.chg.size e)⟩
theorem YS.below {a b c : World} {lb : Nat} {v0 v1 : Value} {L : List St} (h : YS B a b lb v0 L v1) (hb : Below b.heap.size b c) : YS B a c lb v0 L v1 :=
  ⟨h.at_.below hb, h.chg.step (Chg.of_below hb) fun i hi hlt => by have := h.chg.size; omega, h.own⟩
theorem YS.alloc {a b : World} {lb : Nat} {v0 v1 : Value} {L : List St} (h : YS B a b lb v0 L v1) (x : Obj) : YS B a (b.alloc x) lb v0 L v1 := h.below ((Below.refl _ _).alloc (Nat.le_refl _) x)
theorem YS.low {a b : World} {lb m : Nat} {v0 v1 : Value} {L M : List St} (h : YS B a b lb v0 L v1) (h0 : YC B a lb M v0) (hm : m ≤ B) : Below m a b :=
  h.chg.below (by have := h0.lt; have := h0.base; omega) fun i hi => hi.elim (fun e => (by have := h0.base; omega)) fun e => by have := World.ownsRow.lt h0.row i e; omega
theorem YS.from0 {a b w0 : World} {lb : Nat} {v0 v1 : Value} {L M : List St} (h : YS B a b lb v0 L v1) (h0 : YC B a lb M v0) (hb : Below w0.heap.size w0 a) (hw : w0.heap.size ≤ B) : Below w0.heap.size w0 b :=
  hb.trans ((h.low h0 hw).mono (Nat.le_refl _))
/-- A block of the caller's own stays. -/
theorem YS.box {a b : World} {lb g : Nat} {v0 v1 : Value} {L : List St} {t : TypeId} {cs : List Value} (h : YS B a b lb v0 L v1) (hc : CB a t g cs) (h1 : g ≠ lb) (h2 : v0.ownBlock ≠ some g) : CB b t g cs :=
  CB.chg hc h.chg fun e => e.elim h1 h2
theorem YC.push {w w1 : World} {lb : Nat} {L : List St} {s : St} {v v' : Value} (h : YC B w lb L v) (hown : w1.ownsRow B 45 7 v' (L.length + 1) (L.flatMap St.cells ++ s.cells)) (hg : w.grownBy w1 v.ownBlock) (hor : ∀ k, v'.ownBlock = some k → v.ownBlock = some k ∨ k = w.heap.size) :
    YS B w (w1.setCell ⟨lb, 0, none⟩ v') lb v (L ++ [s]) v' := by
  have hb := CB.chg h.box (Chg.of_grown hg) fun e => h.ne e.symm
  have hne : v'.ownBlock ≠ some lb := fun e => (hor lb e).elim h.ne fun e2 => (by have := h.lt; omega)
  refine ⟨⟨CB.set hb 0 v', ?_, hne, h.base⟩, ((Chg.of_grown hg).mono fun i hi _ => .inr hi.symm).setCell (p := ⟨lb, 0, none⟩) (.inl rfl) _, fun k hk => (hor k hk).imp id fun e => by omega⟩
  rw [List.length_append, List.length_singleton, List.flatMap_append, List.flatMap_cons, List.flatMap_nil, List.append_nil]
  exact (Chg.setCell (S := fun k => k = lb) (Chg.refl _ w1) (p := ⟨lb, 0, none⟩) rfl v').ownsS hown fun k hk e => hne (by rw [hk, e])
/-- The layout has laid. -/
def YRet (B lb : Nat) (v : Value) (L : List St) (q : Nat) (w : World) (e : Ending) (w' : World) : Prop := e = .returned (.int .i64 (q : Nat)) ∧ ∃ v', YS B w w' lb v L v'
set_option maxHeartbeats 2000000 in
set_option maxRecDepth 100000 in
theorem n_state (lb : Nat) (L : List St) (v : Value) (w : World) (k : Int) (s : S4) (x y : Int) (h : YC B w lb L v) (hlen : L.length ≤ 1048576) :
    Calls Try.prog 24 #[.pointer (some ⟨lb, 0, none⟩), stVal k s x y] w fun e w' => YRet B lb v (L ++ [⟨k, s, x, y⟩]) L.length w e w' := by
  have HL := Lib.hid h
  have hlt := h.lt
  have HS0 : Hid (YS B w ((w.alloc (.cells #[.int .i64 k, .int .u64 (s.a : Nat), .int .u64 (s.b : Nat), .int .u64 (s.c : Nat), .int .u64 (s.d : Nat), .int .i64 x, .int .i64 y] 45)).alloc (.cells #[.int .i64 k, .int .u64 (s.a : Nat), .int .u64 (s.b : Nat), .int .u64 (s.c : Nat), .int .u64 (s.d : Nat), .int .i64 x, .int .i64 y] 45)) lb v L v) := ((YS.refl h).alloc _).alloc _
  have HS : Hid (YS B w ((w.alloc (.cells #[.int .i64 k, .int .u64 (s.a : Nat), .int .u64 (s.b : Nat), .int .u64 (s.c : Nat), .int .u64 (s.d : Nat), .int .i64 x, .int .i64 y] 45)).alloc (.cells #[.int .i64 k, .int .u64 (s.a : Nat), .int .u64 (s.b : Nat), .int .u64 (s.c : Nat), .int .u64 (s.d : Nat), .int .i64 x, .int .i64 y] 45)).drew lb v L v) := HS0.out.below ((Below.refl _ _).drew)
  obtain ⟨c0, f0⟩ := HS0.out.at_.cells
  obtain ⟨d0, g0⟩ := ((YS.refl h).alloc (.cells #[.int .i64 k, .int .u64 (s.a : Nat), .int .u64 (s.b : Nat), .int .u64 (s.c : Nat), .int .u64 (s.d : Nat), .int .i64 x, .int .i64 y] 45)).at_.cells
  obtain ⟨a, c, rfl⟩ := own_slice h.row
  have HN : Hid (CB ((w.alloc (.cells #[.int .i64 k, .int .u64 (s.a : Nat), .int .u64 (s.b : Nat), .int .u64 (s.c : Nat), .int .u64 (s.d : Nat), .int .i64 x, .int .i64 y] 45)).alloc (.cells #[.int .i64 k, .int .u64 (s.a : Nat), .int .u64 (s.b : Nat), .int .u64 (s.c : Nat), .int .u64 (s.d : Nat), .int .i64 x, .int .i64 y] 45)).drew 45 (w.heap.size + 1) (St.cells ⟨k, s, x, y⟩)) := CB.below (cb2 w (.cells #[.int .i64 k, .int .u64 (s.a : Nat), .int .u64 (s.b : Nat), .int .u64 (s.c : Nat), .int .u64 (s.d : Nat), .int .i64 x, .int .i64 y] 45) 45 (St.cells ⟨k, s, x, y⟩)) ((Below.refl _ _).drew)
  clear h
  go_enter Try.func24, Try.ntmps24
  go_wp2
  go_region_law ((refine step_appS 33 45 Try.underlying33 infoSt3 rfl (by decide) (by decide) rfl (.tmp 9) (.tmp 11) rfl B (.slice a L.length c) L.length (L.flatMap St.cells) rfl HS.out.at_.row (w.heap.size + 1) (St.cells ⟨k, s, x, y⟩) rfl rfl (fun j u hj => (CB.cell HN.out j).trans hj) (all_one (by rfl)) (by omega) (Nat.le_trans HS.out.at_.base (Nat.le_of_succ_le HS.out.at_.lt)) ?_; intro g cap w1 hown hgr hor; obtain ⟨y0, yf⟩ := HS.out.at_.grown hgr; have HO := Lib.hid hown; have HG := Lib.hid hgr; clear hown hgr))
  all_goals
    have hz := HS.out.trans (HS.out.at_.push HO.out HG.out (fun i hi => by have h9 : g = i := (by simpa [Value.ownBlock] using hi); subst h9; exact hor.out))
    have HZ := Lib.hid hz
    obtain ⟨z0, -⟩ := hz.at_.cells
    clear hz
    go_wp2
    go_ret
    exact ⟨ret_int (by omega), _, HZ.out⟩
end

section
variable {B : Nat}

/-! The reference lays: leaves and rows. -/
def YLayOK (B lb : Nat) (w0 : World) (t : NT) : Prop :=
  ∀ (L : List St) (q : Nat) (v : Value) (w : World), YC B w lb L v → Below w0.heap.size w0 w → 0 < L.length → q < L.length → GoodS L → L.length + cnt t.pt ≤ 1048576 →
    Calls Try.prog 25 #[.pointer (some ⟨lb, 0, none⟩), t.val, .int .i64 (q : Nat)] w fun e w' => YRet B lb v (layT t.pt q L).1 (layT t.pt q L).2 w e w'
theorem YS.row {a w w' : World} {lb : Nat} {v v' : Value} {L : List St} {row : Option Nat} (h : YS B a w lb v L v') (hg : w.grownBy w' row) (h1 : row ≠ some lb) (h2 : ∀ k, row = some k → v'.ownBlock ≠ some k) (h3 : ∀ k, row = some k → a.heap.size ≤ k) : YS B a w' lb v L v' :=
  ⟨⟨CB.chg h.at_.box (Chg.of_grown hg) fun e => h1 e.symm, (Chg.of_grown hg).ownsS h.at_.row fun k hk e => h2 k e.symm hk, h.at_.ne, h.at_.base⟩, h.chg.step (Chg.of_grown hg) fun i hi hlt => (by have := h3 i hi.symm; omega), h.own⟩
set_option maxHeartbeats 4000000 in
set_option maxRecDepth 100000 in
theorem n_rleaf (lb : Nat) (w0 : World) (k : Int) (hk : k = 0 ∨ k = 1 ∨ k = 2 ∨ k = 3) (s : S4) (m n : Int) (p : Value) (ps : List NT) (hp : ∃ a l c, p = .slice a l c) : YLayOK B lb w0 (.mk k s m n p ps) := by
  obtain ⟨a, len, c, rfl⟩ := hp
  intro L q v w h hb h0 hq hg hlen
  have HS := Lib.hid ((YS.refl h).alloc (.cells #[.int .i64 k, .int .u64 (s.a : Nat), .int .u64 (s.b : Nat), .int .u64 (s.c : Nat), .int .u64 (s.d : Nat), .int .i64 m, .int .i64 n, .slice a len c] 27))
  show Calls Try.prog 25 #[.pointer (some ⟨lb, 0, none⟩), nodeVal k s m n (.slice a len c), .int .i64 (q : Nat)] w _
  rcases hk with rfl | rfl | rfl | rfl
  · have e1 : layT (NT.mk 0 s m n (.slice a len c) ps).pt q L = (L, q) := by rw [NT.pt_mk, layT_eq]; rfl
    rw [e1]
    clear h hb hg hlen e1
    go_enter Try.func25, Try.ntmps25
    go_wp2
    go_ret
    exact ⟨rfl, _, HS.out⟩
  · have e1 : layT (NT.mk 1 s m n (.slice a len c) ps).pt q L = (L ++ [⟨1, s, q, 0⟩], L.length) := by rw [NT.pt_mk, layT_eq]; rfl
    have e2 : cnt (NT.mk 1 s m n (.slice a len c) ps).pt = 1 := by rw [NT.pt_mk, cnt]; rfl
    rw [e1]
    rw [e2] at hlen
    clear h hb hg e1 e2
    go_enter Try.func25, Try.ntmps25
    go_wp2_with (go_at_call 24; refine (n_state lb L v _ 1 s q 0 HS.out.at_ (by omega)).mono ?_; rintro e w2 ⟨rfl, v2, hS2⟩; have HS2 := Lib.hid (HS.out.trans hS2); clear hS2)
    go_ret
    exact ⟨rfl, _, HS2.out⟩
  · have e1 : layT (NT.mk 2 s m n (.slice a len c) ps).pt q L = (L ++ [⟨3, .zero, q, 0⟩], L.length) := by rw [NT.pt_mk, layT_eq]; rfl
    have e2 : cnt (NT.mk 2 s m n (.slice a len c) ps).pt = 1 := by rw [NT.pt_mk, cnt]; rfl
    rw [e1]
    rw [e2] at hlen
    clear h hb hg e1 e2
    go_enter Try.func25, Try.ntmps25
    go_wp2_with (go_at_call 24; refine (n_state lb L v _ 3 .zero q 0 HS.out.at_ (by omega)).mono ?_; rintro e w2 ⟨rfl, v2, hS2⟩; have HS2 := Lib.hid (HS.out.trans hS2); clear hS2)
    go_ret
    exact ⟨rfl, _, HS2.out⟩
  · have e1 : layT (NT.mk 3 s m n (.slice a len c) ps).pt q L = (L ++ [⟨4, .zero, q, 0⟩], L.length) := by rw [NT.pt_mk, layT_eq]; rfl
    have e2 : cnt (NT.mk 3 s m n (.slice a len c) ps).pt = 1 := by rw [NT.pt_mk, cnt]; rfl
    rw [e1]
    rw [e2] at hlen
    clear h hb hg e1 e2
    go_enter Try.func25, Try.ntmps25
    go_wp2_with (go_at_call 24; refine (n_state lb L v _ 4 .zero q 0 HS.out.at_ (by omega)).mono ?_; rintro e w2 ⟨rfl, v2, hS2⟩; have HS2 := Lib.hid (HS.out.trans hS2); clear hS2)
    go_ret
    exact ⟨rfl, _, HS2.out⟩
set_option maxHeartbeats 4000000 in
set_option maxRecDepth 100000 in
theorem n_rrow (lb : Nat) (w0 : World) (s : S4) (m n : Int) (a : Option Addr) (c : Nat) (ps : List NT) (hok : ∀ t ∈ ps, YLayOK B lb w0 t) (hlaid : ∀ t ∈ ps.map NT.pt, Laid (layT t) (cnt t)) (hw0 : w0.heap.size ≤ B)
    (hrow : RowAt w0 a (ps.flatMap NT.cells)) (hps : ∀ t ∈ ps, t.Lies w0) (hpl : ps.length ≤ 1099511627776) : YLayOK B lb w0 (.mk 4 s m n (.slice a ps.length c) ps) := by
  intro L q v w h hb h0 hq hg hlen
  have e1 : layT (NT.mk 4 s m n (.slice a ps.length c) ps).pt q L = layRow (ps.map NT.pt) q L := by rw [NT.pt_mk, layT_eq]; rfl
  have e2 : cnt (NT.mk 4 s m n (.slice a ps.length c) ps).pt = cntL (ps.map NT.pt) := by rw [NT.pt_mk, cnt]; rfl
  have e3 := rowK_all (ps.map NT.pt) q L
  rw [List.length_map] at e3
  rw [e1, ← e3]
  rw [e2] at hlen
  show Calls Try.prog 25 #[.pointer (some ⟨lb, 0, none⟩), nodeVal 4 s m n (.slice a ps.length c), .int .i64 (q : Nat)] w _
  obtain ⟨len, hl⟩ : ∃ len, ps.length = len := ⟨_, rfl⟩
  rw [hl] at hpl ⊢
  have HL := Lib.hid hl
  have HROW := Lib.hid hrow
  have HPS := Lib.hid hps
  have HOK := Lib.hid hok
  have HLAID := Lib.hid hlaid
  have HH := Lib.hid h
  have HB := Lib.hid hb
  have HI : Hid (LI L q) := ⟨h0, hq, hg⟩
  have HLEN := Lib.hid hlen
  have HS := Lib.hid ((YS.refl h).alloc (.cells #[.int .i64 4, .int .u64 (s.a : Nat), .int .u64 (s.b : Nat), .int .u64 (s.c : Nat), .int .u64 (s.d : Nat), .int .i64 m, .int .i64 n, .slice a len c] 27))
  have HC : Hid (CB (w.alloc (.cells #[.int .i64 4, .int .u64 (s.a : Nat), .int .u64 (s.b : Nat), .int .u64 (s.c : Nat), .int .u64 (s.d : Nat), .int .i64 m, .int .i64 n, .slice a len c] 27)) 27 w.heap.size (nodeCells 4 s m n (.slice a len c))) := CB.new w _ _
  have hlt := h.lt
  have hbase := h.base
  have hv1 : v.ownBlock ≠ some w.heap.size := fun e => absurd (World.ownsRow.lt h.row _ e).2 (by omega)
  have hne1 : w.heap.size ≠ lb := by omega
  clear hrow hps hok hlaid h hb hlen hl h0 hq hg e1 e2 e3
  go_enter Try.func25, Try.ntmps25
  go_wp2
  go_loopw [2, 7] (fun tv iv wr => ∃ (j k : Nat) (z : Int) (vk : Value), j + k = len ∧ iv = .int .i64 z ∧ z = (j : Int) - 1 ∧ tv = .int .i64 ((rowK (ps.map NT.pt) q L k).2 : Nat) ∧ Hid (YS B w wr lb v (rowK (ps.map NT.pt) q L k).1 vk) ∧ Hid (vk.ownBlock ≠ some w.heap.size) ∧ Hid (CB wr 27 w.heap.size (nodeCells 4 s m n (.slice a len c))) ∧ Hid (w.heap.size + 1 ≤ wr.heap.size)) (fun _ iv _ => (intOf iv + 1).toNat)
  case atStart => exact ⟨len, 0, _, v, by omega, rfl, rfl, (by rw [rowK_zero]), (by rw [rowK_zero]; exact HS.out), hv1, HC.out, (by show _ ≤ _; simp)⟩
  case round =>
    obtain ⟨j, k, z, vk, hjk, rfl, hz, rfl, HSk, HNk, HCk, HZk⟩ := hrel
    obtain ⟨⟨x0, x1, x2, x3, x4, x5, x6, x7⟩, -⟩ := HCk.out.eight
    rcases j with _ | j
    · obtain rfl : z = -1 := by omega
      obtain rfl : k = len := by omega
      clear hjk hz
      go_wp2
      go_ret
      exact ⟨rfl, vk, HSk.out⟩
    · obtain rfl : z = (j : Int) := by omega
      have hjl : j < len := by omega
      have hip : j < ps.length := by rw [HL.out]; exact hjl
      obtain ⟨b, off, tk, tS, tm, tn, ta, tl, tc, tps, rfl, ht, htm, hra⟩ := lies_elem HROW.out HPS.out hip
      have hbw : Below w0.heap.size w0 wr := HSk.out.from0 HH.out HB.out hw0
      have hpt : (ps.map NT.pt)[j]'(by rw [List.length_map]; exact hip) = (NT.mk tk tS tm tn (.slice ta tl tc) tps).pt := by rw [List.getElem_map, ht]
      have hstep := rowK_succ (ps.map NT.pt) q L (j := j) (k := k) (by rw [List.length_map, HL.out]; exact hjk) (by rw [List.length_map]; exact hip)
      rw [hpt] at hstep
      have hlk := rowK_laid (ps.map NT.pt) HLAID.out q L k HI.out
      have hbd : (rowK (ps.map NT.pt) q L k).1.length + cnt (NT.mk tk tS tm tn (.slice ta tl tc) tps).pt ≤ 1048576 := by
        have h1 := cntL_drop (ps.map NT.pt) j
        rw [List.drop_eq_getElem_cons (by rw [List.length_map]; exact hip), hpt, cntL] at h1
        have h2 := hlk.1
        rw [List.length_map, HL.out, show len - k = j + 1 by omega] at h2
        have := HLEN.out
        omega
      have hcall := HOK.out _ htm _ _ vk wr HSk.out.at_ hbw hlk.2.1 hlk.2.2.1 hlk.2.2.2 hbd
      rw [← hstep] at hcall
      have HCALL := Lib.hid hcall
      have HRA := Lib.hid (rangeAt_below hra hbw)
      have HJK := Lib.hid hjk
      obtain ⟨p, hp⟩ : ∃ p, (rowK (ps.map NT.pt) q L k).2 = p := ⟨_, rfl⟩
      rw [hp] at HCALL ⊢
      clear hcall hstep hlk hbd hpt ht htm hra hip hjk hz hp hbw
      go_wp2_with (first | (refine wpl_loadN (.tmp 48) rfl rfl (g := b) (off := off + j * 8) (k := tk) (s := tS) (m := tm) (n := tn) (p := .slice ta tl tc) ?_ HRA.out ?_; rfl) | (go_at_call 25; refine (HCALL.out).mono ?_; rintro e w2 ⟨rfl, v2, hS2⟩; have HS2 := Lib.hid hS2; clear hS2))
      go_roundw
      case rel =>
        have hz2 := HZk.out
        exact ⟨j, k + 1, _, v2, (by have := HJK.out; omega), rfl, by go_num, rfl, HSk.out.trans HS2.out, (fun e => (HS2.out.own _ e).elim HNk.out fun e2 => (by omega)), HS2.out.box HCk.out hne1 HNk.out, Nat.le_trans hz2 HS2.out.chg.size⟩
      case measure => simp [intOf]
end

section
variable {B : Nat}

/-! The reference lays a choice. -/
structure RcI (B : Nat) (w : World) (lb : Nat) (v : Value) (ps : List PT) (q : Nat) (L : List St) (cs : List Value) (i : Nat) (W : World) (vk bv : Value) : Prop where
  rs : YS B w W lb v (layAll (ps.take i) q L).1 vk
  bn : CB W 27 w.heap.size cs
  row : W.ownsRow (w.heap.size + 1) 3 1 bv i (intVs (layAll (ps.take i) q L).2)
  dis : ∀ k, bv.ownBlock = some k → vk.ownBlock ≠ some k
  nb : vk.ownBlock ≠ some w.heap.size
  li : LI (layAll (ps.take i) q L).1 q
  sz : w.heap.size + 1 ≤ W.heap.size
set_option maxHeartbeats 8000000 in
set_option maxRecDepth 100000 in
theorem n_rchoice (lb : Nat) (w0 : World) (s : S4) (m n : Int) (a : Option Addr) (c : Nat) (ps : List NT) (hok : ∀ t ∈ ps, YLayOK B lb w0 t) (hlaid : ∀ t ∈ ps.map NT.pt, Laid (layT t) (cnt t)) (hw0 : w0.heap.size ≤ B)
    (hrow : RowAt w0 a (ps.flatMap NT.cells)) (hps : ∀ t ∈ ps, t.Lies w0) (last : Nat) (hpl : ps.length = last + 1) : YLayOK B lb w0 (.mk 5 s m n (.slice a ps.length c) ps) := by
  intro L q v w h hb h0 hq hg hlen
  have e1 : layT (NT.mk 5 s m n (.slice a ps.length c) ps).pt q L = choose (layAll (ps.map NT.pt) q L) q := by rw [NT.pt_mk, layT_eq]; rfl
  have e2 : cnt (NT.mk 5 s m n (.slice a ps.length c) ps).pt = cntL (ps.map NT.pt) + last := by
    rw [NT.pt_mk, cnt]
    show cntL (ps.map NT.pt) + (ps.map NT.pt).length - 1 = _
    rw [List.length_map, hpl]
    omega
  rw [e1]
  rw [e2] at hlen
  show Calls Try.prog 25 #[.pointer (some ⟨lb, 0, none⟩), nodeVal 5 s m n (.slice a ps.length c), .int .i64 (q : Nat)] w _
  obtain ⟨len, hl⟩ : ∃ len, ps.length = len := ⟨_, rfl⟩
  rw [hl]
  have HLL : Hid (len = last + 1) := hl.symm.trans hpl
  have hlenb : len ≤ 1048577 := by have := HLL.out; omega
  have hlast : last ≤ 1048576 := by omega
  have HL := Lib.hid hl
  have HROW := Lib.hid hrow
  have HPS := Lib.hid hps
  have HOK := Lib.hid hok
  have HLAID := Lib.hid hlaid
  have HH := Lib.hid h
  have HB := Lib.hid hb
  have HI : Hid (LI L q) := ⟨h0, hq, hg⟩
  have HLEN := Lib.hid hlen
  have HS := Lib.hid ((YS.refl h).alloc (.cells #[.int .i64 5, .int .u64 (s.a : Nat), .int .u64 (s.b : Nat), .int .u64 (s.c : Nat), .int .u64 (s.d : Nat), .int .i64 m, .int .i64 n, .slice a len c] 27))
  have HC : Hid (CB (w.alloc (.cells #[.int .i64 5, .int .u64 (s.a : Nat), .int .u64 (s.b : Nat), .int .u64 (s.c : Nat), .int .u64 (s.d : Nat), .int .i64 m, .int .i64 n, .slice a len c] 27)) 27 w.heap.size (nodeCells 5 s m n (.slice a len c))) := CB.new w _ _
  have hlt := h.lt
  have hbase := h.base
  have hv1 : v.ownBlock ≠ some w.heap.size := fun e => absurd (World.ownsRow.lt h.row _ e).2 (by omega)
  have hl1 : w.heap.size ≠ lb := by omega
  clear hrow hps hok hlaid h hb hlen hl h0 hq hg e1 e2 hpl
  go_enter Try.func25, Try.ntmps25
  go_wp2
  go_loopw [8, 9] (fun bv iv wr => ∃ (i : Nat) (vk : Value), i ≤ len ∧ iv = .int .i64 (i : Nat) ∧ Hid (RcI B w lb v (ps.map NT.pt) q L (nodeCells 5 s m n (.slice a len c)) i wr vk bv)) (fun _ iv _ => len - (intOf iv).toNat)
  case atStart =>
    refine ⟨0, v, by omega, rfl, ?_⟩
    refine ⟨by rw [List.take_zero, layAll]; exact HS.out, HC.out, ?_, (fun k hk => by cases hk), hv1, by rw [List.take_zero, layAll]; exact HI.out, by simp⟩
    rw [List.take_zero, layAll]
    exact World.ownsRow_nil _ _ _ _
  case round =>
    obtain ⟨i, vk, hil, rfl, HC⟩ := hrel
    obtain ⟨⟨x0, x1, x2, x3, x4, x5, x6, x7⟩, -⟩ := HC.out.bn.eight
    by_cases hlt2 : i < len
    · have hip : i < ps.length := by rw [HL.out]; exact hlt2
      obtain ⟨b, off, tk, tS, tm, tn, ta, tl, tc, tps, rfl, ht, htm, hra⟩ := lies_elem HROW.out HPS.out hip
      have hsz := HC.out.sz
      have hbw := HC.out.rs.from0 HH.out HB.out hw0
      have hra1 := rangeAt_below hra hbw
      have hpt : (ps.map NT.pt)[i]? = some (NT.mk tk tS tm tn (.slice ta tl tc) tps).pt := by rw [List.getElem?_map, List.getElem?_eq_getElem hip, ht]; rfl
      have htake : (ps.map NT.pt).take (i + 1) = (ps.map NT.pt).take i ++ [(NT.mk tk tS tm tn (.slice ta tl tc) tps).pt] := by rw [List.take_add_one, hpt]; rfl
      have hsnoc := layAll_snoc ((ps.map NT.pt).take i) (NT.mk tk tS tm tn (.slice ta tl tc) tps).pt q L
      rw [← htake] at hsnoc
      have hbd : (layAll ((ps.map NT.pt).take i) q L).1.length + cnt (NT.mk tk tS tm tn (.slice ta tl tc) tps).pt ≤ 1048576 := by
        have h1 := (layAll_laid ((ps.map NT.pt).take i) (fun t ht => HLAID.out t (List.mem_of_mem_take ht)) q L HI.out.1 HI.out.2.1 HI.out.2.2).1
        have h2 := cntL_take (ps.map NT.pt) (i + 1)
        rw [htake, cntL_snoc] at h2
        have := HLEN.out
        omega
      have hlay := HLAID.out _ (List.mem_of_getElem? hpt) q _ HC.out.li.1 HC.out.li.2.1 HC.out.li.2.2
      have hcall := HOK.out _ htm (layAll ((ps.map NT.pt).take i) q L).1 q vk wr HC.out.rs.at_ hbw HC.out.li.1 HC.out.li.2.1 HC.out.li.2.2 hbd
      have hls := HC.out.rs
      have hrw := HC.out.row
      have hbl := HC.out.bn
      have hdis := HC.out.dis
      have hli := HC.out.li
      have hnb := HC.out.nb
      obtain ⟨P, hP⟩ : ∃ P, layAll ((ps.map NT.pt).take i) q L = P := ⟨_, rfl⟩
      obtain ⟨R, hR⟩ : ∃ R, layT (NT.mk tk tS tm tn (.slice ta tl tc) tps).pt q P.1 = R := ⟨_, rfl⟩
      obtain ⟨x, hx⟩ : ∃ x, R.2 = x := ⟨_, rfl⟩
      rw [hP] at hcall hlay hsnoc hls hrw hli
      rw [hR] at hcall hlay hsnoc
      rw [hx] at hcall hsnoc
      have HRA := Lib.hid hra1
      have HCALL := Lib.hid hcall
      have HLAY := Lib.hid hlay
      have HSN := Lib.hid hsnoc
      have HLS := Lib.hid hls
      have HRW := Lib.hid hrw
      have HBL := Lib.hid hbl
      have HDIS := Lib.hid hdis
      have HLI := Lib.hid hli
      have hneW : ∀ k, vk.ownBlock = some k → k < wr.heap.size := fun k e => (World.ownsRow.lt HC.out.rs.at_.row _ e).2
      have hneU : ∀ k, u8.ownBlock = some k → w.heap.size + 1 ≤ k ∧ k < wr.heap.size := fun k e => World.ownsRow.lt HC.out.row _ e
      have HNW := Lib.hid hneW
      have HNU := Lib.hid hneU
      clear hra hra1 hcall hlay hsnoc hx hP hbw hR hbd htake hpt ht htm hip hls hrw hbl hdis hli hneW hneU HC
      go_wp2_with (first | (refine wpl_loadN (.tmp 65) rfl rfl (g := b) (off := off + i * 8) (k := tk) (s := tS) (m := tm) (n := tn) (p := .slice ta tl tc) ?_ HRA.out ?_; rfl) | (go_at_call 25; refine (HCALL.out).mono ?_; rintro e w2 ⟨rfl, v2, hS2⟩; have HS2 := Lib.hid hS2; have hs2 := hS2.chg.size; have HR2 := Lib.hid (hS2.chg.ownsS HRW.out fun k hk e => e.elim (fun e => by have := HNU.out k hk; omega) (HDIS.out k hk)); clear hS2) | (refine wpl_app 64 3 Try.underlying64 infoInt rfl (by decide) rfl (.tmp 69) (.tmp 71) rfl (w.heap.size + 1) _ i (intVs P.2) rfl (own_alloc HR2.out _) w2.heap.size (.int .i64 (x : Nat)) rfl ?_ rfl (by omega) (by simp; omega) ?_; (exact CB.cell (CB.new w2 _ [.int .i64 (x : Nat)]) 0); intro g cap w3 hown3 hg3 hBg hlt3 hor; have HO3 := Lib.hid hown3; have HG3 := Lib.hid hg3; clear hown3 hg3))
      have HS3 := Lib.hid ((HLS.out.trans HS2.out).alloc (.cells #[.int .i64 (x : Nat)] 3))
      have hsz3 : w2.heap.size + 1 ≤ w3.heap.size := by have := HG3.out.size; rwa [World.size_alloc] at this
      have hv2 : ∀ k, v2.ownBlock = some k → vk.ownBlock = some k ∨ wr.heap.size ≤ k := fun k hk => HS2.out.own k hk
      have hv2l : ∀ k, v2.ownBlock = some k → k < w2.heap.size := fun k e => (World.ownsRow.lt HS2.out.at_.row _ e).2
      have hsn := HSN.out
      go_roundw
      case rel =>
        refine ⟨i + 1, v2, by omega, by go_num, ?_⟩
        refine ⟨?_, ?_, ?_, ?_, ?_, ?_, ?_⟩
        · rw [hsn]
          exact HS3.out.row HG3.out (fun e => by have := HNU.out _ e; omega) (fun k hk e => (hv2 k e).elim (HDIS.out k hk) fun e2 => by have := HNU.out _ hk; omega) fun k hk => by have := HNU.out _ hk; omega
        · exact CB.chg ((HS2.out.box HBL.out hl1 hnb).alloc _) (Chg.of_grown HG3.out) fun e => by have := HNU.out _ e.symm; omega
        · rw [hsn]
          show w3.ownsRow _ _ _ _ _ (intVs (P.2 ++ [x]))
          rw [intVs, List.map_append]
          exact HO3.out
        · intro k hk e
          have hk2 : g = k := by simpa [Value.ownBlock] using hk
          subst hk2
          rcases hor.out with h9 | h9
          · exact (hv2 _ e).elim (HDIS.out _ h9) fun e2 => by have := HNU.out _ h9; omega
          · have := hv2l _ e
            rw [World.size_alloc] at h9
            omega
        · exact fun e => (hv2 _ e).elim hnb fun e2 => by omega
        · rw [hsn]
          obtain ⟨r1, r2, r3⟩ := HLAY.out
          exact ⟨by have := HLI.out.1; show 0 < R.1.length; omega, by have := HLI.out.2.1; show q < R.1.length; omega, r3⟩
        · omega
      case measure => simp [intOf]; omega
    · obtain rfl : i = len := by omega
      obtain rfl : i = last + 1 := HLL.out
      have htake : (ps.map NT.pt).take (last + 1) = ps.map NT.pt := List.take_of_length_le (by rw [List.length_map, HL.out]; exact Nat.le_refl _)
      have hls := HC.out.rs
      have hrw := HC.out.row
      have hdis := HC.out.dis
      rw [htake] at hls hrw
      have hlen2 := layAll_len (ps.map NT.pt) q L
      rw [List.length_map, HL.out] at hlen2
      have hch := choose_eq (layAll (ps.map NT.pt) q L) q last hlen2
      obtain ⟨P, hP⟩ : ∃ P, layAll (ps.map NT.pt) q L = P := ⟨_, rfl⟩
      rw [hP] at hls hrw hlen2 hch
      have hPlen : P.1.length + last ≤ 1048576 := by
        have h1 := (layAll_laid (ps.map NT.pt) HLAID.out q L HI.out.1 HI.out.2.1 HI.out.2.2).1
        rw [hP] at h1
        have := HLEN.out
        omega
      obtain ⟨g, cap, rfl⟩ := Go.Joins.ownsRow_form hrw (by omega)
      have hcell : ∀ j, j < last + 1 → wr.cell? ⟨g, j, none⟩ = some (.int .i64 ((P.2[j]?.getD 0 : Nat) : Int)) := by
        intro j hj
        rw [World.ownsRow.cellAt hrw j (by omega), List.getElem?_map, List.getElem?_eq_getElem (by omega)]
        rfl
      obtain ⟨x0, hx0⟩ : ∃ x0, P.2[last]?.getD 0 = x0 := ⟨_, rfl⟩
      have hcl := hcell last (by omega)
      rw [hx0] at hcl hch
      have hg := World.ownsRow.lt hrw g rfl
      have HLS := Lib.hid hls
      have HCE := Lib.hid hcell
      have HP2 := Lib.hid hlen2
      have HP := Lib.hid hP
      have HCH := Lib.hid hch
      have hnv : vk.ownBlock ≠ some g := hdis g rfl
      clear hrw hls hcell hlen2 hP hch htake HC hx0 hdis
      have hl2 : (P.2.take last).length = last := by rw [List.length_take, HP2.out]; omega
      go_wp2
      go_loopw [2, 11] (fun tv iv wx => ∃ (j k : Nat) (z : Int) (vx : Value), j + k = last ∧ iv = .int .i64 z ∧ z = (j : Int) - 1 ∧ tv = .int .i64 ((splits ((P.2.take last).reverse.take k) P.1 x0).2 : Nat) ∧ Hid (YS B w wx lb v (splits ((P.2.take last).reverse.take k) P.1 x0).1 vx) ∧ Hid (vx.ownBlock ≠ some g) ∧ Hid (g < wx.heap.size) ∧ Hid (∀ j, j < last + 1 → wx.cell? ⟨g, j, none⟩ = some (.int .i64 ((P.2[j]?.getD 0 : Nat) : Int)))) (fun _ iv _ => (intOf iv + 1).toNat)
      case atStart => exact ⟨last, 0, _, vk, by omega, rfl, by omega, (by rw [List.take_zero, splits]), (by rw [List.take_zero, splits]; exact HLS.out), hnv, hg.2, HCE.out⟩
      case round =>
        rename_i wx
        obtain ⟨j, k, z, vx, hjk, rfl, hz, rfl, HSk, HNk, HGk, HCk⟩ := hrel
        rcases j with _ | j
        · obtain rfl : z = -1 := by omega
          obtain rfl : k = last := by omega
          clear hjk hz
          go_wp2
          go_ret
          rw [HP.out, HCH.out]
          have hall : (P.2.take k).reverse.take k = (P.2.take k).reverse := List.take_of_length_le (by rw [List.length_reverse, hl2]; exact Nat.le_refl _)
          have hlx := HSk.out
          rw [hall] at hlx ⊢
          exact ⟨rfl, vx, hlx⟩
        · obtain rfl : z = (j : Int) := by omega
          have hjl : j < last := by omega
          obtain ⟨x, hx⟩ : ∃ x, P.2[j]?.getD 0 = x := ⟨_, rfl⟩
          have hxc := HCk.out j (by omega)
          rw [hx] at hxc
          have hrev : (P.2.take last).reverse[k]? = some x := by
            rw [List.getElem?_reverse (by omega), hl2, show last - 1 - k = j by omega, List.getElem?_take_of_lt hjl, ← hx, List.getElem?_eq_getElem (by rw [HP2.out]; omega)]
            rfl
          have htake : (P.2.take last).reverse.take (k + 1) = (P.2.take last).reverse.take k ++ [x] := by rw [List.take_add_one, hrev]; rfl
          have hsn := splits_snoc ((P.2.take last).reverse.take k) x P.1 x0
          rw [← htake] at hsn
          have hsl := splits_len ((P.2.take last).reverse.take k) P.1 x0
          rw [List.length_take, List.length_reverse, hl2] at hsl
          obtain ⟨S0, hS0⟩ : ∃ S0, splits ((P.2.take last).reverse.take k) P.1 x0 = S0 := ⟨_, rfl⟩
          obtain ⟨y, hy⟩ : ∃ y, S0.2 = y := ⟨_, rfl⟩
          have hlsW := HSk.out
          rw [hS0] at hsn hsl hlsW ⊢
          rw [hy] at hsn ⊢
          have hNb : S0.1.length ≤ 1048576 := by omega
          have HSN := Lib.hid hsn
          have HLW := Lib.hid hlsW
          have HJK := Lib.hid hjk
          have HNB := Lib.hid hNb
          clear hsn hsl hlsW hrev htake hx hS0 hy hjk hz hNb HSk
          go_wp2_with (go_at_call 24; refine (n_state lb S0.1 vx _ 2 .zero (x : Nat) (y : Nat) HLW.out.at_ HNB.out).mono ?_; rintro e w2 ⟨rfl, v2, hS2⟩; have HS2 := Lib.hid hS2; clear hS2)
          go_roundw
          case rel => exact ⟨j, k + 1, _, v2, (by have := HJK.out; omega), rfl, by go_num, (by rw [HSN.out]), (by rw [HSN.out]; exact HLW.out.trans HS2.out), (fun e => (HS2.out.own _ e).elim HNk.out fun e2 => by have := HGk.out; omega), Nat.lt_of_lt_of_le HGk.out HS2.out.chg.size, (fun j hj => HS2.out.chg.cell (HCk.out j hj) fun e => e.elim (fun e => by have h9 : g = lb := e; omega) HNk.out)⟩
          case measure => simp [intOf]
end
end Go.Proofs.Ytboebadpohjolaa
