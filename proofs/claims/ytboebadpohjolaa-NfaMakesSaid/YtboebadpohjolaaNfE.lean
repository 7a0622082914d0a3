import Derived.Test.YtboebadpohjolaaNfD
namespace Go.Proofs.Ytboebadpohjolaa
open Go.RowKit

variable {B : Nat}

/-! How a set is laid, and a part so many times. -/
theorem CB.set7 {w : World} {t : TypeId} {g : Nat} {v0 v1 v2 v3 v4 v5 v6 : Value} (h : CB w t g [v0, v1, v2, v3, v4, v5, v6]) (a b c d e f x : Value) :
    CB (((((((w.setCell ⟨g, 0, none⟩ a).setCell ⟨g, 1, none⟩ b).setCell ⟨g, 2, none⟩ c).setCell ⟨g, 3, none⟩ d).setCell ⟨g, 4, none⟩ e).setCell ⟨g, 5, none⟩ f).setCell ⟨g, 6, none⟩ x) t g [a, b, c, d, e, f, x] :=
  ((((((h.set 0 a).set 1 b).set 2 c).set 3 d).set 4 e).set 5 f).set 6 x
theorem CB.seven {w : World} {t : TypeId} {g : Nat} {a b c d e f x : Value} (h : CB w t g [a, b, c, d, e, f, x]) :
    (w.cell? ⟨g, 0, none⟩ = some a ∧ w.cell? ⟨g, 1, none⟩ = some b ∧ w.cell? ⟨g, 2, none⟩ = some c ∧ w.cell? ⟨g, 3, none⟩ = some d ∧ w.cell? ⟨g, 4, none⟩ = some e ∧ w.cell? ⟨g, 5, none⟩ = some f ∧ w.cell? ⟨g, 6, none⟩ = some x) ∧
    (w.frozen? ⟨g, 0, none⟩ = false ∧ w.frozen? ⟨g, 1, none⟩ = false ∧ w.frozen? ⟨g, 2, none⟩ = false ∧ w.frozen? ⟨g, 3, none⟩ = false ∧ w.frozen? ⟨g, 4, none⟩ = false ∧ w.frozen? ⟨g, 5, none⟩ = false ∧ w.frozen? ⟨g, 6, none⟩ = false) :=
  ⟨⟨h.cell 0, h.cell 1, h.cell 2, h.cell 3, h.cell 4, h.cell 5, h.cell 6⟩, h.free 0, h.free 1, h.free 2, h.free 3, h.free 4, h.free 5, h.free 6⟩
theorem Below.set7 {w w' : World} {b g : Nat} (h : Below b w w') (hg : b ≤ g) (v0 v1 v2 v3 v4 v5 v6 : Value) : Below b w (((((((w'.setCell ⟨g, 0, none⟩ v0).setCell ⟨g, 1, none⟩ v1).setCell ⟨g, 2, none⟩ v2).setCell ⟨g, 3, none⟩ v3).setCell ⟨g, 4, none⟩ v4).setCell ⟨g, 5, none⟩ v5).setCell ⟨g, 6, none⟩ v6) :=
  ((((((h.setCell (p := ⟨g, 0, none⟩) hg v0).setCell (p := ⟨g, 1, none⟩) hg v1).setCell (p := ⟨g, 2, none⟩) hg v2).setCell (p := ⟨g, 3, none⟩) hg v3).setCell (p := ⟨g, 4, none⟩) hg v4).setCell (p := ⟨g, 5, none⟩) hg v5).setCell (p := ⟨g, 6, none⟩) hg v6
set_option maxHeartbeats 1000000 in
set_option maxRecDepth 100000 in
theorem p_split (x y : Int) (w : World) : Calls Try.prog 47 #[.int .i64 x, .int .i64 y] w fun e w' => e = .returned (stVal 2 .zero x y) ∧ Below w.heap.size w w' := by
  have HC : Hid (CB (w.alloc (.cells #[.int .i64 2, .int .u64 0, .int .u64 0, .int .u64 0, .int .u64 0, .int .i64 x, .int .i64 y] 45)) 45 w.heap.size [.int .i64 2, .int .u64 0, .int .u64 0, .int .u64 0, .int .u64 0, .int .i64 x, .int .i64 y]) := CB.new w _ _
  go_enter Try.func47, Try.ntmps47
  go_wp2
  refine bodyPost_ret (ret_row rfl rfl HC.out _ Try.underlying45 rfl infoSt) rfl ⟨rfl, ?_⟩
  exact (Below.refl _ _).alloc (Nat.le_refl _) _
/-- A tree is laid. -/
def LayOK (B lb : Nat) (w0 : World) (t : NT) : Prop :=
  ∀ (L : List St) (q : Nat) (v : Value) (w : World), LC B w lb L v → Below w0.heap.size w0 w → 0 < L.length → q < L.length → GoodS L → L.length + cnt t.pt ≤ 1048576 →
    Calls Try.prog 21 #[.pointer (some ⟨lb, 0, none⟩), t.val, .int .i64 (q : Nat)] w fun e w' => LRet B lb v (layT t.pt q L).1 (layT t.pt q L).2 w e w'
set_option maxHeartbeats 1000000 in
set_option maxRecDepth 100000 in
theorem p_setF (lb : Nat) (L : List St) (q : Nat) (v : Value) (w : World) (k : Int) (s : S4) (m n : Int) (a : Option Addr) (len c : Nat) (h : LC B w lb L v) (hlen : L.length ≤ 1048575) :
    Calls Try.prog 38 #[.pointer (some ⟨lb, 0, none⟩), nodeVal k s m n (.slice a len c), .int .i64 (q : Nat)] w fun e w' => LRet B lb v (L ++ [⟨1, s, q, 0⟩]) L.length w e w' := by
  have HS := Lib.hid ((LS.refl h).alloc (.cells #[.int .i64 k, .int .u64 (s.a : Nat), .int .u64 (s.b : Nat), .int .u64 (s.c : Nat), .int .u64 (s.d : Nat), .int .i64 m, .int .i64 n, .slice a len c] 27))
  clear h
  go_enter Try.func38, Try.ntmps38
  go_wp2_with (go_at_call 20; refine (p_add lb L v _ 1 s q 0 HS.out.at_ (by omega)).mono ?_; rintro e w2 ⟨rfl, v2, hS2⟩; have HS2 := Lib.hid (HS.out.trans hS2); clear hS2)
  go_ret
  exact ⟨rfl, _, HS2.out⟩
set_option maxHeartbeats 1000000 in
set_option maxRecDepth 100000 in
theorem p_laySet (lb : Nat) (w0 : World) (s : S4) (m n : Int) (p : Value) (ps : List NT) (hp : ∃ a l c, p = .slice a l c) : LayOK B lb w0 (.mk 1 s m n p ps) := by
  obtain ⟨a, len, c, rfl⟩ := hp
  intro L q v w h hb h0 hq hg hlen
  have e1 : layT (NT.mk 1 s m n (.slice a len c) ps).pt q L = (L ++ [⟨1, s, q, 0⟩], L.length) := by rw [NT.pt_mk, layT_eq]; rfl
  have e2 : cnt (NT.mk 1 s m n (.slice a len c) ps).pt = 1 := by rw [NT.pt_mk, cnt]; rfl
  rw [e1]
  rw [e2] at hlen
  show Calls Try.prog 21 #[.pointer (some ⟨lb, 0, none⟩), nodeVal 1 s m n (.slice a len c), .int .i64 (q : Nat)] w _
  have HS := Lib.hid ((LS.refl h).alloc (.cells #[.int .i64 1, .int .u64 (s.a : Nat), .int .u64 (s.b : Nat), .int .u64 (s.c : Nat), .int .u64 (s.d : Nat), .int .i64 m, .int .i64 n, .slice a len c] 27))
  have HSD := Lib.hid (HS.out.below ((Below.refl _ _).drew))
  obtain ⟨⟨c0, c1, c2, c3, c4, c5, c6, c7⟩, f0⟩ := HS.out.at_.cells
  clear h hb hg e1 e2
  go_enter Try.func21, Try.ntmps21
  go_wp2
  go_region_with (go_at_call 38; refine (p_setF lb L q v _ 1 s m n a len c HSD.out.at_ (by omega)).mono ?_; rintro e w2 ⟨rfl, v2, hS2⟩; have HS2 := Lib.hid (HSD.out.trans hS2); clear hS2)
  all_goals
    go_wp2
    go_ret
    exact ⟨rfl, _, HS2.out⟩
end Go.Proofs.Ytboebadpohjolaa
