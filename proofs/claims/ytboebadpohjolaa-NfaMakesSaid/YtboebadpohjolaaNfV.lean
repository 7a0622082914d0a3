import Derived.Test.YtboebadpohjolaaNfE
namespace Go.Proofs.Ytboebadpohjolaa
open Go.RowKit

variable {B : Nat}

/-! How a begin, an end and nothing are laid. -/
set_option maxHeartbeats 1000000 in
set_option maxRecDepth 100000 in
theorem n_beginF (lb : Nat) (L : List St) (q : Nat) (v : Value) (w : World) (k : Int) (s : S4) (m n : Int) (a : Option Addr) (len c : Nat) (h : LC B w lb L v) (hlen : L.length ≤ 1048575) :
    Calls Try.prog 39 #[.pointer (some ⟨lb, 0, none⟩), nodeVal k s m n (.slice a len c), .int .i64 (q : Nat)] w fun e w' => LRet B lb v (L ++ [⟨3, .zero, q, 0⟩]) L.length w e w' := by
  have HS := Lib.hid ((LS.refl h).alloc (.cells #[.int .i64 k, .int .u64 (s.a : Nat), .int .u64 (s.b : Nat), .int .u64 (s.c : Nat), .int .u64 (s.d : Nat), .int .i64 m, .int .i64 n, .slice a len c] 27))
  clear h
  go_enter Try.func39, Try.ntmps39
  go_wp2_with (go_at_call 20; refine (p_add lb L v _ 3 .zero q 0 HS.out.at_ (by omega)).mono ?_; rintro e w2 ⟨rfl, v2, hS2⟩; have HS2 := Lib.hid (HS.out.trans hS2); clear hS2)
  go_ret
  exact ⟨rfl, _, HS2.out⟩
set_option maxHeartbeats 1000000 in
set_option maxRecDepth 100000 in
theorem n_layBegin (lb : Nat) (w0 : World) (s : S4) (m n : Int) (p : Value) (ps : List NT) (hp : ∃ a l c, p = .slice a l c) : LayOK B lb w0 (.mk 2 s m n p ps) := by
  obtain ⟨a, len, c, rfl⟩ := hp
  intro L q v w h hb h0 hq hg hlen
  have e1 : layT (NT.mk 2 s m n (.slice a len c) ps).pt q L = (L ++ [⟨3, .zero, q, 0⟩], L.length) := by rw [NT.pt_mk, layT_eq]; rfl
  have e2 : cnt (NT.mk 2 s m n (.slice a len c) ps).pt = 1 := by rw [NT.pt_mk, cnt]; rfl
  rw [e1]
  rw [e2] at hlen
  show Calls Try.prog 21 #[.pointer (some ⟨lb, 0, none⟩), nodeVal 2 s m n (.slice a len c), .int .i64 (q : Nat)] w _
  have HS := Lib.hid ((LS.refl h).alloc (.cells #[.int .i64 2, .int .u64 (s.a : Nat), .int .u64 (s.b : Nat), .int .u64 (s.c : Nat), .int .u64 (s.d : Nat), .int .i64 m, .int .i64 n, .slice a len c] 27))
  have HSD := Lib.hid (HS.out.below ((Below.refl _ _).drew))
  obtain ⟨⟨c0, c1, c2, c3, c4, c5, c6, c7⟩, f0⟩ := HS.out.at_.cells
  clear h hb hg e1 e2
  go_enter Try.func21, Try.ntmps21
  go_wp2
  go_region_with (go_at_call 39; refine (n_beginF lb L q v _ 2 s m n a len c HSD.out.at_ (by omega)).mono ?_; rintro e w2 ⟨rfl, v2, hS2⟩; have HS2 := Lib.hid (HSD.out.trans hS2); clear hS2)
  all_goals
    go_wp2
    go_ret
    exact ⟨rfl, _, HS2.out⟩
set_option maxHeartbeats 1000000 in
set_option maxRecDepth 100000 in
theorem n_endF (lb : Nat) (L : List St) (q : Nat) (v : Value) (w : World) (k : Int) (s : S4) (m n : Int) (a : Option Addr) (len c : Nat) (h : LC B w lb L v) (hlen : L.length ≤ 1048575) :
    Calls Try.prog 40 #[.pointer (some ⟨lb, 0, none⟩), nodeVal k s m n (.slice a len c), .int .i64 (q : Nat)] w fun e w' => LRet B lb v (L ++ [⟨4, .zero, q, 0⟩]) L.length w e w' := by
  have HS := Lib.hid ((LS.refl h).alloc (.cells #[.int .i64 k, .int .u64 (s.a : Nat), .int .u64 (s.b : Nat), .int .u64 (s.c : Nat), .int .u64 (s.d : Nat), .int .i64 m, .int .i64 n, .slice a len c] 27))
  clear h
  go_enter Try.func40, Try.ntmps40
  go_wp2_with (go_at_call 20; refine (p_add lb L v _ 4 .zero q 0 HS.out.at_ (by omega)).mono ?_; rintro e w2 ⟨rfl, v2, hS2⟩; have HS2 := Lib.hid (HS.out.trans hS2); clear hS2)
  go_ret
  exact ⟨rfl, _, HS2.out⟩
set_option maxHeartbeats 1000000 in
set_option maxRecDepth 100000 in
theorem n_layEnd (lb : Nat) (w0 : World) (s : S4) (m n : Int) (p : Value) (ps : List NT) (hp : ∃ a l c, p = .slice a l c) : LayOK B lb w0 (.mk 3 s m n p ps) := by
  obtain ⟨a, len, c, rfl⟩ := hp
  intro L q v w h hb h0 hq hg hlen
  have e1 : layT (NT.mk 3 s m n (.slice a len c) ps).pt q L = (L ++ [⟨4, .zero, q, 0⟩], L.length) := by rw [NT.pt_mk, layT_eq]; rfl
  have e2 : cnt (NT.mk 3 s m n (.slice a len c) ps).pt = 1 := by rw [NT.pt_mk, cnt]; rfl
  rw [e1]
  rw [e2] at hlen
  show Calls Try.prog 21 #[.pointer (some ⟨lb, 0, none⟩), nodeVal 3 s m n (.slice a len c), .int .i64 (q : Nat)] w _
  have HS := Lib.hid ((LS.refl h).alloc (.cells #[.int .i64 3, .int .u64 (s.a : Nat), .int .u64 (s.b : Nat), .int .u64 (s.c : Nat), .int .u64 (s.d : Nat), .int .i64 m, .int .i64 n, .slice a len c] 27))
  have HSD := Lib.hid (HS.out.below ((Below.refl _ _).drew))
  obtain ⟨⟨c0, c1, c2, c3, c4, c5, c6, c7⟩, f0⟩ := HS.out.at_.cells
  clear h hb hg e1 e2
  go_enter Try.func21, Try.ntmps21
  go_wp2
  go_region_with (go_at_call 40; refine (n_endF lb L q v _ 3 s m n a len c HSD.out.at_ (by omega)).mono ?_; rintro e w2 ⟨rfl, v2, hS2⟩; have HS2 := Lib.hid (HSD.out.trans hS2); clear hS2)
  all_goals
    go_wp2
    go_ret
    exact ⟨rfl, _, HS2.out⟩
set_option maxHeartbeats 1000000 in
set_option maxRecDepth 100000 in
theorem n_noneF (lb : Nat) (L : List St) (q : Nat) (v : Value) (w : World) (k : Int) (s : S4) (m n : Int) (a : Option Addr) (len c : Nat) (h : LC B w lb L v) :
    Calls Try.prog 37 #[.pointer (some ⟨lb, 0, none⟩), nodeVal k s m n (.slice a len c), .int .i64 (q : Nat)] w fun e w' => LRet B lb v L q w e w' := by
  have HS := Lib.hid ((LS.refl h).alloc (.cells #[.int .i64 k, .int .u64 (s.a : Nat), .int .u64 (s.b : Nat), .int .u64 (s.c : Nat), .int .u64 (s.d : Nat), .int .i64 m, .int .i64 n, .slice a len c] 27))
  clear h
  go_enter Try.func37, Try.ntmps37
  go_wp2
  go_ret
  exact ⟨rfl, _, HS.out⟩
set_option maxHeartbeats 1000000 in
set_option maxRecDepth 100000 in
theorem n_layNone (lb : Nat) (w0 : World) (s : S4) (m n : Int) (p : Value) (ps : List NT) (hp : ∃ a l c, p = .slice a l c) : LayOK B lb w0 (.mk 0 s m n p ps) := by
  obtain ⟨a, len, c, rfl⟩ := hp
  intro L q v w h hb h0 hq hg hlen
  have e1 : layT (NT.mk 0 s m n (.slice a len c) ps).pt q L = (L, q) := by rw [NT.pt_mk, layT_eq]; rfl
  have e2 : cnt (NT.mk 0 s m n (.slice a len c) ps).pt = 0 := by rw [NT.pt_mk, cnt]; rfl
  rw [e1]
  rw [e2] at hlen
  show Calls Try.prog 21 #[.pointer (some ⟨lb, 0, none⟩), nodeVal 0 s m n (.slice a len c), .int .i64 (q : Nat)] w _
  have HS := Lib.hid ((LS.refl h).alloc (.cells #[.int .i64 0, .int .u64 (s.a : Nat), .int .u64 (s.b : Nat), .int .u64 (s.c : Nat), .int .u64 (s.d : Nat), .int .i64 m, .int .i64 n, .slice a len c] 27))
  have HSD := Lib.hid (HS.out.below ((Below.refl _ _).drew))
  obtain ⟨⟨c0, c1, c2, c3, c4, c5, c6, c7⟩, f0⟩ := HS.out.at_.cells
  clear h hb hg e1 e2
  go_enter Try.func21, Try.ntmps21
  go_wp2
  go_region_with (go_at_call 37; refine (n_noneF lb L q v _ 0 s m n a len c HSD.out.at_).mono ?_; rintro e w2 ⟨rfl, v2, hS2⟩; have HS2 := Lib.hid (HSD.out.trans hS2); clear hS2)
  all_goals
    go_wp2
    go_ret
    exact ⟨rfl, _, HS2.out⟩
end Go.Proofs.Ytboebadpohjolaa
