import Derived.Test.YtkghgfiindpcjaaDeE
import Derived.Defers
import Derived.Recover
import Derived.Laws.Pointers
import Derived.Laws.NewBlocks
namespace Go.Proofs.Ytkghgfiindpcjaa
open Go.RowKit

/-! What is given up is caught. -/
theorem run_assert_ref (xT : TypeId) (v : Value) (w : World) : (Instr.typeAssert (.iface 84 v) xT 84 false).run Try.prog w = .ok v w := by
  simp [Instr.typeAssert, run_underlying Try.underlying84, go_sem, Result.andThen]
theorem frozen_alloc {w : World} {g : Nat} {cs : Array Value} {T : TypeId} {i : Nat} (h : w.heap[g]? = some (.cells cs T (0, 0))) : w.frozen? ⟨g, i, none⟩ = false := by simp [World.frozen?, h]
theorem cell_alloc {w : World} {g : Nat} {cs : Array Value} {T : TypeId} {i : Nat} (h : w.heap[g]? = some (.cells cs T (0, 0))) : w.cell? ⟨g, i, none⟩ = cs[i]? := by simp [World.cell?, h]
def KeepE (g : Nat) (Post : Ending → World → Prop) : Prop := ∀ e w', Post e w' → w'.heap[g]? = some (.cells #[.int .i64 0] 24 (0, 0)) ∧ ((∃ v, e = .returned v) ∨ (∃ k, e = pan k))
theorem results_cc {P : Program} {fn : Func} {p q : Tmp} {T E : TypeId} (h : fn.results = #[.cell p T, .cell q E]) {tmps : Array Value} {w : World} {a b : Addr} {v k : Value}
    (hp : tmps.getD p undef = .pointer (some a)) (hq : tmps.getD q undef = .pointer (some b)) (hv : (loadVar T a).run P w = .ok v w) (hk : (loadVar E b).run P w = .ok k w) :
    (results fn tmps).run P w = .ok (.tuple #[v, k]) w := by
  have hp' : tmps[p]?.getD undef = .pointer (some a) := by simpa using hp
  have hq' : tmps[q]?.getD undef = .pointer (some b) := by simpa using hq
  simp [results, h, hp', hq', asAddr, hv, hk, Result.andThen]
theorem infoKy : (Try.prog.info? 40).map (·.size) = some 2 := by kernel_rfl
theorem other_set {w : World} {a b : Nat} {i : Nat} {o : Obj} (h : w.heap[a]? = some o) (hn : b ≠ a) (v : Value) : (w.setCell ⟨b, i, none⟩ v).heap[a]? = some o := by
  rw [Below.heap_setCell _ _ _ _ (fun e => hn e.symm)]; exact h

theorem catch_w_panicking (p : Addr) (x k : Int) (older : List PanicEntry) (w : World) (hc : w.cell? p = some (.int .i64 x)) (hz : w.frozen? p = false) :
    CallsD Try.prog 64 #[.pointer (some p)] (.panicking ({ v := .iface 84 (.int .i64 k), recovered := false } :: older)) w fun e u' w' =>
      e = .returned (.tuple #[]) ∧ u' = .panicking ({ v := .iface 84 (.int .i64 k), recovered := true } :: older) ∧ w' = w.setCell p (.int .i64 k) := by
  refine callsD_of_wpS Try.func64 rfl fun c₀ cs hu => ?_
  apply wpS_seq
  apply wpS_region
  simp [wpOpsS, go_sem, recoverD, hu, Try.ntmps64, Exit.thenS]
  apply wpS_seq
  apply wpS_region
  simp [wpOpsS, go_sem, Exit.thenS]
  refine wpS_cond (t := true) (by simp [Act.eval, Array.replicate]) ?_
  simp only [if_true]
  apply wpS_region
  simp [wpOpsS, go_sem, run_assert_ref, hc, hz, bodyPostS, results, Try.results64]

theorem catch_w_idle (p : Addr) (w : World) :
    CallsD Try.prog 64 #[.pointer (some p)] .returning w fun e u' w' => e = .returned (.tuple #[]) ∧ u' = .returning ∧ w' = w := by
  refine callsD_of_wpS Try.func64 rfl fun c₀ cs hu => ?_
  apply wpS_seq
  apply wpS_region
  simp [wpOpsS, go_sem, recoverD, hu, Try.ntmps64, Exit.thenS]
  apply wpS_seq
  apply wpS_region
  simp [wpOpsS, go_sem, Exit.thenS]
  refine wpS_cond (t := false) (by simp [Act.eval, Array.replicate]) ?_
  simp only [Bool.false_eq_true, if_false]
  refine wpS_of_wp (wp_skip ?_)
  cases c₀
  simp_all [bodyPostS, results, Try.results64]

set_option maxHeartbeats 800000 in
theorem caught_w (cap : Array Value) (w : World) {Post : Ending → World → Prop} (hcall : Calls Try.prog 41 cap (w.alloc (.cells #[.int .i64 0] 24)) Post) (hpost : KeepE w.heap.size Post) :
    Calls Try.prog 40 #[.func (.func 41) #[] cap] w fun e w' => ∃ e0 w0, Post e0 w0 ∧
      ((∃ v, e0 = .returned v ∧ e = .returned (.tuple #[v, .int .i64 0]) ∧ w' = w0.setCell ⟨w.heap.size, 0, none⟩ (.int .i64 0)) ∨
       (∃ k, e0 = pan k ∧ e = .returned (.tuple #[.slice none 0 0, .int .i64 k]) ∧ w' = w0.setCell ⟨w.heap.size, 0, none⟩ (.int .i64 k))) := by
  have hmf : ∀ (fn : Fn) (first cap : Array Value) (w : World), (Instr.makeFunc fn first cap).run Try.prog w = .ok (.func fn first cap) w := fun _ _ _ _ => rfl
  have HP := Lib.hid hpost
  clear hpost
  go_enter_defers Try.func40, Try.ntmps40
  go_wp2_with fail
  refine hcall.mono ?_
  intro e w1 h1
  obtain ⟨hb, hor⟩ := HP.out e w1 h1
  have HPO := Lib.hid h1
  have hc := cell_alloc (i := 0) hb
  have hz := frozen_alloc (i := 0) hb
  clear hcall HP h1 hb
  rcases hor with ⟨v, rfl⟩ | ⟨k, rfl⟩
  · go_wp2
    refine leaves_cons (f := 64) (args := #[.pointer (some ⟨w.heap.size, 0, none⟩)]) (by simp) (by simp [go_sem]) ?_
    refine (catch_w_idle _ _).mono ?_
    rintro e u' w'' ⟨rfl, rfl, rfl⟩
    refine ⟨_, ?_, _, _, HPO.out, .inl ⟨v, rfl, rfl, rfl⟩⟩
    simp [results, Try.results40, go_sem, hc]
  · go_wp2
    refine leaves_cons (f := 64) (args := #[.pointer (some ⟨w.heap.size, 0, none⟩)]) (by simp) (by simp [go_sem]) ?_
    refine (catch_w_panicking _ 0 k [] _ ?_ hz).mono ?_
    · rw [hc]; rfl
    rintro e u' w'' ⟨rfl, rfl, rfl⟩
    refine ⟨_, ?_, _, _, HPO.out, .inr ⟨k, rfl, rfl, rfl⟩⟩
    simp [results, Try.results40, go_sem, hc]

theorem catch_b_panicking (p : Addr) (x k : Int) (older : List PanicEntry) (w : World) (hc : w.cell? p = some (.int .i64 x)) (hz : w.frozen? p = false) :
    CallsD Try.prog 72 #[.pointer (some p)] (.panicking ({ v := .iface 84 (.int .i64 k), recovered := false } :: older)) w fun e u' w' =>
      e = .returned (.tuple #[]) ∧ u' = .panicking ({ v := .iface 84 (.int .i64 k), recovered := true } :: older) ∧ w' = w.setCell p (.int .i64 k) := by
  refine callsD_of_wpS Try.func72 rfl fun c₀ cs hu => ?_
  apply wpS_seq
  apply wpS_region
  simp [wpOpsS, go_sem, recoverD, hu, Try.ntmps72, Exit.thenS]
  apply wpS_seq
  apply wpS_region
  simp [wpOpsS, go_sem, Exit.thenS]
  refine wpS_cond (t := true) (by simp [Act.eval, Array.replicate]) ?_
  simp only [if_true]
  apply wpS_region
  simp [wpOpsS, go_sem, run_assert_ref, hc, hz, bodyPostS, results, Try.results72]

theorem catch_b_idle (p : Addr) (w : World) :
    CallsD Try.prog 72 #[.pointer (some p)] .returning w fun e u' w' => e = .returned (.tuple #[]) ∧ u' = .returning ∧ w' = w := by
  refine callsD_of_wpS Try.func72 rfl fun c₀ cs hu => ?_
  apply wpS_seq
  apply wpS_region
  simp [wpOpsS, go_sem, recoverD, hu, Try.ntmps72, Exit.thenS]
  apply wpS_seq
  apply wpS_region
  simp [wpOpsS, go_sem, Exit.thenS]
  refine wpS_cond (t := false) (by simp [Act.eval, Array.replicate]) ?_
  simp only [Bool.false_eq_true, if_false]
  refine wpS_of_wp (wp_skip ?_)
  cases c₀
  simp_all [bodyPostS, results, Try.results72]

set_option maxHeartbeats 800000 in
theorem caught_b (cap : Array Value) (w : World) {Post : Ending → World → Prop} (hcall : Calls Try.prog 51 cap (w.alloc (.cells #[.int .i64 0] 24)) Post) (hpost : KeepE w.heap.size Post) :
    Calls Try.prog 50 #[.func (.func 51) #[] cap] w fun e w' => ∃ e0 w0, Post e0 w0 ∧
      ((∃ v, e0 = .returned v ∧ e = .returned (.tuple #[v, .int .i64 0]) ∧ w' = w0.setCell ⟨w.heap.size, 0, none⟩ (.int .i64 0)) ∨
       (∃ k, e0 = pan k ∧ e = .returned (.tuple #[.slice none 0 0, .int .i64 k]) ∧ w' = w0.setCell ⟨w.heap.size, 0, none⟩ (.int .i64 k))) := by
  have hmf : ∀ (fn : Fn) (first cap : Array Value) (w : World), (Instr.makeFunc fn first cap).run Try.prog w = .ok (.func fn first cap) w := fun _ _ _ _ => rfl
  have HP := Lib.hid hpost
  clear hpost
  go_enter_defers Try.func50, Try.ntmps50
  go_wp2_with fail
  refine hcall.mono ?_
  intro e w1 h1
  obtain ⟨hb, hor⟩ := HP.out e w1 h1
  have HPO := Lib.hid h1
  have hc := cell_alloc (i := 0) hb
  have hz := frozen_alloc (i := 0) hb
  clear hcall HP h1 hb
  rcases hor with ⟨v, rfl⟩ | ⟨k, rfl⟩
  · go_wp2
    refine leaves_cons (f := 72) (args := #[.pointer (some ⟨w.heap.size, 0, none⟩)]) (by simp) (by simp [go_sem]) ?_
    refine (catch_b_idle _ _).mono ?_
    rintro e u' w'' ⟨rfl, rfl, rfl⟩
    refine ⟨_, ?_, _, _, HPO.out, .inl ⟨v, rfl, rfl, rfl⟩⟩
    simp [results, Try.results50, go_sem, hc]
  · go_wp2
    refine leaves_cons (f := 72) (args := #[.pointer (some ⟨w.heap.size, 0, none⟩)]) (by simp) (by simp [go_sem]) ?_
    refine (catch_b_panicking _ 0 k [] _ ?_ hz).mono ?_
    · rw [hc]; rfl
    rintro e u' w'' ⟨rfl, rfl, rfl⟩
    refine ⟨_, ?_, _, _, HPO.out, .inr ⟨k, rfl, rfl, rfl⟩⟩
    simp [results, Try.results50, go_sem, hc]

theorem catch_i_panicking (p : Addr) (x k : Int) (older : List PanicEntry) (w : World) (hc : w.cell? p = some (.int .i64 x)) (hz : w.frozen? p = false) :
    CallsD Try.prog 61 #[.pointer (some p)] (.panicking ({ v := .iface 84 (.int .i64 k), recovered := false } :: older)) w fun e u' w' =>
      e = .returned (.tuple #[]) ∧ u' = .panicking ({ v := .iface 84 (.int .i64 k), recovered := true } :: older) ∧ w' = w.setCell p (.int .i64 k) := by
  refine callsD_of_wpS Try.func61 rfl fun c₀ cs hu => ?_
  apply wpS_seq
  apply wpS_region
  simp [wpOpsS, go_sem, recoverD, hu, Try.ntmps61, Exit.thenS]
  apply wpS_seq
  apply wpS_region
  simp [wpOpsS, go_sem, Exit.thenS]
  refine wpS_cond (t := true) (by simp [Act.eval, Array.replicate]) ?_
  simp only [if_true]
  apply wpS_region
  simp [wpOpsS, go_sem, run_assert_ref, hc, hz, bodyPostS, results, Try.results61]

theorem catch_i_idle (p : Addr) (w : World) :
    CallsD Try.prog 61 #[.pointer (some p)] .returning w fun e u' w' => e = .returned (.tuple #[]) ∧ u' = .returning ∧ w' = w := by
  refine callsD_of_wpS Try.func61 rfl fun c₀ cs hu => ?_
  apply wpS_seq
  apply wpS_region
  simp [wpOpsS, go_sem, recoverD, hu, Try.ntmps61, Exit.thenS]
  apply wpS_seq
  apply wpS_region
  simp [wpOpsS, go_sem, Exit.thenS]
  refine wpS_cond (t := false) (by simp [Act.eval, Array.replicate]) ?_
  simp only [Bool.false_eq_true, if_false]
  refine wpS_of_wp (wp_skip ?_)
  cases c₀
  simp_all [bodyPostS, results, Try.results61]

def Keep_i (g : Nat) (Post : Ending → World → Prop) : Prop := ∀ e w', Post e w' → w'.heap[g]? = some (.cells #[.int .u8 0, .int .i64 0, .int .i64 0] 59 (0, 0)) ∧ w'.heap[g + 1]? = some (.cells #[.int .i64 0] 24 (0, 0)) ∧ ((∃ (x y z : Int), e = .returned (.agg #[.int .u8 x, .int .i64 y, .int .i64 z])) ∨ (∃ k, e = pan k))
set_option maxHeartbeats 1600000 in
set_option maxRecDepth 100000 in
theorem caught_i (cap : Array Value) (w : World) {Post : Ending → World → Prop} (hcall : Calls Try.prog 38 cap ((w.alloc (.cells #[.int .u8 0, .int .i64 0, .int .i64 0] 59)).alloc (.cells #[.int .i64 0] 24)) Post) (hpost : Keep_i w.heap.size Post) :
    Calls Try.prog 37 #[.func (.func 38) #[] cap] w fun e w' => ∃ e0 w0, Post e0 w0 ∧
      ((∃ (x y z : Int), e0 = .returned (.agg #[.int .u8 x, .int .i64 y, .int .i64 z]) ∧ e = .returned (.tuple #[.agg #[.int .u8 x, .int .i64 y, .int .i64 z], .int .i64 0]) ∧ w' = (((w0.setCell ⟨w.heap.size, 0, none⟩ (.int .u8 x)).setCell ⟨w.heap.size, 1, none⟩ (.int .i64 y)).setCell ⟨w.heap.size, 2, none⟩ (.int .i64 z)).setCell ⟨w.heap.size + 1, 0, none⟩ (.int .i64 0)) ∨
       (∃ k, e0 = pan k ∧ e = .returned (.tuple #[.agg #[.int .u8 0, .int .i64 0, .int .i64 0], .int .i64 k]) ∧ w' = w0.setCell ⟨w.heap.size + 1, 0, none⟩ (.int .i64 k))) := by
  have hmf : ∀ (fn : Fn) (first cap : Array Value) (w : World), (Instr.makeFunc fn first cap).run Try.prog w = .ok (.func fn first cap) w := fun _ _ _ _ => rfl
  have HP := Lib.hid hpost
  clear hpost
  go_enter_defers Try.func37, Try.ntmps37
  go_wp2_with fail
  refine hcall.mono ?_
  intro e w1 h1
  obtain ⟨hb0, hb, hor⟩ := HP.out e w1 h1
  have HPO := Lib.hid h1
  have hc : w1.cell? ⟨w.heap.size + 1, 0, none⟩ = some (.int .i64 0) := cell_alloc (i := 0) hb
  have hz := frozen_alloc (i := 0) hb
  have H0 := Lib.hid hb0
  have HB := Lib.hid hb
  have hc0 : w1.cell? ⟨w.heap.size, 0, none⟩ = some (.int .u8 0) := cell_alloc (i := 0) hb0
  have hz0 := frozen_alloc (i := 0) hb0
  have hc1 : w1.cell? ⟨w.heap.size, 1, none⟩ = some (.int .i64 0) := cell_alloc (i := 1) hb0
  have hz1 := frozen_alloc (i := 1) hb0
  have hc2 : w1.cell? ⟨w.heap.size, 2, none⟩ = some (.int .i64 0) := cell_alloc (i := 2) hb0
  have hz2 := frozen_alloc (i := 2) hb0
  clear hcall HP h1 hb hb0
  rcases hor with ⟨x, y, z, rfl⟩ | ⟨k, rfl⟩
  · go_wp2
    refine leaves_cons (f := 61) (args := #[.pointer (some ⟨w.heap.size + 1, 0, none⟩)]) (by simp) (by simp [go_sem]) ?_
    refine (catch_i_idle _ _).mono ?_
    rintro e u' w'' ⟨rfl, rfl, rfl⟩
    refine ⟨_, ?_, _, _, HPO.out, .inl ⟨x, y, z, rfl, rfl, rfl⟩⟩
    have hb0 := H0.out
    have hb := HB.out
    have b0 := heap_setCell_same _ w.heap.size 0 _ _ (.int .u8 x) hb0
    have b1 := heap_setCell_same _ w.heap.size 1 _ _ (.int .i64 y) b0
    have b2 := heap_setCell_same _ w.heap.size 2 _ _ (.int .i64 z) b1
    have o0 := other_set (i := 0) hb (show w.heap.size ≠ w.heap.size + 1 by omega) (.int .u8 x)
    have o1 := other_set (i := 1) o0 (show w.heap.size ≠ w.heap.size + 1 by omega) (.int .i64 y)
    have o2 := other_set (i := 2) o1 (show w.heap.size ≠ w.heap.size + 1 by omega) (.int .i64 z)
    have q0 := other_set (i := 0) b2 (show w.heap.size + 1 ≠ w.heap.size by omega) (.int .i64 0)
    have q1 := heap_setCell_same _ (w.heap.size + 1) 0 _ _ (.int .i64 0) o2
    have q2 := cell_alloc (i := 0) q1
    exact results_cc rfl rfl rfl (run_loadVar_row _ w.heap.size _ 59 #[.int .u8 x, .int .i64 y, .int .i64 z] _ _ q0 Try.underlying59 rfl infoIt) (by simp [go_sem, q2])
  · go_wp2
    refine leaves_cons (f := 61) (args := #[.pointer (some ⟨w.heap.size + 1, 0, none⟩)]) (by simp) (by simp [go_sem]) ?_
    refine (catch_i_panicking _ 0 k [] _ ?_ hz).mono ?_
    · exact hc
    rintro e u' w'' ⟨rfl, rfl, rfl⟩
    refine ⟨_, ?_, _, _, HPO.out, .inr ⟨k, rfl, rfl, rfl⟩⟩
    have hb0 := H0.out
    have hb := HB.out
    have q0 := other_set (i := 0) hb0 (show w.heap.size + 1 ≠ w.heap.size by omega) (.int .i64 k)
    have q1 := heap_setCell_same _ (w.heap.size + 1) 0 _ _ (.int .i64 k) hb
    have q2 := cell_alloc (i := 0) q1
    exact results_cc rfl rfl rfl (run_loadVar_row _ w.heap.size _ 59 #[.int .u8 0, .int .i64 0, .int .i64 0] _ _ q0 Try.underlying59 rfl infoIt) (by simp [go_sem, q2])

theorem catch_k_panicking (p : Addr) (x k : Int) (older : List PanicEntry) (w : World) (hc : w.cell? p = some (.int .i64 x)) (hz : w.frozen? p = false) :
    CallsD Try.prog 70 #[.pointer (some p)] (.panicking ({ v := .iface 84 (.int .i64 k), recovered := false } :: older)) w fun e u' w' =>
      e = .returned (.tuple #[]) ∧ u' = .panicking ({ v := .iface 84 (.int .i64 k), recovered := true } :: older) ∧ w' = w.setCell p (.int .i64 k) := by
  refine callsD_of_wpS Try.func70 rfl fun c₀ cs hu => ?_
  apply wpS_seq
  apply wpS_region
  simp [wpOpsS, go_sem, recoverD, hu, Try.ntmps70, Exit.thenS]
  apply wpS_seq
  apply wpS_region
  simp [wpOpsS, go_sem, Exit.thenS]
  refine wpS_cond (t := true) (by simp [Act.eval, Array.replicate]) ?_
  simp only [if_true]
  apply wpS_region
  simp [wpOpsS, go_sem, run_assert_ref, hc, hz, bodyPostS, results, Try.results70]

theorem catch_k_idle (p : Addr) (w : World) :
    CallsD Try.prog 70 #[.pointer (some p)] .returning w fun e u' w' => e = .returned (.tuple #[]) ∧ u' = .returning ∧ w' = w := by
  refine callsD_of_wpS Try.func70 rfl fun c₀ cs hu => ?_
  apply wpS_seq
  apply wpS_region
  simp [wpOpsS, go_sem, recoverD, hu, Try.ntmps70, Exit.thenS]
  apply wpS_seq
  apply wpS_region
  simp [wpOpsS, go_sem, Exit.thenS]
  refine wpS_cond (t := false) (by simp [Act.eval, Array.replicate]) ?_
  simp only [Bool.false_eq_true, if_false]
  refine wpS_of_wp (wp_skip ?_)
  cases c₀
  simp_all [bodyPostS, results, Try.results70]

def Keep_k (g : Nat) (Post : Ending → World → Prop) : Prop := ∀ e w', Post e w' → w'.heap[g]? = some (.cells #[.slice none 0 0, .slice none 0 0] 40 (0, 0)) ∧ w'.heap[g + 1]? = some (.cells #[.int .i64 0] 24 (0, 0)) ∧ ((∃ (a1 : Option Addr) (n1 c1 : Nat) (a2 : Option Addr) (n2 c2 : Nat), e = .returned (.agg #[.slice a1 n1 c1, .slice a2 n2 c2])) ∨ (∃ k, e = pan k))
set_option maxHeartbeats 1600000 in
set_option maxRecDepth 100000 in
theorem caught_k (cap : Array Value) (w : World) {Post : Ending → World → Prop} (hcall : Calls Try.prog 46 cap ((w.alloc (.cells #[.slice none 0 0, .slice none 0 0] 40)).alloc (.cells #[.int .i64 0] 24)) Post) (hpost : Keep_k w.heap.size Post) :
    Calls Try.prog 45 #[.func (.func 46) #[] cap] w fun e w' => ∃ e0 w0, Post e0 w0 ∧
      ((∃ (a1 : Option Addr) (n1 c1 : Nat) (a2 : Option Addr) (n2 c2 : Nat), e0 = .returned (.agg #[.slice a1 n1 c1, .slice a2 n2 c2]) ∧ e = .returned (.tuple #[.agg #[.slice a1 n1 c1, .slice a2 n2 c2], .int .i64 0]) ∧ w' = ((w0.setCell ⟨w.heap.size, 0, none⟩ (.slice a1 n1 c1)).setCell ⟨w.heap.size, 1, none⟩ (.slice a2 n2 c2)).setCell ⟨w.heap.size + 1, 0, none⟩ (.int .i64 0)) ∨
       (∃ k, e0 = pan k ∧ e = .returned (.tuple #[.agg #[.slice none 0 0, .slice none 0 0], .int .i64 k]) ∧ w' = w0.setCell ⟨w.heap.size + 1, 0, none⟩ (.int .i64 k))) := by
  have hmf : ∀ (fn : Fn) (first cap : Array Value) (w : World), (Instr.makeFunc fn first cap).run Try.prog w = .ok (.func fn first cap) w := fun _ _ _ _ => rfl
  have HP := Lib.hid hpost
  clear hpost
  go_enter_defers Try.func45, Try.ntmps45
  go_wp2_with fail
  refine hcall.mono ?_
  intro e w1 h1
  obtain ⟨hb0, hb, hor⟩ := HP.out e w1 h1
  have HPO := Lib.hid h1
  have hc : w1.cell? ⟨w.heap.size + 1, 0, none⟩ = some (.int .i64 0) := cell_alloc (i := 0) hb
  have hz := frozen_alloc (i := 0) hb
  have H0 := Lib.hid hb0
  have HB := Lib.hid hb
  have hc0 : w1.cell? ⟨w.heap.size, 0, none⟩ = some (.slice none 0 0) := cell_alloc (i := 0) hb0
  have hz0 := frozen_alloc (i := 0) hb0
  have hc1 : w1.cell? ⟨w.heap.size, 1, none⟩ = some (.slice none 0 0) := cell_alloc (i := 1) hb0
  have hz1 := frozen_alloc (i := 1) hb0
  clear hcall HP h1 hb hb0
  rcases hor with ⟨a1, n1, c1, a2, n2, c2, rfl⟩ | ⟨k, rfl⟩
  · go_wp2
    refine leaves_cons (f := 70) (args := #[.pointer (some ⟨w.heap.size + 1, 0, none⟩)]) (by simp) (by simp [go_sem]) ?_
    refine (catch_k_idle _ _).mono ?_
    rintro e u' w'' ⟨rfl, rfl, rfl⟩
    refine ⟨_, ?_, _, _, HPO.out, .inl ⟨a1, n1, c1, a2, n2, c2, rfl, rfl, rfl⟩⟩
    have hb0 := H0.out
    have hb := HB.out
    have b0 := heap_setCell_same _ w.heap.size 0 _ _ (.slice a1 n1 c1) hb0
    have b1 := heap_setCell_same _ w.heap.size 1 _ _ (.slice a2 n2 c2) b0
    have o0 := other_set (i := 0) hb (show w.heap.size ≠ w.heap.size + 1 by omega) (.slice a1 n1 c1)
    have o1 := other_set (i := 1) o0 (show w.heap.size ≠ w.heap.size + 1 by omega) (.slice a2 n2 c2)
    have q0 := other_set (i := 0) b1 (show w.heap.size + 1 ≠ w.heap.size by omega) (.int .i64 0)
    have q1 := heap_setCell_same _ (w.heap.size + 1) 0 _ _ (.int .i64 0) o1
    have q2 := cell_alloc (i := 0) q1
    exact results_cc rfl rfl rfl (run_loadVar_row _ w.heap.size _ 40 #[.slice a1 n1 c1, .slice a2 n2 c2] _ _ q0 Try.underlying40 rfl infoKy) (by simp [go_sem, q2])
  · go_wp2
    refine leaves_cons (f := 70) (args := #[.pointer (some ⟨w.heap.size + 1, 0, none⟩)]) (by simp) (by simp [go_sem]) ?_
    refine (catch_k_panicking _ 0 k [] _ ?_ hz).mono ?_
    · exact hc
    rintro e u' w'' ⟨rfl, rfl, rfl⟩
    refine ⟨_, ?_, _, _, HPO.out, .inr ⟨k, rfl, rfl, rfl⟩⟩
    have hb0 := H0.out
    have hb := HB.out
    have q0 := other_set (i := 0) hb0 (show w.heap.size + 1 ≠ w.heap.size by omega) (.int .i64 k)
    have q1 := heap_setCell_same _ (w.heap.size + 1) 0 _ _ (.int .i64 k) hb
    have q2 := cell_alloc (i := 0) q1
    exact results_cc rfl rfl rfl (run_loadVar_row _ w.heap.size _ 40 #[.slice none 0 0, .slice none 0 0] _ _ q0 Try.underlying40 rfl infoKy) (by simp [go_sem, q2])
end Go.Proofs.Ytkghgfiindpcjaa
