import Derived.Test.YtkghgfiindpcjaaDeF
import Derived.Deep.QuietTactic
import Derived.BigQuiet
namespace Go.Proofs.Ytkghgfiindpcjaa
open Go.RowKit

/-! The program's Item. -/
theorem rd_alloc {w : World} {a : Option Addr} {b : List Nat} (h : Rd .u8 w a b) (o : Obj) : Rd .u8 (w.alloc o) a b := h.below ((Below.refl _ _).alloc (Nat.le_refl _) _)

set_option maxHeartbeats 800000 in
set_option maxRecDepth 100000 in
theorem itemClo_any (p q : Addr) (a : Option Addr) (len cap : Nat) (b : List Nat) (at' : Int) (w : World) (hp : w.cell? p = some (.slice a len cap)) (hq : w.cell? q = some (.int .i64 at')) (hl : b.length = len) (hbig : len ≤ 1099511627776) (hcap : len ≤ cap) (h8 : B8 b) (hr : Rd .u8 w a b) (ha1 : -9223372036854775808 ≤ at') (ha2 : at' ≤ 9223372036854775807) :
    Calls Try.prog 38 #[.pointer (some p), .pointer (some q)] w (ItemPost b (itemI b at') w) := by
  have HL := Lib.hid hl
  have HR := Lib.hid hr
  have H8 := Lib.hid h8
  have hp' : (w.alloc (.cells #[.int .u8 0, .int .i64 0, .int .i64 0] 59)).cell? p = some (.slice a len cap) := below_cell ((Below.refl _ _).alloc (Nat.le_refl _) _) _ _ hp
  have hq' : (w.alloc (.cells #[.int .u8 0, .int .i64 0, .int .i64 0] 59)).cell? q = some (.int .i64 at') := below_cell ((Below.refl _ _).alloc (Nat.le_refl _) _) _ _ hq
  have hbP := World.block_lt_of_cell? w p hp
  have hbQ := World.block_lt_of_cell? w q hq
  clear hl hr h8
  go_enter Try.func38, Try.ntmps38
  go_wp2_with fail
  refine (itemAt_any a len cap b at' _ HL.out hbig hcap H8.out (rd_alloc HR.out _) ha1 ha2).mono ?_
  rintro e w1 ⟨hb1, hor⟩
  have hblk : w1.heap[w.heap.size]? = some (.cells #[.int .u8 0, .int .i64 0, .int .i64 0] 59 (0, 0)) := by
    rw [hb1.block _ (by simp)]
    exact heap_new _ _
  have hB0 : Below w.heap.size w w1 := ((Below.refl w.heap.size w).alloc (Nat.le_refl _) (.cells #[.int .u8 0, .int .i64 0, .int .i64 0] 59)).trans (hb1.mono (by simp))
  have HB := Lib.hid hB0
  have HBLK := Lib.hid hblk
  have hc0 : w1.cell? ⟨w.heap.size, 0, none⟩ = some (.int .u8 0) := cell_alloc (i := 0) hblk
  have hc1 : w1.cell? ⟨w.heap.size, 1, none⟩ = some (.int .i64 0) := cell_alloc (i := 1) hblk
  have hc2 : w1.cell? ⟨w.heap.size, 2, none⟩ = some (.int .i64 0) := cell_alloc (i := 2) hblk
  have hz0 := frozen_alloc (i := 0) hblk
  have hz1 := frozen_alloc (i := 1) hblk
  have hz2 := frozen_alloc (i := 2) hblk
  clear hb1 hB0 hblk hp hq hp' hq'
  rcases hor with ⟨t, f, o, hi, rfl⟩ | ⟨k, hk, hi, rfl⟩
  · have HI := Lib.hid hi
    clear hi
    go_wp2
    have b0 := heap_setCell_same _ w.heap.size 0 _ _ (.int .u8 (t : Nat)) HBLK.out
    have b1 := heap_setCell_same _ w.heap.size 1 _ _ (.int .i64 (f : Nat)) b0
    have b2 := heap_setCell_same _ w.heap.size 2 _ _ (.int .i64 (o : Nat)) b1
    refine bodyPost_end (results_It rfl rfl b2) rfl ⟨?_, .inl ⟨_, _, _, HI.out, rfl⟩⟩
    exact (((HB.out).setCell (Nat.le_refl _) _).setCell (Nat.le_refl _) _).setCell (Nat.le_refl _) _
  · have HI := Lib.hid hi
    clear hi
    go_wp2
    exact ⟨rfl, HB.out, .inr ⟨k, hk, HI.out, rfl⟩⟩
theorem results_tmp4 {fn : Func} {t u v x : Tmp} (h : fn.results = #[.tmp t, .tmp u, .tmp v, .tmp x]) (tmps : Array Value) (P : Program) (w : World) :
    (results fn tmps).run P w = .ok (.tuple #[tmps.getD t undef, tmps.getD u undef, tmps.getD v undef, tmps.getD x undef]) w := by
  simp [results, h]
theorem kept2 {W w' : World} {A B : Obj} (hb : Below ((W.alloc A).alloc B).heap.size ((W.alloc A).alloc B) w') : w'.heap[W.heap.size]? = some A ∧ w'.heap[W.heap.size + 1]? = some B := by
  constructor
  · rw [hb.block _ (by simp; omega), heap_alloc2_old]
  · rw [hb.block _ (by simp), heap_alloc2_new]
theorem keepI {b : List Nat} {i : Int × Nat × Nat × Nat} {W : World} : Keep_i W.heap.size (ItemPost b i ((W.alloc (.cells #[.int .u8 0, .int .i64 0, .int .i64 0] 59)).alloc (.cells #[.int .i64 0] 24))) := by
  rintro e w' ⟨hb, hor⟩
  obtain ⟨h1, h2⟩ := kept2 hb
  refine ⟨h1, h2, ?_⟩
  rcases hor with ⟨t, f, o, _, rfl⟩ | ⟨k, _, _, rfl⟩
  · exact .inl ⟨_, _, _, rfl⟩
  · exact .inr ⟨_, rfl⟩

def ItPost (b : List Nat) (at' : Int) (w : World) (e : Ending) (w' : World) : Prop :=
  Below w.heap.size w w' ∧ ∃ (k : Int) (t f o : Nat), itemI b at' = (k, t, f, o) ∧ e = .returned (.tuple #[.int .u8 (t : Nat), .int .i64 (f : Nat), .int .i64 (o : Nat), .int .i64 k])
set_option maxHeartbeats 800000 in
set_option maxRecDepth 100000 in
theorem item_any (a : Option Addr) (len cap : Nat) (b : List Nat) (at' : Int) (w : World) (hl : b.length = len) (hbig : len ≤ 1099511627776) (hcap : len ≤ cap) (h8 : B8 b) (hr : Rd .u8 w a b) (ha1 : -9223372036854775808 ≤ at') (ha2 : at' ≤ 9223372036854775807) :
    Calls Try.prog 11 #[.slice a len cap, .int .i64 at'] w (ItPost b at' w) := by
  have hmf : ∀ (fn : Fn) (first cap : Array Value) (w : World), (Instr.makeFunc fn first cap).run Try.prog w = .ok (.func fn first cap) w := fun _ _ _ _ => rfl
  have HL := Lib.hid hl
  have HR := Lib.hid hr
  have H8 := Lib.hid h8
  clear hl hr h8
  go_enter Try.func11, Try.ntmps11
  go_wp2_with fail
  obtain ⟨W0, hW0⟩ : ∃ W0, W0 = (w.alloc (.cells #[.slice a len cap] 22)).alloc (.cells #[.int .i64 at'] 3) := ⟨_, rfl⟩
  have hB0 : Below w.heap.size w W0 := by rw [hW0]; exact ((Below.refl _ _).alloc (Nat.le_refl _) _).alloc (by simp) _
  have hcp : W0.cell? ⟨w.heap.size, 0, none⟩ = some (.slice a len cap) := by rw [hW0]; exact cell_alloc (i := 0) (heap_alloc2_old _ _ _)
  have hcq : W0.cell? ⟨w.heap.size + 1, 0, none⟩ = some (.int .i64 at') := by rw [hW0]; exact cell_alloc (i := 0) (heap_alloc2_new _ _ _)
  rw [← hW0]
  have HB0 := Lib.hid hB0
  have hR2 : Rd .u8 ((W0.alloc (.cells #[.int .u8 0, .int .i64 0, .int .i64 0] 59)).alloc (.cells #[.int .i64 0] 24)) a b := rd_alloc (rd_alloc (HR.out.below hB0) _) _
  have hcp2 := below_cell (((Below.refl W0.heap.size W0).alloc (Nat.le_refl _) (.cells #[.int .u8 0, .int .i64 0, .int .i64 0] 59)).alloc (by simp) (.cells #[.int .i64 0] 24)) _ _ hcp
  have hcq2 := below_cell (((Below.refl W0.heap.size W0).alloc (Nat.le_refl _) (.cells #[.int .u8 0, .int .i64 0, .int .i64 0] 59)).alloc (by simp) (.cells #[.int .i64 0] 24)) _ _ hcq
  refine (caught_i _ W0 (itemClo_any _ _ a len cap b at' _ hcp2 hcq2 HL.out hbig hcap H8.out hR2 ha1 ha2) keepI).mono ?_
  clear hcp hcq hcp2 hcq2 hW0 hB0 hR2
  rintro e w1 ⟨e0, w0, ⟨hb, hor⟩, hh⟩
  have hsz : w.heap.size ≤ W0.heap.size := HB0.out.size
  have hb1 : Below w.heap.size w w0 := HB0.out.trans ((((Below.refl W0.heap.size W0).alloc (Nat.le_refl _) (.cells #[.int .u8 0, .int .i64 0, .int .i64 0] 59)).alloc (by simp) (.cells #[.int .i64 0] 24)).mono hsz |>.trans (hb.mono (by simp; omega)))
  rcases hh with ⟨x, y, z, he0, rfl, hw1⟩ | ⟨k, he0, rfl, hw1⟩
  · have hb2 : Below w.heap.size w w1 := by
      rw [hw1]
      exact (((hb1.setCell (p := ⟨W0.heap.size, 0, none⟩) hsz _).setCell (p := ⟨W0.heap.size, 1, none⟩) hsz _).setCell (p := ⟨W0.heap.size, 2, none⟩) hsz _).setCell (p := ⟨W0.heap.size + 1, 0, none⟩) (by show _ ≤ W0.heap.size + 1; omega) _
    clear hw1 hb hb1 HB0
    rcases hor with ⟨t, f, o, hi, he⟩ | ⟨k, hk, hi, he⟩
    · rw [he] at he0
      simp only [Ending.returned.injEq, Value.agg.injEq, Array.mk.injEq, List.cons.injEq, Value.int.injEq, true_and, and_true] at he0
      obtain ⟨rfl, rfl, rfl⟩ := he0
      have HI := Lib.hid hi
      have HB2 := Lib.hid hb2
      clear hi he hb2
      go_wp2
      go_quiet (fail)
      go_wp2
      refine bodyPost_ret (results_tmp4 rfl _ _ _) rfl ?_
      exact ⟨Below.drewM (HB2.out.alloc HB2.out.size _) _, _, _, _, _, HI.out, rfl⟩
    · rw [he] at he0
      cases he0
  · have hb2 : Below w.heap.size w w1 := by
      rw [hw1]
      exact hb1.setCell (p := ⟨W0.heap.size + 1, 0, none⟩) (by show _ ≤ W0.heap.size + 1; omega) _
    clear hw1 hb hb1 HB0
    rcases hor with ⟨t, f, o, hi, he⟩ | ⟨k', hk, hi, he⟩
    · rw [he] at he0
      cases he0
    · rw [he] at he0
      simp only [pan, Ending.panicked.injEq, List.cons.injEq, PanicEntry.mk.injEq, Value.iface.injEq, Value.int.injEq, true_and, and_true] at he0
      subst he0
      have HI := Lib.hid hi
      have HB2 := Lib.hid hb2
      clear hi he hb2
      go_wp2
      go_quiet (fail)
      go_wp2
      refine bodyPost_ret (results_tmp4 rfl _ _ _) rfl ?_
      exact ⟨Below.drewM (HB2.out.alloc HB2.out.size _) _, _, _, _, _, HI.out, rfl⟩
end Go.Proofs.Ytkghgfiindpcjaa
