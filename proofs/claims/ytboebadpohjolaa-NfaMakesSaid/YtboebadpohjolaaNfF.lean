import Derived.Test.YtboebadpohjolaaNfE
namespace Go.Proofs.Ytboebadpohjolaa
open Go.RowKit

variable {B : Nat}

/-! A part laid again and again. -/
/-- What is known of a layout that goes on. -/
def LI (L : List St) (q : Nat) : Prop := 0 < L.length ∧ q < L.length ∧ GoodS L
set_option maxHeartbeats 2000000 in
set_option maxRecDepth 100000 in
theorem n_times (lb : Nat) (w0 : World) (k : Int) (s : S4) (m n : Int) (a : Option Addr) (len c : Nat) (ps : List NT) (hok : LayOK B lb w0 (.mk k s m n (.slice a len c) ps)) (hlaid : Laid (layT (NT.mk k s m n (.slice a len c) ps).pt) (cnt (NT.mk k s m n (.slice a len c) ps).pt)) (hw0 : w0.heap.size ≤ B)
    (M : Nat) (L : List St) (q : Nat) (v : Value) (w : World) (h : LC B w lb L v) (hb : Below w0.heap.size w0 w) (hi : LI L q) (hM : M ≤ 255) (hlen : L.length + M * cnt (NT.mk k s m n (.slice a len c) ps).pt ≤ 1048576) :
    Calls Try.prog 50 #[.pointer (some ⟨lb, 0, none⟩), nodeVal k s m n (.slice a len c), .int .i64 (M : Nat), .int .i64 (q : Nat)] w fun e w' =>
      LRet B lb v (timesF (layT (NT.mk k s m n (.slice a len c) ps).pt) M L q).1 (timesF (layT (NT.mk k s m n (.slice a len c) ps).pt) M L q).2 w e w' := by
  unfold LayOK at hok
  obtain ⟨f, hf⟩ : ∃ f, layT (NT.mk k s m n (.slice a len c) ps).pt = f := ⟨_, rfl⟩
  obtain ⟨C, hC⟩ : ∃ C, cnt (NT.mk k s m n (.slice a len c) ps).pt = C := ⟨_, rfl⟩
  rw [hf, hC] at hok hlaid
  rw [hC] at hlen
  rw [hf]
  have HOK : Hid (∀ (L : List St) (q : Nat) (v : Value) (w : World), LC B w lb L v → Below w0.heap.size w0 w → 0 < L.length → q < L.length → GoodS L → L.length + C ≤ 1048576 →
    Calls Try.prog 21 #[.pointer (some ⟨lb, 0, none⟩), nodeVal k s m n (.slice a len c), .int .i64 (q : Nat)] w fun e w' => LRet B lb v (f q L).1 (f q L).2 w e w') := hok
  have HLAID := Lib.hid hlaid
  have HH := Lib.hid h
  have hlt := h.lt
  have HB := Lib.hid hb
  have hne1 : w.heap.size ≠ lb := by omega
  have hne2 : v.ownBlock ≠ some w.heap.size := fun e => absurd (World.ownsRow.lt h.row _ e).2 (by omega)
  have HS := Lib.hid ((LS.refl h).alloc (.cells #[.int .i64 k, .int .u64 (s.a : Nat), .int .u64 (s.b : Nat), .int .u64 (s.c : Nat), .int .u64 (s.d : Nat), .int .i64 m, .int .i64 n, .slice a len c] 27))
  have HSA := Lib.hid ((LS.refl HS.out.at_))
  have HC : Hid (CB (w.alloc (.cells #[.int .i64 k, .int .u64 (s.a : Nat), .int .u64 (s.b : Nat), .int .u64 (s.c : Nat), .int .u64 (s.d : Nat), .int .i64 m, .int .i64 n, .slice a len c] 27)) 27 w.heap.size (nodeCells k s m n (.slice a len c))) := CB.new w _ _
  have HI := Lib.hid hi
  have HLEN := Lib.hid hlen
  clear hok hlaid hf hC h hb hi hlen
  go_enter Try.func50, Try.ntmps50
  go_wp2
  go_loopw [3, 11] (fun tv iv wr => ∃ (i : Nat) (Li : List St) (qi : Nat) (vi : Value), i ≤ M ∧ iv = .int .i64 (i : Nat) ∧ tv = .int .i64 (qi : Nat) ∧ Hid (LS B w wr lb v Li vi) ∧ Hid (LS B (w.alloc (.cells #[.int .i64 k, .int .u64 (s.a : Nat), .int .u64 (s.b : Nat), .int .u64 (s.c : Nat), .int .u64 (s.d : Nat), .int .i64 m, .int .i64 n, .slice a len c] 27)) wr lb v Li vi) ∧ Hid (timesF f (M - i) Li qi = timesF f M L q) ∧ Hid (LI Li qi) ∧ Hid (Li.length + (M - i) * C ≤ 1048576)) (fun _ iv _ => M - (intOf iv).toNat)
  case atStart => exact ⟨0, L, q, v, Nat.zero_le _, rfl, rfl, HS.out, HSA.out, (by show _ = _; rw [Nat.sub_zero]), HI.out, (by show _ ≤ _; rw [Nat.sub_zero]; exact HLEN.out)⟩
  case round =>
    obtain ⟨i, Li, qi, vi, hiM, rfl, rfl, HSi, HSb, HE, HIi, HLi⟩ := hrel
    obtain ⟨⟨x0, x1, x2, x3, x4, x5, x6, x7⟩, -⟩ := (HSb.out.box HC.out hne1 hne2).eight
    by_cases hlti : i < M
    · obtain ⟨j, hj⟩ : ∃ j, M - i = j + 1 := ⟨M - i - 1, by omega⟩
      have hj2 : M - (i + 1) = j := by omega
      rw [hj] at HE HLi
      obtain ⟨r1, r2, r3⟩ := HLAID.out qi Li HIi.out.1 HIi.out.2.1 HIi.out.2.2
      have hjc : (j + 1) * C = j * C + C := by rw [Nat.add_mul, Nat.one_mul]
      have hle : Li.length + C ≤ 1048576 := by have := HLi.out; omega
      have hlz : Li.length ≤ 1048576 := by omega
      have he := HE.out
      rw [timesF] at he
      have hcall := fun W hW hB => HOK.out Li qi vi W hW hB HIi.out.1 HIi.out.2.1 HIi.out.2.2 hle
      obtain ⟨Lj, hLj⟩ : ∃ Lj, (f qi Li).1 = Lj := ⟨_, rfl⟩
      obtain ⟨qj, hqj⟩ : ∃ qj, (f qi Li).2 = qj := ⟨_, rfl⟩
      have hfe : f qi Li = (Lj, qj) := by rw [← hLj, ← hqj]
      rw [hfe] at he hcall r1 r2 r3
      have HCALL := Lib.hid hcall
      have HR1 := Lib.hid r1
      have HR2 := Lib.hid r2
      have HR3 := Lib.hid r3
      have hljz : Lj.length ≤ 1048576 := by have h9 : Lj.length = Li.length + C := r1; omega
      obtain ⟨va, vc, rfl⟩ := own_slice HSi.out.at_.row
      obtain ⟨⟨y0, -⟩, -⟩ := HSi.out.at_.cells
      have HBr := Lib.hid (HSi.out.from0 HH.out HB.out hw0)
      by_cases hsame : Lj.length = Li.length
      · have hsi : ((Lj.length : Nat) : Int) = (Li.length : Int) := by omega
        have HEQ : Hid ((Lj, qj) = timesF f M L q) := by
          show _ = _
          rw [← he, if_pos hsame]
        clear he hcall r1 r2 r3 hfe hLj hqj hsame
        go_wp2_with (go_at_call 21; refine (HCALL.out _ HSi.out.at_ HBr.out).mono ?_; rintro e w2 ⟨rfl, v2, hS2⟩; obtain ⟨wa, wc, rfl⟩ := own_slice hS2.at_.row; obtain ⟨⟨z0, -⟩, -⟩ := hS2.at_.cells; have HS2 := Lib.hid (HSi.out.trans hS2); clear hS2)
        go_ret
        rw [← HEQ.out]
        exact ⟨rfl, _, HS2.out⟩
      · have hsi : ¬ ((Lj.length : Nat) : Int) = (Li.length : Int) := by omega
        have HEQ : Hid (timesF f j Lj qj = timesF f M L q) := by
          show _ = _
          rw [← he, if_neg hsame]
        have HLJ : Hid (Lj.length + j * C ≤ 1048576) := by show _ ≤ _; have h9 : Lj.length = Li.length + C := r1; have := HLi.out; omega
        have HIJ : Hid (LI Lj qj) := ⟨by have h9 : Lj.length = Li.length + C := r1; have := HIi.out.1; omega, r2, r3⟩
        clear he hcall r1 r2 r3 hfe hLj hqj hsame
        go_wp2_with (go_at_call 21; refine (HCALL.out _ HSi.out.at_ HBr.out).mono ?_; rintro e w2 ⟨rfl, v2, hS2⟩; obtain ⟨wa, wc, rfl⟩ := own_slice hS2.at_.row; obtain ⟨⟨z0, -⟩, -⟩ := hS2.at_.cells; have HS2 := Lib.hid (HSi.out.trans hS2); have HT2 := Lib.hid (HSb.out.trans hS2); clear hS2)
        go_roundw
        case rel => exact ⟨i + 1, Lj, qj, _, by omega, by go_num, rfl, HS2.out, HT2.out, (by show _ = _; rw [hj2]; exact HEQ.out), HIJ.out, (by show _ ≤ _; rw [hj2]; exact HLJ.out)⟩
        case measure => simp [intOf]; omega
    · obtain rfl : i = M := by omega
      have HEQ : Hid ((Li, qi) = timesF f i L q) := by
        have := HE.out
        rw [Nat.sub_self, timesF] at this
        exact this
      go_wp2
      go_ret
      rw [← HEQ.out]
      exact ⟨rfl, _, HSi.out⟩
end Go.Proofs.Ytboebadpohjolaa
