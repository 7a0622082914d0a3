import Derived.Test.YtfjhmnbbjknflaaGreatDoorBo
import Derived.Test.YtfjhmnbbjknflaaGreatDoorBkW
import Derived.Test.YtfjhmnbbjknflaaGreatDoorWGen
namespace Go.Proofs.YtfjhmnbbjknflaaGreatDoor
open Go.RowKit

set_option maxHeartbeats 1000000 in
theorem lentWhole_any (n : Bool) (a : Option Addr) (len cap : Nat) (xs : List Nat) (w : World) (hl : xs.length = len) (hbig : len ≤ 1048576) (hr : Rd .u64 w a xs) :
    Calls Tryz.prog 7 #[.agg #[.bool n, .slice a len cap]] w fun e w' => ∃ g cap', e = .returned (.agg #[.bool n, .slice (some ⟨g, 0, none⟩) len cap']) ∧
      w'.ownsRow w.heap.size 61 1 (.slice (some ⟨g, 0, none⟩) (len + 16) cap') (len + 16) (u64s xs ++ mksw 16) ∧ w.heap.size ≤ g ∧ Below w.heap.size w w' := by
  have HA := Lib.hid (fun (W : World) (h : Below w.heap.size w W) => hr.below h)
  clear hr
  go_enter Tryz.func7, Tryz.ntmps7
  have HB0 := Lib.hid (show Below w.heap.size w ((w.alloc (WO n a len cap)).alloc (WO false none 0 0)) from ((Below.refl _ _).alloc (Nat.le_refl _) _).alloc (by simp) _)
  have HB0 := Lib.hid HB0.out.drew
  have hx1 : ((w.alloc (WO n a len cap)).alloc (WO false none 0 0)).heap[w.heap.size + 1]? = some (WO false none 0 0) := by have := heap_new (w.alloc (WO n a len cap)) (WO false none 0 0); simpa using this
  have hx1 := Lib.hid (show ((w.alloc (WO n a len cap)).alloc (WO false none 0 0)).drew.heap[w.heap.size + 1]? = some (WO false none 0 0) from hx1)
  have hx0 := Lib.hid (show ((w.alloc (WO n a len cap)).alloc (WO false none 0 0)).drew.heap[w.heap.size]? = some (WO n a len cap) from heap_kept (heap_new w (WO n a len cap)) (WO false none 0 0))
  go_wp2_with fail
  have hC : ∀ W : World, W.heap[w.heap.size]? = some (WO n a len cap) → W.cell? ⟨w.heap.size, 0, none⟩ = some (.bool n) ∧ W.cell? ⟨w.heap.size, 1, none⟩ = some (.slice a len cap) := fun W h => ⟨(wo_cells h).1, (wo_cells h).2.1⟩
  have HC := Lib.hid hC
  have HE := hx0
  clear hC
  go_region_held3 (fun W => W.cell? ⟨w.heap.size, 0, none⟩ = some (.bool n) ∧ W.cell? ⟨w.heap.size, 1, none⟩ = some (.slice a len cap))
    (first | exact HC.out _ HE.out | exact HC.out _ ((((Chg.refl (fun k => k = w.heap.size + 1) _).setCell (p := ⟨w.heap.size + 1, 0, none⟩) rfl _).setCell (p := ⟨w.heap.size + 1, 1, none⟩) rfl _).block w.heap.size (lt_of_block HE.out) (by omega) |>.trans HE.out))
    (first
      | (go_at_call 42; (refine (lentWords_any a len cap xs _ hl (by omega) (HA.out _ HB0.out)).mono ?_)
         rintro e w1 ⟨g, c1, rfl, hO, hg, hb1⟩
         have HE : Hid (w1.heap[w.heap.size]? = some (WO n a len cap)) := by show _ = _; rw [hb1.block _ (lt_of_block hx0.out)]; exact hx0.out
         have HR : Hid (RBlk w1 (w.heap.size + 1)) := rblk (by rw [hb1.block _ (lt_of_block hx1.out)]; exact hx1.out)
         have HO := Lib.hid hO
         have HG := Lib.hid hg
         have HB1 := Lib.hid hb1
         obtain ⟨_, d0, d1, e0, e1⟩ := HR.out
         clear hO hg hb1))
  all_goals
    go_wp2
    refine bodyPost_ret (results_WOset1 rfl rfl HR.out) rfl ?_
    have hg := HG.out
    have hs := HB0.out.size
    have hl1 := lt_of_block hx1.out
    refine ⟨g, c1, rfl, ?_, Nat.le_trans hs hg, ((HB0.out.trans (HB1.out.mono hs)).setCell (p := ⟨w.heap.size + 1, 0, none⟩) (Nat.le_succ _) _).setCell (p := ⟨w.heap.size + 1, 1, none⟩) (Nat.le_succ _) _⟩
    refine (((Chg.refl (fun k => k = w.heap.size + 1) _).setCell (p := ⟨w.heap.size + 1, 0, none⟩) rfl _).setCell (p := ⟨w.heap.size + 1, 1, none⟩) rfl _).owns (owns_base HO.out hs) fun k hk he => ?_
    have hgk : g = k := by simpa [Value.ownBlock] using hk
    have : k = w.heap.size + 1 := he
    omega

set_option maxHeartbeats 1000000 in
theorem keptWhole_any (n : Bool) (a : Option Addr) (B g len cap cap' : Nat) (xs : List Nat) (w : World) (hl : xs.length = len) (hbig : len ≤ 1048576) (hr : Rd .u64 w a xs)
    (hown : w.ownsRow B 61 1 (.slice (some ⟨g, 0, none⟩) (len + 16) cap') (len + 16) (u64s xs ++ mksw 16)) :
    Calls Tryz.prog 13 #[.agg #[.bool n, .slice (some ⟨g, 0, none⟩) len cap'], .agg #[.bool n, .slice a len cap]] w fun e w' => e = .returned (.bool true) ∧ Below w.heap.size w w' := by
  have hnn : (n == n) = true := by simp
  have HB0 := Lib.hid (show Below w.heap.size w ((w.alloc (WO n (some ⟨g, 0, none⟩) len cap')).alloc (WO n a len cap)) from ((Below.refl _ _).alloc (Nat.le_refl _) _).alloc (by simp) _)
  have HR := Lib.hid (hr.below HB0.out)
  have HO := Lib.hid (owns_below hown HB0.out)
  clear hr hown
  go_enter Tryz.func13, Tryz.ntmps13
  go_wp2_with fail
  refine (keptWords_any a B g len cap cap' xs _ hl (by omega) HR.out HO.out).mono ?_
  rintro e w1 ⟨rfl, rfl⟩
  go_wp2
  go_ret
  exact ⟨rfl, HB0.out⟩

theorem Bok.whole {w : World} {B bk T : Nat} {WV BV : List Value} {R : List Rw} {vw vb : Value} (h : Bok w B bk T WV BV R vw vb) (n : Bool) (va : Option Addr) (vn vc : Nat) (hn : WV.length + 1 ≤ 1099511627776) :
    Calls Tryz.prog 11 #[.pointer (some ⟨bk, 0, none⟩), .agg #[.bool n, .slice va vn vc]] w fun e w' => e = .returned (.tuple #[]) ∧ (∃ vw', Bok w' B bk T (WV ++ [.slice va vn vc]) BV R vw' vb) ∧ Below bk w w' := by
  have hbk : Below w.heap.size w (w.alloc (WO n va vn vc)) := (Below.refl _ _).alloc (Nat.le_refl _) _
  have HB := Lib.hid hbk
  have HH := Lib.hid (h.below hbk)
  have HLT := Lib.hid h.lt
  clear h hbk
  go_enter Tryz.func11, Tryz.ntmps11
  go_wp2_with fail
  refine (HH.out.words va vn vc hn).mono ?_
  rintro e w1 ⟨rfl, hb, hbl⟩
  have H1 := Lib.hid hb
  have H2 := Lib.hid ((HB.out.mono (Nat.le_of_lt HLT.out)).trans hbl)
  clear hb hbl
  go_wp2
  refine bodyPost_end (results_none rfl _ _ _) rfl ?_
  exact ⟨rfl, H1.out, H2.out⟩

set_option maxHeartbeats 1000000 in
/-- An answer, and what it must be. -/
theorem lsame2_any (n m : Bool) (a b : Option Addr) (la ca lb cb : Nat) (k j : Int) (xs ys : List Nat) (w : World) (hla : xs.length = la) (hlb : ys.length = lb) (hba : la ≤ 1048576) (hra : Rd .u64 w a xs) (hrb : Rd .u64 w b ys) (he : k = j) (hn : n = m) (hx : xs = ys) :
    Calls Tryz.prog 10 #[.agg #[.bool n, .slice a la ca], .int .i64 k, .agg #[.bool m, .slice b lb cb], .int .i64 j] w fun e w' => e = .returned (.bool true) ∧ Below w.heap.size w w' := by
  subst he
  have hkk : (k == k) = true := by simp
  have hd : decide (n = m ∧ xs = ys) = true := by rw [decide_eq_true_iff]; exact ⟨hn, hx⟩
  have HD := Lib.hid hd
  have HB0 := Lib.hid (show Below w.heap.size w ((w.alloc (WO n a la ca)).alloc (WO m b lb cb)) from ((Below.refl _ _).alloc (Nat.le_refl _) _).alloc (by simp) _)
  have HA := Lib.hid (hra.below HB0.out)
  have HB := Lib.hid (hrb.below HB0.out)
  clear hra hrb hd hn hx
  go_enter Tryz.func10, Tryz.ntmps10
  go_wp2_with fail
  refine (wsameW_any n m a b la ca lb cb xs ys _ hla hlb hba HA.out HB.out).mono ?_
  rintro e w1 ⟨rfl, hb1⟩
  rw [HD.out]
  have H1 := Lib.hid (HB0.out.trans (hb1.mono HB0.out.size))
  clear hb1
  go_wp2
  go_ret
  exact ⟨rfl, H1.out⟩
end Go.Proofs.YtfjhmnbbjknflaaGreatDoor
