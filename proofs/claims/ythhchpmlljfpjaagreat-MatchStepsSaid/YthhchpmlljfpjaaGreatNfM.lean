import Derived.Test.YthhchpmlljfpjaaGreatNfK
import Derived.Test.YthhchpmlljfpjaaGreatNfL
namespace Go.Proofs.YthhchpmlljfpjaaGreat
open Go.RowKit

/-! The law's own small functions; Check of a machine. -/
def szN (C : Nat) : Nat := if C + 1 ≤ 4096 then C + 1 else 0
def szE (C : Nat) : Int := if C + 1 ≤ 4096 then 0 else 3
/-- What Check answers. -/
def chkM (L : List St) (q : Int) : Int := if L.length ≤ 4096 ∧ (0 ≤ q ∧ q < (L.length : Int)) ∧ (L.all (okS L.length)) = true then 0 else 110
theorem all_take {L : List St} {f : St → Bool} {i : Nat} (h : i < L.length) : (L.take (i + 1)).all f = ((L.take i).all f && f L[i]) := by
  rw [List.take_add_one, List.getElem?_eq_getElem h, List.all_append]
  simp
theorem all_not {L : List St} {f : St → Bool} {i : Nat} (h : (L.take i).all f = false) : L.all f = false := by
  have : L.all f = ((L.take i).all f && (L.drop i).all f) := by rw [← List.all_append, List.take_append_drop]
  rw [this, h]
  rfl
set_option maxHeartbeats 1000000 in
set_option maxRecDepth 100000 in
theorem n_checkM (L : List St) (a : Option Addr) (c : Nat) (q : Int) (w : World) (hlen : L.length ≤ 1099511627776) (hr : RowAt w a (L.flatMap St.cells)) :
    Calls Tryz.prog 22 #[.agg #[.slice a L.length c, .int .i64 q]] w fun e w' => e = .returned (.int .i64 (chkM L q)) ∧ Below w.heap.size w w' := by
  unfold chkM
  obtain ⟨len, hl⟩ : ∃ len, L.length = len := ⟨_, rfl⟩
  rw [hl] at hlen ⊢
  have HR := Lib.hid hr
  have HL := Lib.hid hl
  clear hr hl
  have hpl := fun W => p_isPlace q len W
  have HB1 : Hid (Below w.heap.size w (w.alloc (.cells #[.slice a len c, .int .i64 q] 24))) := (Below.refl _ _).alloc (Nat.le_refl _) _
  by_cases h1 : len ≤ 4096
  · have h1i : ¬ (4096 : Int) < (len : Int) := by omega
    by_cases h2 : 0 ≤ q ∧ q < (len : Int)
    · have hb : (decide (0 ≤ q) && decide (q < (len : Int))) = true := by simp [h2.1, h2.2]
      rw [hb] at hpl
      have HPL := Lib.hid hpl
      obtain ⟨R, hR⟩ : ∃ R, (if len ≤ 4096 ∧ (0 ≤ q ∧ q < (len : Int)) ∧ L.all (okS len) = true then (0 : Int) else 110) = R := ⟨_, rfl⟩
      have HR0 : Hid (L.all (okS len) = true → R = 0) := fun h => by rw [← hR, if_pos ⟨h1, h2, h⟩]
      have HR1 : Hid (L.all (okS len) = false → R = 110) := fun h => by rw [← hR, if_neg (fun h9 => by rw [h] at h9; cases h9.2.2)]
      rw [hR]
      clear hpl hb hR
      go_enter Tryz.func22, Tryz.ntmps22
      go_wp2_with (go_at_call 38; refine (HPL.out _).mono ?_; rintro e w2 ⟨rfl, rfl⟩)
      go_loopw [21] (fun iv wr => ∃ i : Nat, i ≤ len ∧ iv = .int .i64 (i : Nat) ∧ Hid ((L.take i).all (okS len) = true) ∧ Hid (Below w.heap.size w wr)) (fun iv _ => len - (intOf iv).toNat)
      case atStart => exact ⟨0, by omega, rfl, (by show _ = _; simp), HB1.out⟩
      case round =>
        obtain ⟨i, hi, rfl, HX, HB⟩ := hrel
        by_cases hlt : i < len
        · have hip : i < L.length := by rw [HL.out]; exact hlt
          obtain ⟨b, off, rfl, hra⟩ := st_elem HR.out hip
          have htk := all_take (f := okS len) hip
          obtain ⟨s, hs⟩ : ∃ s, L[i] = s := ⟨_, rfl⟩
          rw [hs] at hra htk
          obtain ⟨sk, ss, sx, sy⟩ := s
          have HRA : Hid (wr.rangeAt b (off + i * 7) (St.cells ⟨sk, ss, sx, sy⟩)) := fun j v hv => below_cell HB.out _ _ (hra j v hv)
          have hcall := fun W => p_fitsS sk ss sx sy len W
          obtain ⟨d, hd⟩ : ∃ d, okS len ⟨sk, ss, sx, sy⟩ = d := ⟨_, rfl⟩
          rw [hd] at hcall htk
          rw [HX.out, Bool.true_and] at htk
          have HC1 := Lib.hid hcall
          have HTK := Lib.hid htk
          clear hcall hd hra htk hs
          cases d
          · go_wp2_with (first | (refine wpl_loadSt (.tmp 23) rfl rfl (g := b) (off := off + i * 7) (k := sk) (s := ss) (x1 := sx) (y1 := sy) ?_ ?_ ?_; rfl; exact HRA.out) | (go_at_call 39; refine (HC1.out _).mono ?_; rintro e w3 ⟨rfl, hb3⟩))
            go_ret
            exact ⟨ret_int (HR1.out (all_not HTK.out)).symm, (HB.out.alloc HB.out.size _).trans (hb3.mono (by have := HB.out.size; simp only [World.size_alloc]; omega))⟩
          · go_wp2_with (first | (refine wpl_loadSt (.tmp 23) rfl rfl (g := b) (off := off + i * 7) (k := sk) (s := ss) (x1 := sx) (y1 := sy) ?_ ?_ ?_; rfl; exact HRA.out) | (go_at_call 39; refine (HC1.out _).mono ?_; rintro e w3 ⟨rfl, hb3⟩))
            go_roundw
            case rel => exact ⟨i + 1, by omega, by go_num, HTK.out, (HB.out.alloc HB.out.size _).trans (hb3.mono (by have := HB.out.size; simp only [World.size_alloc]; omega))⟩
            case measure => simp [intOf]; omega
        · obtain rfl : i = len := by omega
          have hfin : L.all (okS i) = true := by
            have := HX.out
            rw [List.take_of_length_le (by rw [HL.out]; exact Nat.le_refl _)] at this
            exact this
          have HF := Lib.hid hfin
          clear hfin
          go_wp2
          go_ret
          exact ⟨ret_int (HR0.out HF.out).symm, HB.out⟩
    · have hb : (decide (0 ≤ q) && decide (q < (len : Int))) = false := by
        rw [Bool.eq_false_iff]
        intro h
        simp at h
        exact h2 h
      rw [hb] at hpl
      have HPL := Lib.hid hpl
      have hif : (if len ≤ 4096 ∧ (0 ≤ q ∧ q < (len : Int)) ∧ L.all (okS len) = true then (0 : Int) else 110) = 110 := if_neg fun h => h2 h.2.1
      rw [hif]
      clear hpl hb hif
      go_enter Tryz.func22, Tryz.ntmps22
      go_wp2_with (go_at_call 38; refine (HPL.out _).mono ?_; rintro e w2 ⟨rfl, rfl⟩)
      go_ret
      exact ⟨rfl, HB1.out⟩
  · have h1i : (4096 : Int) < (len : Int) := by omega
    have hif : (if len ≤ 4096 ∧ (0 ≤ q ∧ q < (len : Int)) ∧ L.all (okS len) = true then (0 : Int) else 110) = 110 := if_neg fun h => h1 h.1
    rw [hif]
    clear hpl hif
    go_enter Tryz.func22, Tryz.ntmps22
    go_wp2
    go_ret
    exact ⟨rfl, HB1.out⟩
end Go.Proofs.YthhchpmlljfpjaaGreat
