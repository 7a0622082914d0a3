import Derived.Test.YthccccpcjafdcaaDoorDigits
namespace Go.Proofs.YthccccpcjafdcaaDoor
open Go.RowKit

set_option maxHeartbeats 1000000 in
set_option maxRecDepth 100000 in
theorem rtext_any (a : Option Addr) (len cap : Nat) (xs : List Nat) (w : World) (hl : xs.length = len) (hbig : len ≤ 4096) (hr : Rd .u64 w a xs) (bx : Bd xs) :
    Calls Tryd.prog 12 #[.slice a len cap] w (TextTells (fl xs ≤ 128) (val xs) w) := by
  have HR := Lib.hid (fun (W : World) (h : Below w.heap.size w W) => hr.below h)
  have HBX := Lib.hid bx
  go_enter Tryd.func12, Tryd.ntmps12
  go_wp2_with fail
  refine (rfits_any a len cap xs _ hl (by omega) hr HBX.out).mono ?_
  clear hr bx
  rintro e w1 ⟨rfl, hb⟩
  have HB := Lib.hid hb
  clear hb
  by_cases h : fl xs ≤ 128
  · have hq : decide (fl xs ≤ 128) = true := by rw [decide_eq_true_iff]; exact h
    have H := Lib.hid h
    clear h
    rw [hq]
    go_wp2_with fail
    refine (rdigits_any a len cap xs _ hl hbig (HR.out _ HB.out) HBX.out).mono ?_
    rintro e w2 ⟨hb2, l, hd, rfl⟩
    have HD := Lib.hid hd
    have HB2 := Lib.hid (HB.out.trans (hb2.mono HB.out.size))
    clear hd hb2
    go_wp2
    go_ret2
    exact ⟨HB2.out, .inr ⟨H.out, l, HD.out, rfl⟩⟩
  · have hq : decide (fl xs ≤ 128) = false := by rw [decide_eq_false_iff_not]; exact h
    have H := Lib.hid h
    clear h
    rw [hq]
    go_wp2
    go_ret2
    exact ⟨HB.out, .inl ⟨by have := H.out; omega, rfl⟩⟩
/-- Two texts of one number are the same. -/
theorem TextTells.one {P : Prop} {n : Nat} {w1 w1' w2 w2' : World} {e1 e2 : Ending} (h1 : TextTells P n w1 e1 w1') (h2 : TextTells P n w2 e2 w2') : e1 = e2 := by
  rcases h1.2 with ⟨a1, rfl⟩ | ⟨a1, l, d1, rfl⟩ <;> rcases h2.2 with ⟨a2, rfl⟩ | ⟨a2, k, d2, rfl⟩
  · rfl
  · exact absurd a2 a1
  · exact absurd a1 a2
  · rw [d1.unique d2]
end Go.Proofs.YthccccpcjafdcaaDoor
