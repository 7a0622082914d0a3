import Derived.Test.YtckgbcgmladcfaaDoorPuP
import Derived.Test.YtckgbcgmladcfaaDoorPuS
import Derived.Test.YtckgbcgmladcfaaDoorPtY
namespace Go.Proofs.YtckgbcgmladcfaaDoor
open Go.RowKit

/-! The laws' own check. -/
theorem p_parse_ok (s : ByteArray) (T : PT) (w : World) (hg : Gl w) (hw : 0 + 2 ≤ w.heap.size) (hl : (bsN s).length ≤ 1024) (hr : Run 0 (.pat []) (bsN s) (.ok T [])) :
    Calls Tryd.prog 11 #[.string s] w fun e w' => Below w.heap.size w w' ∧ ∃ (k : Int) (S : S4) (m n : Int) (a : Option Addr) (c d : Nat) (ps : List NT), NewT w' w.heap.size (.mk k S m n (.slice a c d) ps) ∧ (NT.mk k S m n (.slice a c d) ps).pt = T ∧ e = .returned (.tuple #[nodeVal k S m n (.slice a c d), .int .i64 0]) := by
  have hsz : s.size ≤ 1024 := by rw [← bsN_len]; exact hl
  refine (p_parse s s.size rfl (by omega) w hg hw).mono ?_
  rintro e w' ⟨hb, ⟨k, S, m, n, a, c, d, ps, hN, hP, rfl⟩ | ⟨k, hk, hP, rfl⟩⟩
  · have := hP.one (.inr ⟨hl, _, hr, rfl⟩)
    exact ⟨hb, k, S, m, n, a, c, d, ps, hN, by injection this, rfl⟩
  · have := hP.one (.inr ⟨hl, _, hr, rfl⟩)
    cases this
theorem p_parse_no (s : ByteArray) (E : Nat) (w : World) (hg : Gl w) (hw : 0 + 2 ≤ w.heap.size) (hl : (bsN s).length ≤ 1024) (hE : E ≠ 0) (hr : Run 0 (.pat []) (bsN s) (.no E)) :
    Calls Tryd.prog 11 #[.string s] w fun e w' => Below w.heap.size w w' ∧ ∃ k : Int, k.toNat = E ∧ e = .returned (.tuple #[nodeVal 0 .zero 0 0 (.slice none 0 0), .int .i64 k]) := by
  have hsz : s.size ≤ 1024 := by rw [← bsN_len]; exact hl
  refine (p_parse s s.size rfl (by omega) w hg hw).mono ?_
  rintro e w' ⟨hb, ⟨k, S, m, n, a, c, d, ps, hN, hP, rfl⟩ | ⟨k, hk, hP, rfl⟩⟩
  · have := hP.one (.inr ⟨hl, _, hr, rfl⟩)
    cases this
  · have := hP.one (.inr ⟨hl, _, hr, rfl⟩)
    exact ⟨hb, k, by injection this, rfl⟩
end Go.Proofs.YtckgbcgmladcfaaDoor
