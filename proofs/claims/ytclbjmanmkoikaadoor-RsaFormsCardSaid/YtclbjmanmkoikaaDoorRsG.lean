import Derived.Test.YtclbjmanmkoikaaDoorRsD
import Derived.Test.YtclbjmanmkoikaaDoorRsF
import Derived.Test.YtclbjmanmkoikaaDoorModR
namespace Go.Proofs.YtclbjmanmkoikaaDoor
open Go.RowKit

/-! The reference: Check, Size, a number in so many bytes. -/
theorem Raw.bits {w : World} {v : Value} {n : Nat} (h : Raw w v n) : bitsN n ≤ 64000 := by
  obtain ⟨a, c, zs, rfl, h1, _, hr, hb, rfl, hl⟩ := h
  have h2 := (fl_iff hb (k := 1000)).1 (by have := (fl_spec zs).1; omega)
  exact (bits_fits (bits_is _) (m := 1000)).2 h2
theorem head_cell {w : World} {a : Option Addr} {x : Nat} {t : List Nat} (h : Rd .u64 w a (x :: t)) : ∃ b off, a = some ⟨b, off, none⟩ ∧ w.cell? ⟨b, off, none⟩ = some (.int .u64 (x : Nat)) := by
  obtain ⟨b, off, rfl⟩ := h.isAt (by simp)
  have hc := h.cell (i := 0) (by simp)
  exact ⟨b, off, rfl, by simpa [at0] using hc⟩
theorem num_cons {zs : List Nat} {N : Nat} (h : Num zs N) (h0 : 0 < N) : ∃ x t, zs = x :: t ∧ x % 2 = N % 2 := by
  cases zs with
  | nil => exfalso; have := h.vl; simp [val] at this; omega
  | cons x t => exact ⟨x, t, rfl, by rw [← h.vl, val_cons]; omega⟩
theorem mod2_cases (x : Nat) : (x % 2 = 0 ∧ (x : Int) % 2 = 0 ∧ (x : Int).tmod 2 = 0) ∨ (x % 2 = 1 ∧ (x : Int) % 2 = 1 ∧ (x : Int).tmod 2 = 1) := by
  rcases (show x % 2 = 0 ∨ x % 2 = 1 by omega) with h | h
  · exact .inl ⟨h, by omega, by rw [Int.tmod_eq_emod_of_nonneg (by omega)]; omega⟩
  · exact .inr ⟨h, by omega, by rw [Int.tmod_eq_emod_of_nonneg (by omega)]; omega⟩
end Go.Proofs.YtclbjmanmkoikaaDoor