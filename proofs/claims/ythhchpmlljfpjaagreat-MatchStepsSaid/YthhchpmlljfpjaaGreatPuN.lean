import Derived.Test.YthhchpmlljfpjaaGreatPtU
namespace Go.Proofs.YthhchpmlljfpjaaGreat
open Go.RowKit

/-! A repetition written; any tree. -/
theorem range8 {w : World} {g off : Nat} {a b c d e f x y : Value} (h : w.rangeAt g off [a, b, c, d, e, f, x, y]) :
    w.cell? ⟨g, off, none⟩ = some a ∧ w.cell? ⟨g, off + 1, none⟩ = some b ∧ w.cell? ⟨g, off + 2, none⟩ = some c ∧ w.cell? ⟨g, off + 3, none⟩ = some d ∧ w.cell? ⟨g, off + 4, none⟩ = some e ∧ w.cell? ⟨g, off + 5, none⟩ = some f ∧ w.cell? ⟨g, off + 6, none⟩ = some x ∧ w.cell? ⟨g, off + 7, none⟩ = some y :=
  ⟨h 0 a rfl, h 1 b rfl, h 2 c rfl, h 3 d rfl, h 4 e rfl, h 5 f rfl, h 6 x rfl, h 7 y rfl⟩
theorem NT.pt_len {k : Int} {s : S4} {m n : Int} {p : Value} {ps : List NT} : may (NT.mk k s m n p ps).pt = (fitT k s m n ps.length && mayL (ps.map NT.pt)) := by rw [NT.pt_mk, may, List.length_map]
end Go.Proofs.YthhchpmlljfpjaaGreat
