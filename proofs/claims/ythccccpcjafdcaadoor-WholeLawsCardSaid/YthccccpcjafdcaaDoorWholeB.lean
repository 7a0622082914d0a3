import Derived.Test.YthccccpcjafdcaaDoorWholeA
import Derived.Deep.RegionHeld3
namespace Go.Proofs.YthccccpcjafdcaaDoor
open Go.RowKit

/-- Two whole numbers that lie in the call's first two blocks. -/
def Boxes (B : Nat) (n : Bool) (a : Option Addr) (la ca : Nat) (m : Bool) (b : Option Addr) (lb cb : Nat) (w W : World) : Prop :=
  W.cell? ⟨B, 0, none⟩ = some (.bool n) ∧ W.cell? ⟨B, 1, none⟩ = some (.slice a la ca) ∧ W.cell? ⟨B + 1, 0, none⟩ = some (.bool m) ∧ W.cell? ⟨B + 1, 1, none⟩ = some (.slice b lb cb) ∧ Below B w W
theorem boxes0 (n : Bool) (a : Option Addr) (la ca : Nat) (m : Bool) (b : Option Addr) (lb cb : Nat) (w : World) :
    Boxes w.heap.size n a la ca m b lb cb w (((w.alloc (WO n a la ca)).alloc (WO m b lb cb)).drew) := by
  have h1 : (w.alloc (WO n a la ca)).heap.size = w.heap.size + 1 := by simp
  have c : ∀ i v, (w.alloc (WO n a la ca)).cell? ⟨w.heap.size, i, none⟩ = some v → ((w.alloc (WO n a la ca)).alloc (WO m b lb cb)).cell? ⟨w.heap.size, i, none⟩ = some v := fun i v h => below_cell ((Below.refl _ _).alloc (Nat.le_refl _) _) _ _ h
  have d0 := World.cell?_alloc_mark w #[.bool n, .slice a la ca] 44 (0, 0)
  have d1 := World.cell?_alloc_mark (w.alloc (WO n a la ca)) #[.bool m, .slice b lb cb] 44 (0, 0)
  refine ⟨c 0 _ ?_, c 1 _ ?_, ?_, ?_, (((Below.refl _ _).alloc (Nat.le_refl _) _).alloc (by simp) _).drew⟩
  · exact (d0 0).trans rfl
  · exact (d0 1).trans rfl
  · rw [← h1]; exact (d1 0).trans rfl
  · rw [← h1]; exact (d1 1).trans rfl
theorem boxes_alloc {B : Nat} {n : Bool} {a : Option Addr} {la ca : Nat} {m : Bool} {b : Option Addr} {lb cb : Nat} {w W : World} (h : Boxes B n a la ca m b lb cb w W) (hB : w.heap.size = B) (o : Obj) : Boxes B n a la ca m b lb cb w (W.alloc o) := by
  subst hB
  have c := below_cell (w := W) ((Below.refl _ _).alloc (Nat.le_refl _) o)
  exact ⟨c _ _ h.1, c _ _ h.2.1, c _ _ h.2.2.1, c _ _ h.2.2.2.1, h.2.2.2.2.alloc h.2.2.2.2.size _⟩
theorem boxes_below {B : Nat} {n : Bool} {a : Option Addr} {la ca : Nat} {m : Bool} {b : Option Addr} {lb cb : Nat} {w W : World} (h : Boxes B n a la ca m b lb cb w W) : Below B w W := h.2.2.2.2
theorem sg_wrap (z : Int) : IntKind.i64.wrap (sg z + 1) = sg z + 1 := by
  have := sg_le z
  have h : sg z = -1 ∨ sg z = 0 ∨ sg z = 1 := by omega
  rcases h with h | h | h <;> rw [h] <;> decide

set_option maxHeartbeats 1000000 in
set_option maxRecDepth 100000 in
theorem places_any (n m : Bool) (a b : Option Addr) (la ca lb cb : Nat) (xs ys : List Nat) (w : World) (hla : xs.length = la) (hlb : ys.length = lb) (hba : la ≤ 1048576) (hbb : lb ≤ 1048576) (hca : la ≤ ca) (hcb : lb ≤ cb)
    (hra : Rd .u64 w a xs) (hrb : Rd .u64 w b ys) (bx : Bd xs) (bY : Bd ys) :
    Calls Tryd.prog 60 #[.agg #[.bool n, .slice a la ca], .agg #[.bool m, .slice b lb cb]] w fun e w' => e = .returned (.tuple #[.int .i64 (sg (wv n xs) + 1), .int .i64 (sg (wv m ys) + 1)]) ∧ Below w.heap.size w w' := by
  have s1 := sg_wrap (wv n xs)
  have s2 := sg_wrap (wv m ys)
  have HA := Lib.hid (fun (W : World) (h : Below w.heap.size w W) => hra.below h)
  have HB := Lib.hid (fun (W : World) (h : Below w.heap.size w W) => hrb.below h)
  clear hra hrb
  have hS0 : Hid (Boxes w.heap.size n a la ca m b lb cb w (((w.alloc (WO n a la ca)).alloc (WO m b lb cb)).drew)) := boxes0 _ _ _ _ _ _ _ _ _
  have hBl : Hid (∀ W, Boxes w.heap.size n a la ca m b lb cb w W → Below w.heap.size w W) := fun W h => h.2.2.2.2
  have hKp : Hid (∀ W o, Boxes w.heap.size n a la ca m b lb cb w W → Boxes w.heap.size n a la ca m b lb cb w (W.alloc o)) := fun W o h => boxes_alloc h rfl o
  go_enter Tryd.func60, Tryd.ntmps60
  go_wp2
  go_region_held3 (fun W => W.cell? ⟨w.heap.size, 0, none⟩ = some (.bool n) ∧ W.cell? ⟨w.heap.size, 1, none⟩ = some (.slice a la ca) ∧ W.cell? ⟨w.heap.size + 1, 0, none⟩ = some (.bool m) ∧ W.cell? ⟨w.heap.size + 1, 1, none⟩ = some (.slice b lb cb) ∧ Below w.heap.size w W)
    (first | exact hS0.out | exact hKp.out _ _ (by assumption))
    (first
    | (go_at_call 26; (with_reducible refine (wsign_any n a la ca xs _ hla hba hca ?ha bx).mono ?_); (case ha => exact HA.out _ (hBl.out _ (by assumption))); rintro e w1 ⟨rfl, rfl⟩)
    | (go_at_call 26; (with_reducible refine (wsign_any m b lb cb ys _ hlb hbb hcb ?ha bY).mono ?_); (case ha => exact HB.out _ (hBl.out _ (by assumption))); rintro e w1 ⟨rfl, rfl⟩))
  have hB := hBl.out _ (by assumption)
  have HBB := Lib.hid hB
  clear hB
  go_wp2
  go_ret2
  exact ⟨rfl, HBB.out⟩
end Go.Proofs.YthccccpcjafdcaaDoor
