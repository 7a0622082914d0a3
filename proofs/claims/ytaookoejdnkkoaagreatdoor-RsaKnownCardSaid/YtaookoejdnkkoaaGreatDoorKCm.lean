import Derived.Test.YtaookoejdnkkoaaGreatDoorKSa
import Derived.Test.YtaookoejdnkkoaaGreatDoorKSink
import Derived.Test.YtaookoejdnkkoaaGreatDoorKBo
import Derived.Deep.RegionLaw
import Derived.Lib.OthersKept
namespace Go.Proofs.YtaookoejdnkkoaaGreatDoor
open Go.RowKit

/-! What the packages from coding on share. -/
theorem u8s_one8 (l : List Nat) : ∀ v ∈ u8s l, v.oneCell' = true := by
  intro v hv
  obtain ⟨x, _, rfl⟩ := List.mem_map.1 hv
  rfl
theorem cell_alloc {w : World} {g : Nat} {cs : Array Value} {T : TypeId} {i : Nat} (h : w.heap[g]? = some (.cells cs T (0, 0))) : w.cell? ⟨g, i, none⟩ = cs[i]? := by simp [World.cell?, h]
theorem frozen_alloc {w : World} {g : Nat} {cs : Array Value} {T : TypeId} {i : Nat} (h : w.heap[g]? = some (.cells cs T (0, 0))) : w.frozen? ⟨g, i, none⟩ = false := by simp [World.frozen?, h]
theorem infoKy : (Tryz.prog.info? 25).map (·.size) = some 2 := by kernel_rfl
theorem other_set {w : World} {a b : Nat} {i : Nat} {o : Obj} (h : w.heap[a]? = some o) (hn : b ≠ a) (v : Value) : (w.setCell ⟨b, i, none⟩ v).heap[a]? = some o := by
  rw [Below.heap_setCell _ _ _ _ (fun e => hn e.symm)]; exact h
theorem results_Ky {fn : Func} {p : Tmp} (h : fn.results = #[.cell p 25]) {tmps : Array Value} {w : World} {g : Nat} {x y : Value} {T : TypeId}
    (hp : tmps.getD p undef = .pointer (some ⟨g, 0, none⟩)) (hg : w.heap[g]? = some (.cells #[x, y] T (0, 0))) :
    (results fn tmps).run Tryz.prog w = .ok (.agg #[x, y]) w :=
  results_cell_row h tmps _ g _ #[x, y] (0, 0) _ hp hg Tryz.underlying25 rfl infoKy
theorem Sep.belowS {w w' : World} {B : Nat} {R : List Rw} (h : Sep w B R) (hb : Below w.heap.size w w') : Sep w' B R :=
  h.chg (Chg.of_below hb) (fun r hr k hk => by have := World.ownsRow.lt (h.1 r hr) k hk; omega)
theorem wpAnyH_op {P : Program} {ops : Array Oper} {Q : Exit → Act → World → Prop} {md : Region.Mode} {S : World → Prop} {i : Nat} {o : Oper} {fuel : Nat} {listed : Array Bool} {a : Act} {w : World} (hr : Region.ready md ops listed = [i]) (hi : ops[i]? = some o) (hw : Region.wanted o (yielded ops a.tmps) = true)
    (h : ∀ K : Act → World → Prop, (∀ a' w', S w' → wpAnyH P md ops Q S fuel (listed.setIfInBounds i true) a' w' → K a' w') → o.wp P a w K Q) : wpAnyH P md ops Q S (fuel + 1) listed a w := by
  refine ⟨fun h0 => (by rw [hr] at h0; cases h0), fun j hj => ?_⟩
  rw [hr] at hj
  obtain rfl := List.mem_singleton.1 hj
  unfold wpOp
  simp only [hi, hw, if_true]
  exact .inl (h _ fun a' w' h1 h2 => ⟨h1, h2⟩)
abbrev KO (x y : Value) : Obj := .cells #[x, y] 25
theorem KO.cells {w : World} {g : Nat} {x y : Value} (h : w.heap[g]? = some (KO x y)) : w.cell? ⟨g, 0, none⟩ = some x ∧ w.cell? ⟨g, 1, none⟩ = some y := ⟨cell_alloc (i := 0) h, cell_alloc (i := 1) h⟩
theorem KO.below {w w' : World} {g : Nat} {x y : Value} (h : w.heap[g]? = some (KO x y)) (hb : Below w.heap.size w w') : w'.heap[g]? = some (KO x y) := by rw [hb.block _ (lt_of_block h)]; exact h
def rwb (v : Value) (b : List Nat) : Rw := ⟨v, 5, b.length, u8s b⟩
theorem Sep.new {w w' : World} {B : Nat} {R : List Rw} (h : Sep w B R) (hB : B ≤ w.heap.size) (hb : Below w.heap.size w w') {v : Value} {b : List Nat} (ho : own8 w' w.heap.size v b) : Sep w' B (rwb v b :: R) := by
  have h2 := h.belowS hb
  refine ⟨fun r hr => ?_, List.pairwise_cons.2 ⟨fun r hr k hk hk2 => ?_, h2.2⟩⟩
  · rcases List.mem_cons.1 hr with rfl | hr
    · exact owns_base ho hB
    · exact h2.1 r hr
  · have h3 := World.ownsRow.lt ho k hk
    have h4 := World.ownsRow.lt (h.1 r hr) k hk2
    omega
theorem Sep.own {w : World} {B : Nat} {v : Value} {zs : List Nat} {R : List Rw} (h : Sep w B R) (hm : rw64 v zs ∈ R) : own64 w B v zs := h.1 _ hm
end Go.Proofs.YtaookoejdnkkoaaGreatDoor
