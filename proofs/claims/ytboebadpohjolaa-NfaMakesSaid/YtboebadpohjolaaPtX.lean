import Derived.Test.YtboebadpohjolaaPtW
namespace Go.Proofs.Ytboebadpohjolaa
open Go.RowKit

/-! Alternatives, patterns. -/
theorem all_one {cs : List Value} (h : (cs.all fun v => v.oneCell') = true) : ∀ u ∈ cs, u.oneCell' = true := List.all_eq_true.1 h
/-- Parts, in a row of the caller's. -/
@[reducible] def partsN (pv : Value) (ps : List NT) : NT := .mk 0 .zero 0 0 pv ps
theorem NewT.push {w w5 : World} {B g cap : Nat} {pv : Value} {ps : List NT} {t : NT} (hP : NewT w B (partsN pv ps)) (ht : NewT w B t) (hd : ∀ x ∈ (partsN pv ps).foot, x ∉ t.foot)
    (hown : w5.ownsRow B 27 8 (.slice (some ⟨g, 0, none⟩) (ps.length + 1) cap) (ps.length + 1) (ps.flatMap NT.cells ++ t.cells)) (hg : w.grownBy w5 pv.ownBlock) (hor : pv.ownBlock = some g ∨ g = w.heap.size) :
    NewT w5 B (partsN (.slice (some ⟨g, 0, none⟩) (ps.length + 1) cap) (ps ++ [t])) := by
  have hch := Chg.of_grown hg
  obtain ⟨h1, h2⟩ := NT.Own_mk.1 hP.own
  have hnd := hP.nodup
  rw [NT.foot_mk] at hnd hd
  have hpl := NT.Own.lt _ hP.own
  rw [NT.foot_mk] at hpl
  have htl := ht.lt
  have hpt : ∀ x, pv.ownBlock = some x → x ∉ t.foot := fun x hx => hd x (List.mem_append_left _ (by simp [hx]))
  have hps : ∀ x, pv.ownBlock = some x → x ∉ ps.flatMap NT.foot := fun x hx hm => by
    rw [hx] at hnd
    simp only [Option.toList_some, List.singleton_append, List.nodup_cons] at hnd
    exact hnd.1 hm
  refine ⟨NT.Own_mk.2 ⟨by rw [List.length_append, List.flatMap_append, List.flatMap_cons, List.flatMap_nil, List.append_nil]; exact hown, fun u hu => ?_⟩, ?_⟩
  · rcases List.mem_append.1 hu with hu | hu
    · exact NT.Own.chg hch u (h2 u hu) fun x hx e => hps x e.symm (List.mem_flatMap.2 ⟨u, hu, hx⟩)
    · obtain rfl : u = t := by simpa using hu
      exact NT.Own.chg hch u ht.own fun x hx e => hpt x e.symm hx
  · rw [NT.foot_mk, List.flatMap_append, List.flatMap_cons, List.flatMap_nil, List.append_nil]
    show (g :: (ps.flatMap NT.foot ++ t.foot)).Nodup
    have hnd2 : (ps.flatMap NT.foot).Nodup := (List.nodup_append.1 hnd).2.1
    refine List.nodup_cons.2 ⟨fun hm => ?_, List.nodup_append.2 ⟨hnd2, ht.nodup, fun x hx y hy e => hd x (List.mem_append_right _ hx) (e ▸ hy)⟩⟩
    rcases List.mem_append.1 hm with hm | hm
    · rcases hor with h | rfl
      · exact hps g h hm
      · have := (hpl _ (List.mem_append_right _ hm)).2; omega
    · rcases hor with h | rfl
      · exact hpt g h hm
      · have := (htl _ hm).2; omega
end Go.Proofs.Ytboebadpohjolaa
