import Derived.Test.YtboebadpohjolaaPtG
import Derived.Test.YtboebadpohjolaaPtO
namespace Go.Proofs.Ytboebadpohjolaa
open Go.RowKit

/-! A sign of repetition; atoms, pieces, alternatives, patterns. -/
theorem NewT.below {w w' : World} {B : Nat} {t : NT} (h : NewT w B t) (hb : Below w.heap.size w w') : NewT w' B t := ⟨h.own.below hb, h.nodup⟩
theorem NewT.chg {S : Nat → Prop} {w w' : World} {B : Nat} {t : NT} (h : NewT w B t) (hc : Chg S w w') (hS : ∀ k, S k → k < B) : NewT w' B t :=
  ⟨NT.Own.chg hc t h.own fun g hg hs => by have := NT.Own.lt t h.own g hg; have := hS g hs; omega, h.nodup⟩
theorem NewT.base {w : World} {B B' : Nat} {t : NT} (h : NewT w B t) (hB : B' ≤ B) : NewT w B' t := ⟨NT.Own.base hB t h.own, h.nodup⟩
/-- A block that is not the tree's is written. -/
theorem NewT.put {w w' : World} {B g : Nat} {t : NT} (h : NewT w B t) (hc : Chg (fun k => k = g) w w') (hg : g < B) : NewT w' B t := h.chg hc fun k e => by omega
end Go.Proofs.Ytboebadpohjolaa
