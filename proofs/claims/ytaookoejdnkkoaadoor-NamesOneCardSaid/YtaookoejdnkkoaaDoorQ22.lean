import Derived.Test.YtaookoejdnkkoaaDoorQDeU
import Derived.Test.YtaookoejdnkkoaaDoorQGA
import Derived.Test.YtaookoejdnkkoaaDoorCards
import Derived.Test.YtaookoejdnkkoaaDoorTie
import Derived.ChangeMaps5
import Derived.Deep.DeepHandedRow
import Derived.LaidOnce
import Derived.Lay
import Derived.OpenShut
import Derived.ProofKit
import Derived.SevenTiedAt
namespace Go.Proofs.YtaookoejdnkkoaaDoor
open Go.RowKit

/-! The reference's Encode. -/
open Go.ChangeShapes Go.WideShapes Go.ChangeAt Go.RowKit

theorem own_knob : ownKnob Tryd.prog.godebug = none := by kernel_rfl
theorem laid_out : laidOutB Tryd.prog = true := by kernel_rfl
theorem cells_u8 : Tryd.prog.cellsOf 5 = 1 := by kernel_rfl
/-- A list of numbers that is handed in, nil or not. -/
theorem opened_nums {H : Type} {enc : TypeId × Value → H} {W : World} {a0 : Option Addr} {len cap : Nat} {d0 : DataW H} {p : List MemPlace} {t e : TypeId} {k : IntKind} (ht : Tryd.prog.underlying t = some (.slice e)) (he : Tryd.prog.underlying e = some (.int k)) (hc : Tryd.prog.cellsOf e = 1) (hmin : k.min = 0)
    (h0 : DataW.Trod enc Tryd.prog W 0 (fun _ => true) true t (.slice a0 len cap) d0 p) :
    ∃ xs : List Nat, xs.length = len ∧ len ≤ cap ∧ cap ≤ maxLen ∧ Rd k W a0 xs ∧ (∀ x ∈ xs, (x : Int) ≤ k.max) ∧ (a0 = none → cap = 0) := by
  obtain ⟨fuel, hf⟩ := h0
  rcases open_ints ht he hc hf with ⟨hcs, hx⟩ | ⟨a, len', cap', zs, hcs, _, hl, hm, hz, hx, hcell, hwz⟩
  · simp [Value.cells] at hcs
    obtain ⟨rfl, rfl, rfl⟩ := hcs
    exact ⟨[], rfl, Nat.le_refl _, Nat.zero_le _, (fun j hj => by simp at hj), (fun x hx => by simp at hx), fun _ => rfl⟩
  · simp [Value.cells] at hcs
    obtain ⟨rfl, rfl, rfl⟩ := hcs
    simp only [if_true] at hz
    have hw : ∀ z ∈ zs, 0 ≤ z ∧ z ≤ k.max := fun z hz => by
      have := hwz z hz
      simp only [Lit.wf, hmin] at this
      simpa using this
    refine ⟨(zs.take len).map Int.toNat, by simp; omega, hl, hm, ?_, ?_, fun h => by cases h⟩
    · intro j hj
      simp at hj
      obtain ⟨b, off, spot⟩ := a
      have hspot : spot = none := by simpa [Addr.add] using World.cell?_spot (hcell 0 (by omega))
      subst hspot
      refine ⟨b, off, rfl, fun i hi => ?_⟩
      simp at hi
      have h1 := hcell i (by omega)
      have e2 : (⟨b, off, none⟩ : Addr).add i = ⟨b, off + i, none⟩ := by unfold Addr.add; split <;> simp_all
      rw [e2] at h1
      rw [h1]
      have hi2 : i < zs.length := by omega
      have hi3 : i < len := by omega
      have h3 := (hw zs[i] (List.getElem_mem hi2)).1
      have h4 : (((zs.take len).map Int.toNat).getD i 0 : Nat) = zs[i].toNat := by
        simp [List.getD, hi3, hi2]
      rw [h4]
      simp [List.getD, hi2]
      omega
    · intro x hx
      obtain ⟨z, hz, rfl⟩ := List.mem_map.1 hx
      have := hw z (List.mem_of_mem_take hz)
      omega
end Go.Proofs.YtaookoejdnkkoaaDoor
