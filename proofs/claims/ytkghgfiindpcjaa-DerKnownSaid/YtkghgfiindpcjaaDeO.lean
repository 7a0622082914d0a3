import Derived.Test.YtkghgfiindpcjaaDeN
namespace Go.Proofs.Ytkghgfiindpcjaa
open Go.RowKit

/-- What Encode tells. -/
def EncTells (n k : Nat) (kk : Int) (b : List Nat) : Prop := (n < 2 ^ 4096 ∧ k < 2 ^ 4096 ∧ kk = 0 ∧ KeyB n k b) ∨ (¬ (n < 2 ^ 4096 ∧ k < 2 ^ 4096) ∧ kk = 3 ∧ b = [])
theorem EncTells.one {n k : Nat} {kk kk' : Int} {b b' : List Nat} (h : EncTells n k kk b) (g : EncTells n k kk' b') : kk = kk' ∧ b = b' := by
  rcases h with ⟨h1, h2, rfl, h3⟩ | ⟨h1, rfl, rfl⟩ <;> rcases g with ⟨g1, g2, rfl, g3⟩ | ⟨g1, rfl, rfl⟩
  · exact ⟨rfl, h3.one g3⟩
  · exact absurd ⟨h1, h2⟩ g1
  · exact absurd ⟨g1, g2⟩ h1
  · exact ⟨rfl, rfl⟩
def Enc8 (Q : Int → List Nat → Prop) (w : World) (e : Ending) (w' : World) : Prop :=
  Below w.heap.size w w' ∧ ∃ a c k b, e = .returned (.tuple #[.slice a (List.length b) c, .int .i64 k]) ∧ own8 w' w.heap.size (.slice a (List.length b) c) b ∧ Q k b
theorem keepB {n k : Nat} {W : World} : KeepE W.heap.size (EncCPost n k (W.alloc (.cells #[.int .i64 0] 24))) := by
  rintro e w' ⟨hb, hor⟩
  refine ⟨by rw [hb.block _ (by simp)]; exact heap_new _ _, ?_⟩
  rcases hor with ⟨_, _, a, c, zs, rfl, _⟩ | ⟨_, rfl⟩
  · exact .inl ⟨_, rfl⟩
  · exact .inr ⟨_, rfl⟩
set_option maxHeartbeats 800000 in
set_option maxRecDepth 100000 in
theorem encode_any (aN : Option Addr) (lN cN : Nat) (Ns : List Nat) (aE : Option Addr) (lE cE : Nat) (Es : List Nat) (w : World)
    (hlN : Ns.length = lN) (hbN : lN ≤ 1048576) (hcN : lN ≤ cN) (hrN : Rd .u64 w aN Ns) (bxN : Bd Ns) (hlE : Es.length = lE) (hbE : lE ≤ 1048576) (hcE : lE ≤ cE) (hrE : Rd .u64 w aE Es) (bxE : Bd Es) :
    Calls Try.prog 25 #[.agg #[.slice aN lN cN, .slice aE lE cE]] w (Enc8 (EncTells (val Ns) (val Es)) w) := by
  have hmf : ∀ (fn : Fn) (first cap : Array Value) (w : World), (Instr.makeFunc fn first cap).run Try.prog w = .ok (.func fn first cap) w := fun _ _ _ _ => rfl
  have HLN := Lib.hid hlN
  have HRN := Lib.hid hrN
  have HXN := Lib.hid bxN
  have HLE := Lib.hid hlE
  have HRE := Lib.hid hrE
  have HXE := Lib.hid bxE
  clear hlN hrN bxN hlE hrE bxE
  go_enter Try.func25, Try.ntmps25
  go_wp2_with fail
  obtain ⟨W0, hW0⟩ : ∃ W0, W0 = w.alloc (.cells #[.slice aN lN cN, .slice aE lE cE] 40) := ⟨_, rfl⟩
  have hB0 : Below w.heap.size w W0 := by rw [hW0]; exact (Below.refl _ _).alloc (Nat.le_refl _) _
  have hc0 : W0.cell? ⟨w.heap.size, 0, none⟩ = some (.slice aN lN cN) := by rw [hW0]; exact cell_alloc (i := 0) (heap_new _ _)
  have hc1 : W0.cell? ⟨w.heap.size, 1, none⟩ = some (.slice aE lE cE) := by rw [hW0]; exact cell_alloc (i := 1) (heap_new _ _)
  rw [← hW0]
  have HB0 := Lib.hid hB0
  have hB2 := (Below.refl W0.heap.size W0).alloc (Nat.le_refl _) (.cells #[.int .i64 0] 24)
  refine (caught_b _ W0 (encClo_any w.heap.size aN lN cN Ns aE lE cE Es _ (below_cell hB2 _ _ hc0) (below_cell hB2 _ _ hc1) HLN.out hbN hcN ((HRN.out.below hB0).below hB2) HXN.out HLE.out hbE hcE ((HRE.out.below hB0).below hB2) HXE.out) keepB).mono ?_
  clear hc0 hc1 hW0 hB0
  rintro e w1 ⟨e0, w0, ⟨hb, hor⟩, hh⟩
  have hsz : w.heap.size ≤ W0.heap.size := HB0.out.size
  have hb1 : Below w.heap.size w w0 := HB0.out.trans ((hB2.mono hsz).trans (hb.mono (by simp; omega)))
  clear hB2
  rcases hh with ⟨x, he0, rfl, hw1⟩ | ⟨k, he0, rfl, hw1⟩
  · rcases hor with ⟨h1, h2, a1, c1, b, he, ho, hT⟩ | ⟨hi, he⟩
    · rw [he] at he0
      simp only [Ending.returned.injEq] at he0
      subst he0
      have hb2 : Below w.heap.size w w1 := by
        rw [hw1]
        exact hb1.setCell (p := ⟨W0.heap.size, 0, none⟩) hsz _
      have ho2 : own8 w1 w.heap.size (.slice a1 b.length c1) b := by
        rw [hw1]
        refine ((Chg.refl (fun k => k = W0.heap.size) w0).setCell rfl _).owns (owns_base ho (by simp; omega)) fun k hk => ?_
        have := World.ownsRow.lt ho k hk
        simp at this
        omega
      have HB2 := Lib.hid hb2
      have HO2 := Lib.hid ho2
      have HT : Hid (EncTells (val Ns) (val Es) 0 b) := .inl ⟨h1, h2, rfl, hT⟩
      clear hT hb2 ho2 ho hw1 hb hb1 HB0 he h1 h2
      go_wp2
      go_ret2
      exact ⟨HB2.out, _, _, _, _, rfl, HO2.out, HT.out⟩
    · rw [he] at he0
      cases he0
  · rcases hor with ⟨h1, h2, a1, c1, b, he, ho, hT⟩ | ⟨hi, he⟩
    · rw [he] at he0
      cases he0
    · rw [he] at he0
      simp only [pan, Ending.panicked.injEq, List.cons.injEq, PanicEntry.mk.injEq, Value.iface.injEq, Value.int.injEq, true_and, and_true] at he0
      subst he0
      have hb2 : Below w.heap.size w w1 := by
        rw [hw1]
        exact hb1.setCell (p := ⟨W0.heap.size, 0, none⟩) hsz _
      have HT : Hid (EncTells (val Ns) (val Es) 3 []) := .inr ⟨hi, rfl, rfl⟩
      have HB2 := Lib.hid hb2
      clear hi he hb2 hw1 hb hb1 HB0
      go_wp2
      go_ret2
      exact ⟨HB2.out, none, 0, _, [], rfl, World.ownsRow_nil _ _ _ _, HT.out⟩
end Go.Proofs.Ytkghgfiindpcjaa
