import Derived.Test.YthhchpmlljfpjaaGreatPuD
import Derived.Test.YthhchpmlljfpjaaGreatProg
import Derived.ChangeMaps5
import Derived.Deep.DeepHandedRow
import Derived.Deep.Slices
import Derived.LaidOnce
import Derived.Lay
import Derived.OpenShut
import Derived.ProofKit
import Derived.SevenTiedAt
namespace Go.Proofs.YthhchpmlljfpjaaGreat
open Go.ChangeShapes Go.WideShapes Go.ChangeAt Go.RowKit

theorem own_knob : ownKnob Tryz.prog.godebug = none := by kernel_rfl
theorem laid_out : laidOutB Tryz.prog = true := by kernel_rfl
theorem cells_nodeT : Tryz.prog.cellsOf 42 = 8 := by kernel_rfl
theorem cells_setT : Tryz.prog.cellsOf 39 = 4 := by kernel_rfl
theorem cells_u64T : Tryz.prog.cellsOf 37 = 1 := by kernel_rfl
theorem opened_u64 {H : Type} {enc : TypeId × Value → H} {W : World} {fuel : Nat} {v : Value} {y : DataW H × List MemPlace} (h : DataW.trod enc Tryz.prog W 0 (fun _ => true) true fuel 37 [v] = some y) : ∃ n : Nat, n < 2 ^ 64 ∧ v = .int .u64 (n : Nat) := by
  obtain ⟨z, hz, -, hw⟩ := DataW.trod_int Tryz.underlying37 h
  obtain rfl : v = .int .u64 z := by simpa using hz
  simp [Lit.wf, IntKind.min, IntKind.max, IntKind.signed, IntKind.bits] at hw
  exact ⟨z.toNat, by omega, by rw [Int.toNat_of_nonneg hw.1]⟩
theorem opened_i64 {H : Type} {enc : TypeId × Value → H} {W : World} {fuel : Nat} {v : Value} {y : DataW H × List MemPlace} (h : DataW.trod enc Tryz.prog W 0 (fun _ => true) true fuel 3 [v] = some y) : ∃ n : Int, In64 n ∧ v = .int .i64 n := by
  obtain ⟨z, hz, -, hw⟩ := DataW.trod_int Tryz.underlying3 h
  obtain rfl : v = .int .i64 z := by simpa using hz
  simp [Lit.wf, IntKind.min, IntKind.max, IntKind.signed, IntKind.bits] at hw
  exact ⟨z, hw, rfl⟩
set_option maxRecDepth 100000 in
theorem opened_setC {H : Type} {enc : TypeId × Value → H} {W : World} {fuel : Nat} {cs : List Value} {y : DataW H × List MemPlace} (h : DataW.trod enc Tryz.prog W 0 (fun _ => true) true fuel 39 cs = some y) :
    ∃ s : S4, s.fit ∧ cs = [.int .u64 (s.a : Nat), .int .u64 (s.b : Nat), .int .u64 (s.c : Nat), .int .u64 (s.d : Nat)] := by
  obtain ⟨xs, m, rfl, -, hl, hn, hel⟩ := DataW.trod_array Tryz.underlying39 h
  rw [cells_setT] at hl
  rw [cells_u64T] at hel
  match cs, hl, xs, hn with
  | [v0, v1, v2, v3], _, [x0, x1, x2, x3], _ =>
    obtain ⟨a, ha, rfl⟩ := opened_u64 (show DataW.trod enc Tryz.prog W 0 (fun _ => true) true m 37 [v0] = some x0 from hel 0 (by decide))
    obtain ⟨b, hb, rfl⟩ := opened_u64 (show DataW.trod enc Tryz.prog W 0 (fun _ => true) true m 37 [v1] = some x1 from hel 1 (by decide))
    obtain ⟨c, hc, rfl⟩ := opened_u64 (show DataW.trod enc Tryz.prog W 0 (fun _ => true) true m 37 [v2] = some x2 from hel 2 (by decide))
    obtain ⟨d, hd, rfl⟩ := opened_u64 (show DataW.trod enc Tryz.prog W 0 (fun _ => true) true m 37 [v3] = some x3 from hel 3 (by decide))
    exact ⟨⟨a, b, c, d⟩, ⟨ha, hb, hc, hd⟩, rfl⟩
theorem flat_len (ps : List NT) : (ps.flatMap NT.cells).length = 8 * ps.length := by
  induction ps with
  | nil => rfl
  | cons t ts ih => rw [List.flatMap_cons, List.length_append, ih, cells_len, List.length_cons]; omega
set_option maxRecDepth 100000 in
theorem opened_nodeC {H : Type} {enc : TypeId × Value → H} {W : World} (fuel : Nat) : ∀ {cs : List Value} {y : DataW H × List MemPlace}, DataW.trod enc Tryz.prog W 0 (fun _ => true) true fuel 42 cs = some y →
    ∃ t : NT, cs = t.cells ∧ t.num ∧ t.Lies W := by
  induction fuel using Nat.strongRecOn with
  | ind fuel ih =>
  intro cs y h
  obtain ⟨xs, n, rfl, -, hl, hn, hf⟩ := DataW.trod_struct Tryz.underlying42 h
  rw [cells_nodeT] at hl
  have hn5 : xs.length = 5 := hn
  clear hn h
  match cs, hl, xs, hn5 with
  | [v0, v1, v2, v3, v4, v5, v6, v7], _, [x0, x1, x2, x3, x4], _ =>
    have z0 : DataW.trod enc Tryz.prog W 0 (fun _ => true) true n 3 [v0] = some x0 := hf 0 _ rfl
    have z1 : DataW.trod enc Tryz.prog W 0 (fun _ => true) true n 39 [v1, v2, v3, v4] = some x1 := hf 1 _ rfl
    have z2 : DataW.trod enc Tryz.prog W 0 (fun _ => true) true n 3 [v5] = some x2 := hf 2 _ rfl
    have z3 : DataW.trod enc Tryz.prog W 0 (fun _ => true) true n 3 [v6] = some x3 := hf 3 _ rfl
    have z4 : DataW.trod enc Tryz.prog W 0 (fun _ => true) true n 40 [v7] = some x4 := hf 4 _ rfl
    clear hf
    obtain ⟨k, hk, rfl⟩ := opened_i64 z0
    obtain ⟨s, hs, e1⟩ := opened_setC z1
    obtain ⟨m, hm, rfl⟩ := opened_i64 z2
    obtain ⟨q, hq, rfl⟩ := opened_i64 z3
    simp only [List.cons.injEq, and_true] at e1
    obtain ⟨rfl, rfl, rfl, rfl⟩ := e1
    rcases DataW.trod_slice Tryz.underlying40 z4 with ⟨e, -⟩ | ⟨a, len, cap, elems, rest, n', rfl, e, -, -, hlc, hcm, hel, hat, -, -⟩
    · obtain rfl : v7 = .slice none 0 0 := by simpa using e
      exact ⟨.mk k s m q (.slice none 0 0) [], rfl, NT.num_mk.2 ⟨hk, hm, hq, hs, fun _ h => (by cases h)⟩, NT.Lies_mk.2 ⟨⟨none, 0, rfl, .inl rfl⟩, fun _ h => (by cases h)⟩⟩
    · obtain rfl : v7 = .slice (some a) len cap := by simpa using e
      rw [cells_nodeT] at hat
      have key : ∀ i, i < len → ∃ t : NT, (∀ j, j < 8 → W.cell? ((a.add (i * 8)).add j) = t.cells[j]?) ∧ t.num ∧ t.Lies W := by
        intro i hi
        have h1 := hat i hi
        rw [List.getElem?_eq_getElem (by omega)] at h1
        obtain ⟨cs', h2, h3⟩ := Option.bind_eq_some_iff.1 h1
        obtain ⟨t, rfl, ht1, ht2⟩ := ih n' (by omega) h3
        obtain ⟨-, -, hc⟩ := World.cells?_some h2
        exact ⟨t, hc, ht1, ht2⟩
      have all : ∀ c, c ≤ len → ∃ ps : List NT, ps.length = c ∧ ∀ i (h : i < ps.length), (∀ j, j < 8 → W.cell? ((a.add (i * 8)).add j) = (ps[i]).cells[j]?) ∧ (ps[i]).num ∧ (ps[i]).Lies W := by
        intro c
        induction c with
        | zero => exact fun _ => ⟨[], rfl, fun i h => absurd h (Nat.not_lt_zero _)⟩
        | succ c ih2 =>
          intro hc
          obtain ⟨ps, hps, hall⟩ := ih2 (by omega)
          obtain ⟨t, ht⟩ := key c (by omega)
          refine ⟨ps ++ [t], by simp [hps], fun i hi => ?_⟩
          by_cases hic : i < ps.length
          · rw [List.getElem_append_left hic]
            exact hall i hic
          · have hi2 : i = c := by simp at hi; omega
            subst hi2
            rw [List.getElem_append_right (by omega)]
            simpa [hps] using ht
      obtain ⟨ps, rfl, hps⟩ := all len (Nat.le_refl _)
      have hmem : ∀ t ∈ ps, t.num ∧ t.Lies W := fun t ht => by
        obtain ⟨i, hi, rfl⟩ := List.getElem_of_mem ht
        exact (hps i hi).2
      refine ⟨.mk k s m q (.slice (some a) ps.length cap) ps, rfl, NT.num_mk.2 ⟨hk, hm, hq, hs, fun t ht => (hmem t ht).1⟩, NT.Lies_mk.2 ⟨⟨some a, cap, rfl, ?_⟩, fun t ht => (hmem t ht).2⟩⟩
      by_cases h0 : ps = []
      · exact .inl (by rw [h0]; rfl)
      · have hpos : 0 < ps.length := List.length_pos_iff.2 h0
        obtain ⟨b, off, spot⟩ := a
        have hadd : ∀ j, (⟨b, off, spot⟩ : Addr).add 0 = ⟨b, off, spot⟩ ∧ (⟨b, off, none⟩ : Addr).add j = ⟨b, off + j, none⟩ := fun j => ⟨by unfold Addr.add; rw [if_pos rfl], by unfold Addr.add; split <;> simp_all⟩
        have hspot : spot = none := by
          have h1 := (hps 0 hpos).1 0 (by decide)
          rw [Nat.zero_mul, (hadd 0).1, (hadd 0).1] at h1
          have h2 : ((ps[0]).cells)[0]? = some (.int .i64 (ps[0]).k) := rfl
          rw [h2] at h1
          simpa using World.cell?_spot h1
        subst hspot
        refine .inr ⟨b, off, rfl, fun j v hv => ?_⟩
        have hj : j < 8 * ps.length := by
          have := (List.getElem?_eq_some_iff.1 hv).1
          rwa [flat_len] at this
        have hi : j / 8 < ps.length := by omega
        have h1 := (hps (j / 8) hi).1 (j % 8) (by omega)
        rw [← flat_at ps (j / 8) hi (j % 8) (by omega), show 8 * (j / 8) + j % 8 = j by omega, hv, (hadd _).2] at h1
        have h2 : (⟨b, off + j / 8 * 8, none⟩ : Addr).add (j % 8) = ⟨b, off + j, none⟩ := by
          have : off + j / 8 * 8 + j % 8 = off + j := by omega
          unfold Addr.add; split <;> simp_all
        rw [h2] at h1
        exact h1
set_option maxRecDepth 100000 in
/-- A tree that is handed in. -/
theorem opened_node {H : Type} {enc : TypeId × Value → H} {W : World} {base : Nat} {v : Value} {d : DataW H} {p : List MemPlace} (hv : Value.okWide Tryz.prog W .any base 42 v) (h : DataW.Trod enc Tryz.prog W 0 (fun _ => true) true 42 v d p) :
    ∃ t : NT, v = t.val ∧ t.num ∧ t.Lies W := by
  unfold Value.okWide at hv
  rw [Tryz.underlying42] at hv
  obtain ⟨cs, rfl, -⟩ := hv
  obtain ⟨fuel, hf⟩ := h
  obtain ⟨t, e, h1, h2⟩ := opened_nodeC fuel (show DataW.trod enc Tryz.prog W 0 (fun _ => true) true fuel 42 cs.toList = some (d, p) from hf)
  refine ⟨t, ?_, h1, h2⟩
  have : cs = t.cells.toArray := by rw [← e]
  rw [this]
  rfl
end Go.Proofs.YthhchpmlljfpjaaGreat
