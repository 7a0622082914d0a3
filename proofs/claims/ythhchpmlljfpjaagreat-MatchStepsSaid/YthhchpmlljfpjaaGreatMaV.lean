import Derived.Test.YthhchpmlljfpjaaGreatNfY
import Derived.Test.YthhchpmlljfpjaaGreatNfD
import Derived.Test.YthhchpmlljfpjaaGreatNfL
import Derived.Test.YthhchpmlljfpjaaGreatPtK
namespace Go.Proofs.YthhchpmlljfpjaaGreat
open Go.ChangeShapes Go.WideShapes Go.ChangeAt Go.RowKit

/-! A machine that is handed in. -/
theorem cells_stateV : Tryz.prog.cellsOf 48 = 7 := by kernel_rfl
theorem cells_nfaV : Tryz.prog.cellsOf 24 = 2 := by kernel_rfl
set_option maxRecDepth 100000 in
theorem opened_stateF {H : Type} {enc : TypeId × Value → H} {W : World} (fuel : Nat) {cs : List Value} {y : DataW H × List MemPlace} (h : DataW.trod enc Tryz.prog W 0 (fun _ => true) true fuel 48 cs = some y) : ∃ t : St, cs = t.cells ∧ t.s.fit := by
  obtain ⟨xs, n, rfl, -, hl, hn, hf⟩ := DataW.trod_struct Tryz.underlying48 h
  rw [cells_stateV] at hl
  have hn4 : xs.length = 4 := hn
  clear hn h
  match cs, hl, xs, hn4 with
  | [v0, v1, v2, v3, v4, v5, v6], _, [x0, x1, x2, x3], _ =>
    have z0 : DataW.trod enc Tryz.prog W 0 (fun _ => true) true n 3 [v0] = some x0 := hf 0 _ rfl
    have z1 : DataW.trod enc Tryz.prog W 0 (fun _ => true) true n 39 [v1, v2, v3, v4] = some x1 := hf 1 _ rfl
    have z2 : DataW.trod enc Tryz.prog W 0 (fun _ => true) true n 3 [v5] = some x2 := hf 2 _ rfl
    have z3 : DataW.trod enc Tryz.prog W 0 (fun _ => true) true n 3 [v6] = some x3 := hf 3 _ rfl
    clear hf
    obtain ⟨k, hk, rfl⟩ := opened_i64 z0
    obtain ⟨s, hs, e1⟩ := opened_setC z1
    obtain ⟨m, hm, rfl⟩ := opened_i64 z2
    obtain ⟨q, hq, rfl⟩ := opened_i64 z3
    simp only [List.cons.injEq, and_true] at e1
    obtain ⟨rfl, rfl, rfl, rfl⟩ := e1
    exact ⟨⟨k, s, m, q⟩, rfl, hs⟩
set_option maxRecDepth 100000 in
theorem opened_nfaF {H : Type} {enc : TypeId × Value → H} {W : World} (fuel : Nat) {cs : List Value} {y : DataW H × List MemPlace} (h : DataW.trod enc Tryz.prog W 0 (fun _ => true) true fuel 24 cs = some y) :
    ∃ (L : List St) (a : Option Addr) (c : Nat) (q : Int), cs = [.slice a L.length c, .int .i64 q] ∧ RowAt W a (L.flatMap St.cells) ∧ (a = none → c = 0) ∧ ∀ x ∈ L, x.s.fit := by
  obtain ⟨xs, n, rfl, -, hl, hn, hf⟩ := DataW.trod_struct Tryz.underlying24 h
  rw [cells_nfaV] at hl
  have hn2 : xs.length = 2 := hn
  clear hn h
  match cs, hl, xs, hn2 with
  | [v0, v1], _, [x0, x1], _ =>
    have z0 : DataW.trod enc Tryz.prog W 0 (fun _ => true) true n 22 [v0] = some x0 := hf 0 _ rfl
    have z1 : DataW.trod enc Tryz.prog W 0 (fun _ => true) true n 3 [v1] = some x1 := hf 1 _ rfl
    clear hf
    obtain ⟨q, hq, rfl⟩ := opened_i64 z1
    rcases DataW.trod_slice Tryz.underlying22 z0 with ⟨e, -⟩ | ⟨a, len, cap, elems, rest, n', rfl, e, -, -, hlc, hcm, hel, hat, -, -⟩
    · obtain rfl : v0 = .slice none 0 0 := by simpa using e
      exact ⟨[], none, 0, q, rfl, .inl rfl, fun _ => rfl, fun x hx => (by cases hx)⟩
    · obtain rfl : v0 = .slice (some a) len cap := by simpa using e
      rw [cells_stateV] at hat
      have key : ∀ i, i < len → ∃ t : St, (∀ j, j < 7 → W.cell? ((a.add (i * 7)).add j) = t.cells[j]?) ∧ t.s.fit := by
        intro i hi
        have h1 := hat i hi
        rw [List.getElem?_eq_getElem (by omega)] at h1
        obtain ⟨cs', h2, h3⟩ := Option.bind_eq_some_iff.1 h1
        obtain ⟨t, rfl, hfit⟩ := opened_stateF _ h3
        obtain ⟨-, -, hc⟩ := World.cells?_some h2
        exact ⟨t, hc, hfit⟩
      have all : ∀ c, c ≤ len → ∃ ps : List St, ps.length = c ∧ ∀ i (h : i < ps.length), (∀ j, j < 7 → W.cell? ((a.add (i * 7)).add j) = (ps[i]).cells[j]?) ∧ (ps[i]).s.fit := by
        intro c
        induction c with
        | zero => exact fun _ => ⟨[], rfl, fun i h => absurd h (Nat.not_lt_zero _)⟩
        | succ c ih2 =>
          intro hc
          obtain ⟨ps, hps, hall⟩ := ih2 (by omega)
          obtain ⟨t, ht⟩ := key c (by omega)
          refine ⟨ps ++ [t], by simp [hps], fun i hi => ?_⟩
          by_cases hic : i < ps.length
          · rw [List.getElem_append_left hic]
            exact hall i hic
          · have hi2 : i = c := by simp at hi; omega
            subst hi2
            rw [List.getElem_append_right (by omega)]
            simpa [hps] using ht
      obtain ⟨ps, rfl, hps⟩ := all len (Nat.le_refl _)
      refine ⟨ps, some a, cap, q, rfl, ?_, fun h => (by cases h), fun x hx => (by obtain ⟨i, hi, rfl⟩ := List.getElem_of_mem hx; exact (hps i hi).2)⟩
      by_cases h0 : ps = []
      · exact .inl (by rw [h0]; rfl)
      · have hpos : 0 < ps.length := List.length_pos_iff.2 h0
        obtain ⟨b, off, spot⟩ := a
        have hadd : ∀ j, (⟨b, off, spot⟩ : Addr).add 0 = ⟨b, off, spot⟩ ∧ (⟨b, off, none⟩ : Addr).add j = ⟨b, off + j, none⟩ := fun j => ⟨by unfold Addr.add; rw [if_pos rfl], by unfold Addr.add; split <;> simp_all⟩
        have hspot : spot = none := by
          have h1 := (hps 0 hpos).1 0 (by decide)
          rw [Nat.zero_mul, (hadd 0).1, (hadd 0).1] at h1
          have h2 : ((ps[0]).cells)[0]? = some (.int .i64 (ps[0]).k) := rfl
          rw [h2] at h1
          simpa using World.cell?_spot h1
        subst hspot
        refine .inr ⟨b, off, rfl, fun j v hv => ?_⟩
        have hj : j < 7 * ps.length := by
          have := (List.getElem?_eq_some_iff.1 hv).1
          rwa [stflat_len] at this
        have hi : j / 7 < ps.length := by omega
        have h1 := (hps (j / 7) hi).1 (j % 7) (by omega)
        rw [← stflat_at ps (j / 7) hi (j % 7) (by omega), show 7 * (j / 7) + j % 7 = j by omega, hv, (hadd _).2] at h1
        have h2 : (⟨b, off + j / 7 * 7, none⟩ : Addr).add (j % 7) = ⟨b, off + j, none⟩ := by
          have : off + j / 7 * 7 + j % 7 = off + j := by omega
          unfold Addr.add; split <;> simp_all
        rw [h2] at h1
        exact h1
set_option maxRecDepth 100000 in
theorem opened_nfaX {H : Type} {enc : TypeId × Value → H} {W : World} {base : Nat} {v : Value} {d : DataW H} {p : List MemPlace} (hv : Value.okWide Tryz.prog W .any base 24 v) (h : DataW.Trod enc Tryz.prog W 0 (fun _ => true) true 24 v d p) :
    ∃ (L : List St) (a : Option Addr) (c : Nat) (q : Int), v = .agg #[.slice a L.length c, .int .i64 q] ∧ RowAt W a (L.flatMap St.cells) ∧ (a = none → c = 0) ∧ ∀ x ∈ L, x.s.fit := by
  unfold Value.okWide at hv
  rw [Tryz.underlying24] at hv
  obtain ⟨cs, rfl, -⟩ := hv
  obtain ⟨fuel, hf⟩ := h
  obtain ⟨L, a, c, q, e, h2, h3⟩ := opened_nfaF fuel (show DataW.trod enc Tryz.prog W 0 (fun _ => true) true fuel 24 cs.toList = some (d, p) from hf)
  refine ⟨L, a, c, q, ?_, h2, h3⟩
  have : cs = #[.slice a L.length c, .int .i64 q] := by rw [← Array.toArray_toList (xs := cs), e]
  rw [this]
set_option maxRecDepth 100000 in
theorem gl_ofM {W : World} (h : W.ShapedOpen Tryz.prog) : Gl W ∧ 0 + 2 ≤ W.heap.size := by
  obtain ⟨h1, h2⟩ := h
  obtain ⟨cs, e1, e2, e3⟩ := h1 0 #[.int .i64 0] 3 (of_decide_eq_true (by kernel_rfl)) (by kernel_rfl)
  have hk : Tryz.prog.globals.size < (begin Tryz.prog (fun _ _ => 0) default).world.heap.size := of_decide_eq_true (by kernel_rfl)
  obtain ⟨o, o2, e4, -⟩ := h2 Tryz.prog.globals.size (Nat.le_refl _) hk
  have hk2 : 0 + 1 ≤ Tryz.prog.globals.size := of_decide_eq_true (by kernel_rfl)
  clear h2 h1 hk
  have e5 := (Array.getElem?_eq_some_iff.1 e4).1
  have e6 : 0 + 1 < W.heap.size := Nat.lt_of_le_of_lt hk2 e5
  refine ⟨?_, e6⟩
  obtain ⟨ts, f1, -, f2⟩ := e3 (by kernel_rfl)
  obtain rfl : ts = [3] := Option.some.inj (f1.symm.trans (by kernel_rfl))
  have hs : cs.size = 1 := e2
  obtain ⟨u, g1, g2⟩ := f2 0 cs[0] (by rw [Array.getElem?_eq_getElem])
  obtain rfl : u = 3 := (Option.some.inj (show some 3 = some u from g1)).symm
  unfold Cell.ok at g2
  rw [Tryz.underlying3] at g2
  generalize hc : cs[0] = c at g2
  have hcell : W.cell? ⟨0, 0, none⟩ = some c := by
    unfold World.cell?
    simp [e1, hs, hc]
  clear e3 f2 e1 e4 e5 e6 hk2
  have hgl : ∀ (k : IntKind) (n : Int), IntKind.i64 = k → W.cell? ⟨0, 0, none⟩ = some (.int k n) → Gl W := fun k n e h => ⟨n, by rw [e]; exact h⟩
  split at g2 <;> simp_all
end Go.Proofs.YthhchpmlljfpjaaGreat
