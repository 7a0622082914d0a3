import Derived.Test.YtpipjkpjpkgmpaaDoorOpen
import Derived.Test.YtpipjkpjpkgmpaaDoorShV
import Derived.Test.YtpipjkpjpkgmpaaDoorShPc
import Derived.Deep.Slices
import Derived.Deep.Fields
namespace Go.Proofs.YtpipjkpjpkgmpaaDoor
open Go.ChangeShapes Go.WideShapes Go.ChangeAt Go.RowKit

theorem addr0 (x : Addr) : x.add 0 = x := by
  unfold Addr.add
  rw [if_pos rfl]
theorem cells_step : Tryd.prog.cellsOf 27 = 2 := by kernel_rfl
theorem cells_int : Tryd.prog.cellsOf 3 = 1 := by kernel_rfl
theorem cells_l8 : Tryd.prog.cellsOf 25 = 1 := by kernel_rfl
set_option maxRecDepth 100000 in
/-- A script that is handed in. -/
theorem opened_steps {H : Type} {enc : TypeId × Value → H} {W : World} {a0 : Option Addr} {len cap : Nat} {d0 : DataW H} {p : List MemPlace}
    (h0 : DataW.Trod enc Tryd.prog W 0 (fun _ => true) true 22 (.slice a0 len cap) d0 p) : len ≤ 9223372036854775807 ∧ Steps W a0 len := by
  obtain ⟨fuel, hf⟩ := h0
  rcases Go.Deep.open_slice Tryd.underlying22 hf with ⟨hcs, -⟩ | ⟨a, len', cap', m, n, D, Pl, hcs, -, hl, hm, hmm, -, hat⟩
  · simp [Value.cells] at hcs
    obtain ⟨rfl, rfl, rfl⟩ := hcs
    exact ⟨by decide, fun h => by cases h⟩
  · simp [Value.cells] at hcs
    obtain ⟨rfl, rfl, rfl⟩ := hcs
    refine ⟨Nat.le_trans hl (Nat.le_trans hm (by decide)), fun h0 => ?_⟩
    have hml : len ≤ m := by rw [hmm]; split <;> omega
    rw [cells_step] at hat
    have key : ∀ i, i < len → ∃ (k : Int) (aa : Option Addr) (n c : Nat) (xs : List Nat), W.cell? (a.add (i * 2)) = some (.int .i64 k) ∧ W.cell? ((a.add (i * 2)).add 1) = some (.slice aa n c) ∧ xs.length = n ∧ n ≤ c ∧ c ≤ 9223372036854775807 ∧ (aa = none → c = 0) ∧ (∀ x ∈ xs, x < 256) ∧ Rd .u8 W aa xs := by
      intro i hi
      obtain ⟨cs', hc, ht⟩ := hat i (by omega)
      obtain ⟨-, hcl, hcell⟩ := World.cells?_some hc
      obtain ⟨y0, y1, n', -, -, hy0, hy1⟩ := trod_struct2 Tryd.underlying27 ht
      match cs', hcl with
      | [v0, v1], _ =>
        have g0 := hcell 0 (by omega)
        have g1 := hcell 1 (by omega)
        have z0 : DataW.trod enc Tryd.prog W 0 (fun _ => true) true n' 3 [v0] = some y0 := hy0
        have z1 : DataW.trod enc Tryd.prog W 0 (fun _ => true) true n' 25 [v1] = some y1 := hy1
        obtain ⟨k, hk, -, -⟩ := DataW.trod_int Tryd.underlying3 z0
        obtain rfl : v0 = .int .i64 k := by simpa using hk
        have hv1 : ∃ aa n c, v1 = .slice aa n c := by
          rcases open_ints Tryd.underlying25 Tryd.underlying5 cells_u8 z1 with ⟨h, -⟩ | ⟨a, l, c, zs, h, -⟩
          · exact ⟨_, _, _, by simpa using h⟩
          · exact ⟨_, _, _, by simpa using h⟩
        obtain ⟨aa, nn, cc, rfl⟩ := hv1
        obtain ⟨xs, hxl, hnc, hcm, hr, h8, hna⟩ := opened_nums (k := .u8) (d0 := y1.1) (p := y1.2) Tryd.underlying25 Tryd.underlying5 cells_u8 rfl ⟨n', z1⟩
        refine ⟨k, aa, nn, cc, xs, ?_, g1, hxl, hnc, Nat.le_trans hcm (by decide), hna, fun x hx => ?_, hr⟩
        · rw [addr0] at g0
          exact g0
        · have := h8 x hx
          simp [IntKind.max, IntKind.signed, IntKind.bits] at this
          omega
    obtain ⟨b, off, spot⟩ := a
    have hspot : spot = none := by
      obtain ⟨k, aa, n, c, xs, h, _⟩ := key 0 h0
      have h2 : (⟨b, off, spot⟩ : Addr).add (0 * 2) = ⟨b, off, spot⟩ := by unfold Addr.add; split <;> simp_all
      rw [h2] at h
      simpa using World.cell?_spot h
    subst hspot
    refine ⟨b, off, rfl, fun i hi => ?_⟩
    obtain ⟨k, aa, n, c, xs, h1, h2, h3⟩ := key i hi
    have e1 : (⟨b, off, none⟩ : Addr).add (i * 2) = ⟨b, off + i * 2, none⟩ := by unfold Addr.add; split <;> simp_all
    have e2 : (⟨b, off + i * 2, none⟩ : Addr).add 1 = ⟨b, off + i * 2 + 1, none⟩ := by unfold Addr.add; split <;> simp_all
    rw [e1] at h1 h2
    rw [e2] at h2
    exact ⟨k, aa, n, c, xs, h1, h2, h3⟩
end Go.Proofs.YtpipjkpjpkgmpaaDoor
