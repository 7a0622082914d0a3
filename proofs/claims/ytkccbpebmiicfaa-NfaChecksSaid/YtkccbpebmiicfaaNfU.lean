import Derived.Test.YtkccbpebmiicfaaNfN
import Derived.Test.YtkccbpebmiicfaaNfT
import Derived.Test.YtkccbpebmiicfaaNfS
namespace Go.Proofs.Ytkccbpebmiicfaa
open Go.RowKit

/-! Any machine: may it be. -/
set_option maxHeartbeats 2000000 in
set_option maxRecDepth 100000 in
theorem p_NfaChecks (L : List St) (a : Option Addr) (c : Nat) (q : Int) (w : World) (hr : RowAt w a (L.flatMap St.cells)) (hnone : a = none → c = 0) :
    Calls Try.prog 4 #[.agg #[.slice a L.length c, .int .i64 q]] w fun e w' => e = .returned (.bool true) ∧ Below w.heap.size w w' := by
  have hlent := fun W (hW : Below w.heap.size w W) (h5 : L.length ≤ 5000) => n_lentNfa L a c q W h5 (hr.mono (below_cell hW)) hnone
  have hchk := fun g cap W (hx : RowAt W (some ⟨g, 0, none⟩) ((L ++ List.replicate 5 badS).flatMap St.cells)) (h5 : L.length ≤ 5000) => n_checkM L (some ⟨g, 0, none⟩) cap q W (by omega) (lent_row hx)
  have hrchk := fun W (hW : Below w.heap.size w W) (h5 : L.length ≤ 5000) => n_rcheck L a c q W (by omega) (hr.mono (below_cell hW))
  have hkept := fun g cap W (hx : RowAt W (some ⟨g, 0, none⟩) ((L ++ List.replicate 5 badS).flatMap St.cells)) (hW : Below w.heap.size w W) (h5 : L.length ≤ 5000) (hc : L.length + 5 ≤ cap) => n_keptNfa L g cap c a q W h5 hc hx (hr.mono (below_cell hW))
  obtain ⟨Z, hZ⟩ : ∃ Z, chkM L q = Z := ⟨_, rfl⟩
  rw [hZ] at hchk hrchk
  obtain ⟨len, hl⟩ : ∃ len, L.length = len := ⟨_, rfl⟩
  rw [hl] at hlent hchk hrchk hkept ⊢
  obtain ⟨F, hF⟩ : ∃ F, (L ++ List.replicate 5 badS).flatMap St.cells = F := ⟨_, rfl⟩
  rw [hF] at hlent hchk hkept
  have HLENT := Lib.hid hlent
  have HCHK := Lib.hid hchk
  have HRCHK := Lib.hid hrchk
  have HKEPT := Lib.hid hkept
  have HB1 : Hid (Below w.heap.size w (w.alloc (.cells #[.slice a len c, .int .i64 q] 35))) := (Below.refl _ _).alloc (Nat.le_refl _) _
  have HC1 : Hid (CB (w.alloc (.cells #[.slice a len c, .int .i64 q] 35)) 35 w.heap.size [.slice a len c, .int .i64 q]) := CB.new w _ _
  clear hlent hchk hrchk hkept hr hnone hZ hl hF
  by_cases h5 : 5000 < len
  · have h5i : (5000 : Int) < (len : Int) := by omega
    go_enter Try.func4, Try.ntmps4
    go_wp2
    go_ret
    exact ⟨rfl, HB1.out⟩
  · have h5i : ¬ (5000 : Int) < (len : Int) := by omega
    have h5n : len ≤ 5000 := by omega
    go_enter Try.func4, Try.ntmps4
    go_wp2_with (go_at_call 17; refine (HLENT.out _ HB1.out h5n).mono ?_; rintro e w2 ⟨hb2, g, cap, hcap, rfl, hrow2⟩; have HB2 := Lib.hid (HB1.out.trans (hb2.mono HB1.out.size)); have HC2 := Lib.hid (CB.below HC1.out hb2); have HR2 := Lib.hid hrow2; have HCAP := Lib.hid hcap; obtain ⟨⟨m0, m1⟩, -⟩ := CB.two HC2.out; clear hb2 hrow2 hcap)
    obtain ⟨N, hN⟩ : ∃ N, w2.heap.size = N := ⟨_, rfl⟩
    obtain ⟨W4, hW4⟩ : ∃ W4, w2.alloc (.cells #[.slice (some ⟨g, 0, none⟩) len cap, .int .i64 q] 35) = W4 := ⟨_, rfl⟩
    have hb4 : Below w2.heap.size w2 W4 := hW4 ▸ (Below.refl _ _).alloc (Nat.le_refl _) _
    have hC4 := CB.two (CB.below HC2.out hb4)
    have hN4 : CB W4 35 N [.slice (some ⟨g, 0, none⟩) len cap, .int .i64 q] := hN ▸ hW4 ▸ CB.new w2 _ _
    have hN4' := CB.two hN4
    have hR4 := RowAt.mono HR2.out (below_cell hb4)
    have hB4 := HB2.out.trans (hb4.mono HB2.out.size)
    have HS0 : Hid (W4.cell? ⟨w.heap.size, 0, none⟩ = some (.slice a len c) ∧ W4.cell? ⟨w.heap.size, 1, none⟩ = some (.int .i64 q) ∧ W4.cell? ⟨N, 0, none⟩ = some (.slice (some ⟨g, 0, none⟩) len cap) ∧ W4.cell? ⟨N, 1, none⟩ = some (.int .i64 q) ∧ RowAt W4 (some ⟨g, 0, none⟩) F ∧ Below w.heap.size w W4) := ⟨hC4.1.1, hC4.1.2, hN4'.1.1, hN4'.1.2, hR4, hB4⟩
    have HK : Hid (∀ W W', (W.cell? ⟨w.heap.size, 0, none⟩ = some (.slice a len c) ∧ W.cell? ⟨w.heap.size, 1, none⟩ = some (.int .i64 q) ∧ W.cell? ⟨N, 0, none⟩ = some (.slice (some ⟨g, 0, none⟩) len cap) ∧ W.cell? ⟨N, 1, none⟩ = some (.int .i64 q) ∧ RowAt W (some ⟨g, 0, none⟩) F ∧ Below w.heap.size w W) → Below W.heap.size W W' → (W'.cell? ⟨w.heap.size, 0, none⟩ = some (.slice a len c) ∧ W'.cell? ⟨w.heap.size, 1, none⟩ = some (.int .i64 q) ∧ W'.cell? ⟨N, 0, none⟩ = some (.slice (some ⟨g, 0, none⟩) len cap) ∧ W'.cell? ⟨N, 1, none⟩ = some (.int .i64 q) ∧ RowAt W' (some ⟨g, 0, none⟩) F ∧ Below w.heap.size w W')) := fun W W' h hb => ⟨below_cell hb _ _ h.1, below_cell hb _ _ h.2.1, below_cell hb _ _ h.2.2.1, below_cell hb _ _ h.2.2.2.1, RowAt.mono h.2.2.2.2.1 (below_cell hb), h.2.2.2.2.2.trans (hb.mono h.2.2.2.2.2.size)⟩
    have HSD : Hid (W4.drew.cell? ⟨w.heap.size, 0, none⟩ = some (.slice a len c) ∧ W4.drew.cell? ⟨w.heap.size, 1, none⟩ = some (.int .i64 q) ∧ W4.drew.cell? ⟨N, 0, none⟩ = some (.slice (some ⟨g, 0, none⟩) len cap) ∧ W4.drew.cell? ⟨N, 1, none⟩ = some (.int .i64 q) ∧ RowAt W4.drew (some ⟨g, 0, none⟩) F ∧ Below w.heap.size w W4.drew) := HK.out _ _ HS0.out (Below.refl _ _).drew
    have HKR : Hid (∀ W, (W.cell? ⟨w.heap.size, 0, none⟩ = some (.slice a len c) ∧ W.cell? ⟨w.heap.size, 1, none⟩ = some (.int .i64 q) ∧ W.cell? ⟨N, 0, none⟩ = some (.slice (some ⟨g, 0, none⟩) len cap) ∧ W.cell? ⟨N, 1, none⟩ = some (.int .i64 q) ∧ RowAt W (some ⟨g, 0, none⟩) F ∧ Below w.heap.size w W) → RowAt W (some ⟨g, 0, none⟩) F) := fun W h => h.2.2.2.2.1
    have HKB : Hid (∀ W, (W.cell? ⟨w.heap.size, 0, none⟩ = some (.slice a len c) ∧ W.cell? ⟨w.heap.size, 1, none⟩ = some (.int .i64 q) ∧ W.cell? ⟨N, 0, none⟩ = some (.slice (some ⟨g, 0, none⟩) len cap) ∧ W.cell? ⟨N, 1, none⟩ = some (.int .i64 q) ∧ RowAt W (some ⟨g, 0, none⟩) F ∧ Below w.heap.size w W) → Below w.heap.size w W) := fun W h => h.2.2.2.2.2
    rw [hW4, hN]
    clear hb4 hC4 hN4 hN4' hR4 hB4 m0 m1 HB1 HC1 HB2 HC2 HR2 hW4 hN HLENT
    go_region_held3 (fun W => W.cell? ⟨w.heap.size, 0, none⟩ = some (.slice a len c) ∧ W.cell? ⟨w.heap.size, 1, none⟩ = some (.int .i64 q) ∧ W.cell? ⟨N, 0, none⟩ = some (.slice (some ⟨g, 0, none⟩) len cap) ∧ W.cell? ⟨N, 1, none⟩ = some (.int .i64 q) ∧ RowAt W (some ⟨g, 0, none⟩) F ∧ Below w.heap.size w W)
      (first | exact HS0.out | exact HSD.out | exact HK.out _ _ (by assumption) hb3)
      (first
      | (go_at_call 18; refine (HCHK.out g cap _ (HKR.out _ (by assumption)) h5n).mono ?_; rintro e w3 ⟨rfl, hb3⟩)
      | (go_at_call 19; refine (HRCHK.out _ (HKB.out _ (by assumption)) h5n).mono ?_; rintro e w3 ⟨rfl, hb3⟩)
      | (go_at_call 20; refine (HKEPT.out g cap _ (HKR.out _ (by assumption)) (HKB.out _ (by assumption)) h5n HCAP.out).mono ?_; rintro e w3 ⟨rfl, hb3⟩)
      | (go_at_call 16; refine (n_works _).mono ?_; rintro e w3 ⟨rfl, hb3⟩))
    all_goals
      have HBB := Lib.hid (HKB.out _ (by assumption))
      go_wp2
      go_ret
      exact ⟨rfl, HBB.out⟩
end Go.Proofs.Ytkccbpebmiicfaa
