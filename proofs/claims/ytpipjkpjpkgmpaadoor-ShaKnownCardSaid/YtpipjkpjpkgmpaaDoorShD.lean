import Derived.Test.YtpipjkpjpkgmpaaDoorShE0
import Derived.Test.YtpipjkpjpkgmpaaDoorShT
import Derived.BigRegion
import Derived.Deep.RegionHeld3
namespace Go.Proofs.YtpipjkpjpkgmpaaDoor
open Go.RowKit

theorem wrap32 (n : Nat) (h : n < 4294967296) : IntKind.u32.wrap (n : Int) = (n : Int) := by rw [IntKind.wrap_u32']; omega
/-- Four bytes as the reference joins them. -/
theorem ref_word (x0 x1 x2 x3 : Nat) (h0 : x0 < 256) (h1 : x1 < 256) (h2 : x2 < 256) (h3 : x3 < 256) :
    bits .or .u32 (bits .or .u32 (bits .or .u32 ((x0 : Int) * 16777216) ((x1 : Int) * 65536)) ((x2 : Int) * 256)) (x3 : Int) = ((((x0 * 256 + x1) * 256 + x2) * 256 + x3 : Nat) : Int) := by
  rw [show (x0 : Int) * 16777216 = ((x0 * 2 ^ 24 : Nat) : Int) by omega, show (x1 : Int) * 65536 = ((x1 * 65536 : Nat) : Int) by omega, show (x2 : Int) * 256 = ((x2 * 256 : Nat) : Int) by omega,
    or_join x0 _ 24 (by decide) (by omega) (by omega),
    show x0 * 2 ^ 24 + x1 * 65536 = (x0 * 256 + x1) * 2 ^ 16 by omega, or_join _ _ 16 (by decide) (by omega) (by omega),
    show (x0 * 256 + x1) * 2 ^ 16 + x2 * 256 = ((x0 * 256 + x1) * 256 + x2) * 2 ^ 8 by omega, or_join _ _ 8 (by decide) (by omega) (by omega)]

set_option maxHeartbeats 800000 in
set_option maxRecDepth 100000 in
theorem rblock_any (s : S5) (a : Option Addr) (len cap : Nat) (b : List Nat) (w : World) (hl : b.length = 64) (hlen : len = 64) (hb : ∀ x ∈ b, x < 256) (hr : Rd .u8 w a b) :
    Calls Tryd.prog 40 #[.agg s.cells.toArray, .slice a len cap] w fun e w' => e = .returned (.agg (block5 s b).cells.toArray) ∧ Below w.heap.size w w' := by
  have hz := (zero_of_info info80).1
  have hz5 := (zero_of_info info5).1
  obtain ⟨bb, off, rfl, hc⟩ := hr.get (by omega)
  have HC := Lib.hid hc
  clear hr hc
  subst hlen
  go_enter Tryd.func40, Tryd.ntmps40
  go_wp2
  have hB : Below w.heap.size w (((w.alloc (.cells s.cells.toArray 55)).alloc (.cells (i32s (z32 5)).toArray 55)).alloc (.cells (i32s (z32 80)).toArray 72)) :=
    (((Below.refl _ _).alloc (Nat.le_refl _) _).alloc (by simp) _).alloc (by simp; omega) _
  have c0 : CB (((w.alloc (.cells s.cells.toArray 55)).alloc (.cells (i32s (z32 5)).toArray 55)).alloc (.cells (i32s (z32 80)).toArray 72)) 55 w.heap.size s.cells := ((CB.new w _ _).alloc _).alloc _
  have c1 : CB (((w.alloc (.cells s.cells.toArray 55)).alloc (.cells (i32s (z32 5)).toArray 55)).alloc (.cells (i32s (z32 80)).toArray 72)) 55 (w.heap.size + 1) (i32s (z32 5)) := by
    have := (CB.new (w.alloc (.cells s.cells.toArray 55)) 55 (i32s (z32 5))).alloc (.cells (i32s (z32 80)).toArray 72)
    simpa using this
  have c2 : CB (((w.alloc (.cells s.cells.toArray 55)).alloc (.cells (i32s (z32 5)).toArray 55)).alloc (.cells (i32s (z32 80)).toArray 72)) 72 (w.heap.size + 1 + 1) (i32s (z32 80)) := by
    have := CB.new ((w.alloc (.cells s.cells.toArray 55)).alloc (.cells (i32s (z32 5)).toArray 55)) 72 (i32s (z32 80))
    simpa using this
  go_loopw [6] (fun iv wr => ∃ t : Nat, iv = .int .i64 (t : Nat) ∧ t ≤ 80 ∧ Hid (CB wr 72 (w.heap.size + 1 + 1) (i32s (filled (words16 b) t 80))) ∧ Hid (CB wr 55 w.heap.size s.cells) ∧ Hid (CB wr 55 (w.heap.size + 1) (i32s (z32 5))) ∧ Hid (Below w.heap.size w wr)) (fun iv _ => 80 - (intOf iv).toNat)
  case atStart => exact ⟨0, rfl, by decide, c2, c0, c1, hB⟩
  case round =>
    clear hB c0 c1 c2 hz hz5
    obtain ⟨t, rfl, ht, H2, H0, H1, HB⟩ := hrel
    by_cases h16 : t < 16
    · obtain ⟨q, hq⟩ : ∃ q, q = 4 * t := ⟨_, rfl⟩
      have e0 : (4 : Int) * (t : Int) = (q : Int) := by omega
      have k0 := below_cell HB.out _ _ (HC.out q (by omega))
      have k1 := below_cell HB.out _ _ (HC.out (q + 1) (by omega))
      have k2 := below_cell HB.out _ _ (HC.out (q + 2) (by omega))
      have k3 := below_cell HB.out _ _ (HC.out (q + 3) (by omega))
      have HW : Hid (wordI b t = ((((b.getD q 0 * 256 + b.getD (q + 1) 0) * 256 + b.getD (q + 2) 0) * 256 + b.getD (q + 3) 0 : Nat) : Int)) := by show _ = _; rw [hq]; rfl
      have HX : Hid (∀ i, b.getD i 0 < 256) := fun i => by
        by_cases hi : i < b.length
        · rw [List.getD_eq_getElem?_getD, List.getElem?_eq_getElem hi]; exact hb _ (List.getElem_mem hi)
        · rw [List.getD_eq_getElem?_getD, List.getElem?_eq_none (by omega)]; decide
      have hx0 := HX.out q
      have hx1 := HX.out (q + 1)
      have hx2 := HX.out (q + 2)
      have hx3 := HX.out (q + 3)
      generalize b.getD q 0 = x0 at *
      generalize b.getD (q + 1) 0 = x1 at *
      generalize b.getD (q + 2) 0 = x2 at *
      generalize b.getD (q + 3) 0 = x3 at *
      have HR := Lib.hid (ref_word x0 x1 x2 x3 hx0 hx1 hx2 hx3)
      have f1 := H2.out.free t
      have ct : wr.cell? ⟨w.heap.size + 1 + 1, t, none⟩ = some (.int .u32 ((filled (words16 b) t 80).getD t 0)) := by
        rw [H2.out.cell, i32s_at _ _ (by rw [filled_len _ _ _ ht]; omega)]
      generalize (filled (words16 b) t 80).getD t 0 = old at ct
      have hq60 : q ≤ 60 := by omega
      clear hq
      have HN2 : Hid (CB (wr.setCell ⟨w.heap.size + 1 + 1, t, none⟩ (.int .u32 (wordI b t))) 72 (w.heap.size + 1 + 1) (i32s (filled (words16 b) (t + 1) 80))) := by
        have h := H2.out.set t (.int .u32 (wordI b t))
        rw [i32s_set, filled_next (words16 b) t 80 (by omega) (wordI b t) (by rw [if_pos h16]; simp [words16, List.getD, h16])] at h
        exact h
      have HN0 := Lib.hid (H0.out.other ⟨w.heap.size + 1 + 1, t, none⟩ (by show w.heap.size + 1 + 1 ≠ _; omega) (.int .u32 (wordI b t)))
      have HN1 := Lib.hid (H1.out.other ⟨w.heap.size + 1 + 1, t, none⟩ (by show w.heap.size + 1 + 1 ≠ _; omega) (.int .u32 (wordI b t)))
      have HNB := Lib.hid (HB.out.setCell (p := ⟨w.heap.size + 1 + 1, t, none⟩) (by show _ ≤ w.heap.size + 1 + 1; omega) (.int .u32 (wordI b t)))
      rw [HW.out, ← HR.out] at HN2 HN0 HN1 HNB
      clear HW HR HX H2 H0 H1 HB
      go_wp2
      go_region
      go_wp2
      go_roundw
      case rel => exact ⟨t + 1, by go_num, by omega, HN2.out, HN0.out, HN1.out, HNB.out.drew⟩
      case measure => simp [intOf]; omega
    · by_cases h80 : t < 80
      · obtain ⟨t3, h3⟩ : ∃ t3, t3 = t - 3 := ⟨_, rfl⟩
        obtain ⟨t8, h8⟩ : ∃ t8, t8 = t - 8 := ⟨_, rfl⟩
        obtain ⟨t14, h14⟩ : ∃ t14, t14 = t - 14 := ⟨_, rfl⟩
        obtain ⟨t16, h16'⟩ : ∃ t16, t16 = t - 16 := ⟨_, rfl⟩
        have e3 : (t : Int) - 3 = (t3 : Int) := by omega
        have e8 : (t : Int) - 8 = (t8 : Int) := by omega
        have e14 : (t : Int) - 14 = (t14 : Int) := by omega
        have e16 : (t : Int) - 16 = (t16 : Int) := by omega
        have gt : ∀ i, i < t → wr.cell? ⟨w.heap.size + 1 + 1, i, none⟩ = some (.int .u32 ((grow80 (words16 b) t).getD i 0)) := fun i hi => by
          rw [H2.out.cell, i32s_at _ _ (by rw [filled_len _ _ _ ht]; omega), filled_at _ _ _ _ hi]
        have g3 := gt t3 (by omega)
        have g8 := gt t8 (by omega)
        have g14 := gt t14 (by omega)
        have g16 := gt t16 (by omega)
        have HL : Hid (laterI (grow80 (words16 b) t) t = turnI (bits .xor .u32 (bits .xor .u32 (bits .xor .u32 ((grow80 (words16 b) t).getD t3 0) ((grow80 (words16 b) t).getD t8 0)) ((grow80 (words16 b) t).getD t14 0)) ((grow80 (words16 b) t).getD t16 0)) 1) := by
          show _ = _; rw [h3, h8, h14, h16']; rfl
        have w3 : IntKind.i64.wrap (t3 : Int) = (t3 : Int) := wrap_i64_nat _ (by omega)
        have q3 : (t3 : Int) < 80 := by omega
        have p3 : (0 : Int) ≤ (t3 : Int) := by omega
        have w8 : IntKind.i64.wrap (t8 : Int) = (t8 : Int) := wrap_i64_nat _ (by omega)
        have q8 : (t8 : Int) < 80 := by omega
        have p8 : (0 : Int) ≤ (t8 : Int) := by omega
        have w14 : IntKind.i64.wrap (t14 : Int) = (t14 : Int) := wrap_i64_nat _ (by omega)
        have q14 : (t14 : Int) < 80 := by omega
        have p14 : (0 : Int) ≤ (t14 : Int) := by omega
        have w16 : IntKind.i64.wrap (t16 : Int) = (t16 : Int) := wrap_i64_nat _ (by omega)
        have q16 : (t16 : Int) < 80 := by omega
        have p16 : (0 : Int) ≤ (t16 : Int) := by omega
        have p0 : (0 : Int) ≤ (t : Int) := by omega
        have q0 : (t : Int) < 80 := by omega
        clear gt
        generalize hL : laterI (grow80 (words16 b) t) t = L at HL
        generalize (grow80 (words16 b) t).getD t3 0 = x3 at *
        generalize (grow80 (words16 b) t).getD t8 0 = x8 at *
        generalize (grow80 (words16 b) t).getD t14 0 = x14 at *
        generalize (grow80 (words16 b) t).getD t16 0 = x16 at *
        have f1 := H2.out.free t
        have ct : wr.cell? ⟨w.heap.size + 1 + 1, t, none⟩ = some (.int .u32 ((filled (words16 b) t 80).getD t 0)) := by
          rw [H2.out.cell, i32s_at _ _ (by rw [filled_len _ _ _ ht]; omega)]
        generalize (filled (words16 b) t 80).getD t 0 = old at ct
        have HKD : Hid (∀ (W : World) (n : Nat), (W.cell? ⟨w.heap.size + 1 + 1, t3, none⟩ = some (.int .u32 x3) ∧ W.cell? ⟨w.heap.size + 1 + 1, t8, none⟩ = some (.int .u32 x8) ∧ W.cell? ⟨w.heap.size + 1 + 1, t14, none⟩ = some (.int .u32 x14) ∧ W.cell? ⟨w.heap.size + 1 + 1, t16, none⟩ = some (.int .u32 x16)) → ((W.drewN n).cell? ⟨w.heap.size + 1 + 1, t3, none⟩ = some (.int .u32 x3) ∧ (W.drewN n).cell? ⟨w.heap.size + 1 + 1, t8, none⟩ = some (.int .u32 x8) ∧ (W.drewN n).cell? ⟨w.heap.size + 1 + 1, t14, none⟩ = some (.int .u32 x14) ∧ (W.drewN n).cell? ⟨w.heap.size + 1 + 1, t16, none⟩ = some (.int .u32 x16))) := fun W n h => h
        have HKS : Hid (∀ (W : World) (v : Value), (W.cell? ⟨w.heap.size + 1 + 1, t3, none⟩ = some (.int .u32 x3) ∧ W.cell? ⟨w.heap.size + 1 + 1, t8, none⟩ = some (.int .u32 x8) ∧ W.cell? ⟨w.heap.size + 1 + 1, t14, none⟩ = some (.int .u32 x14) ∧ W.cell? ⟨w.heap.size + 1 + 1, t16, none⟩ = some (.int .u32 x16)) → ((W.setCell ⟨w.heap.size + 1 + 1, t, none⟩ v).cell? ⟨w.heap.size + 1 + 1, t3, none⟩ = some (.int .u32 x3) ∧ (W.setCell ⟨w.heap.size + 1 + 1, t, none⟩ v).cell? ⟨w.heap.size + 1 + 1, t8, none⟩ = some (.int .u32 x8) ∧ (W.setCell ⟨w.heap.size + 1 + 1, t, none⟩ v).cell? ⟨w.heap.size + 1 + 1, t14, none⟩ = some (.int .u32 x14) ∧ (W.setCell ⟨w.heap.size + 1 + 1, t, none⟩ v).cell? ⟨w.heap.size + 1 + 1, t16, none⟩ = some (.int .u32 x16))) := fun W v h =>
          ⟨by rw [World.cell?_setCell_other _ _ _ _ (by simp <;> omega)]; exact h.1, by rw [World.cell?_setCell_other _ _ _ _ (by simp <;> omega)]; exact h.2.1, by rw [World.cell?_setCell_other _ _ _ _ (by simp <;> omega)]; exact h.2.2.1, by rw [World.cell?_setCell_other _ _ _ _ (by simp <;> omega)]; exact h.2.2.2⟩
        have HF : Hid (∀ W, Chg (fun _ => False) wr W → CB (W.setCell ⟨w.heap.size + 1 + 1, t, none⟩ (.int .u32 L)) 72 (w.heap.size + 1 + 1) (i32s (filled (words16 b) (t + 1) 80)) ∧ CB (W.setCell ⟨w.heap.size + 1 + 1, t, none⟩ (.int .u32 L)) 55 w.heap.size s.cells ∧
            CB (W.setCell ⟨w.heap.size + 1 + 1, t, none⟩ (.int .u32 L)) 55 (w.heap.size + 1) (i32s (z32 5)) ∧ Below w.heap.size w (W.setCell ⟨w.heap.size + 1 + 1, t, none⟩ (.int .u32 L))) := fun W hW => by
          have h2 := (H2.out.chg hW (fun e => e)).set t (.int .u32 L)
          rw [i32s_set, filled_next (words16 b) t 80 (by omega) L (by rw [if_neg h16]; exact hL.symm)] at h2
          exact ⟨h2, (H0.out.chg hW (fun e => e)).other ⟨w.heap.size + 1 + 1, t, none⟩ (by show w.heap.size + 1 + 1 ≠ _; omega) _, (H1.out.chg hW (fun e => e)).other ⟨w.heap.size + 1 + 1, t, none⟩ (by show w.heap.size + 1 + 1 ≠ _; omega) _,
            (HB.out.trans (hW.below HB.out.size (fun _ e => e.elim))).setCell (p := ⟨w.heap.size + 1 + 1, t, none⟩) (by show _ ≤ w.heap.size + 1 + 1; omega) _⟩
        clear H2 H0 H1 HB hL h3 h8 h14 h16'
        go_wp2
        go_region_held3 (fun W => W.cell? ⟨w.heap.size + 1 + 1, t3, none⟩ = some (.int .u32 x3) ∧ W.cell? ⟨w.heap.size + 1 + 1, t8, none⟩ = some (.int .u32 x8) ∧ W.cell? ⟨w.heap.size + 1 + 1, t14, none⟩ = some (.int .u32 x14) ∧ W.cell? ⟨w.heap.size + 1 + 1, t16, none⟩ = some (.int .u32 x16))
          (first | assumption | exact ⟨g3, g8, g14, g16⟩ | (refine HKD.out _ _ ?_; assumption) | (refine HKS.out _ _ ?_; assumption))
          (first
          | (go_at_call 48; refine (turn1_any _ _).mono ?_; rintro e w2 ⟨rfl, m, rfl⟩; rw [← HL.out]))
        go_wp2
        go_roundw
        case rel =>
          have h := HF.out (wr.drewN (1 + m)) (Chg.drawN _ _)
          exact ⟨t + 1, by go_num, by omega, h.1, h.2.1, h.2.2.1, h.2.2.2⟩
        case measure => simp [intOf]; omega
      · have ht80 : t = 80 := by omega
        have hq : decide ((t : Int) < 80) = false := by rw [decide_eq_false_iff_not]; omega
        rw [ht80, filled_all] at H2
        clear ht80
        have k0 : wr.cell? ⟨w.heap.size, 0, none⟩ = some (.int .u32 s.a) := H0.out.cell 0
        have k1 : wr.cell? ⟨w.heap.size, 1, none⟩ = some (.int .u32 s.b) := H0.out.cell 1
        have k2 : wr.cell? ⟨w.heap.size, 2, none⟩ = some (.int .u32 s.c) := H0.out.cell 2
        have k3 : wr.cell? ⟨w.heap.size, 3, none⟩ = some (.int .u32 s.d) := H0.out.cell 3
        have k4 : wr.cell? ⟨w.heap.size, 4, none⟩ = some (.int .u32 s.e) := H0.out.cell 4
        go_wp2
        clear k0 k1 k2 k3 k4
        have hgx : w.heap.size + 1 + 1 < wr.heap.size := H2.out.lt
        have A0 := Lib.hid (H0.out.alloc (.cells s.cells.toArray 55))
        have A1 := Lib.hid (H1.out.alloc (.cells s.cells.toArray 55))
        have A2 := Lib.hid (H2.out.alloc (.cells s.cells.toArray 55))
        have A3 := Lib.hid (CB.new wr 55 s.cells)
        have AB := Lib.hid (HB.out.alloc HB.out.size (.cells s.cells.toArray 55))
        clear H0 H1 H2 HB
        generalize wr.heap.size = gx at *
        obtain ⟨W, hW⟩ : ∃ W, W = grow80 (words16 b) 80 := ⟨_, rfl⟩
        have hWl : W.length = 80 := by rw [hW, grow80_len]
        rw [← hW] at A2
        have HW := Lib.hid hW
        clear hW
        go_loopw [8] (fun iv wr => ∃ (t : Nat) (x : S5), iv = .int .i64 (t : Nat) ∧ t ≤ 80 ∧ Hid (x = rounds5 W t s) ∧ Hid (CB wr 72 (w.heap.size + 1 + 1) (i32s W)) ∧ Hid (CB wr 55 w.heap.size s.cells) ∧ Hid (CB wr 55 (w.heap.size + 1) (i32s (z32 5))) ∧ Hid (CB wr 55 gx x.cells) ∧ Hid (Below w.heap.size w wr)) (fun iv _ => 80 - (intOf iv).toNat)
        case atStart => exact ⟨0, s, rfl, by decide, rfl, A2.out, A0.out, A1.out, A3.out, AB.out⟩
        case round =>
          clear A0 A1 A2 A3 AB
          obtain ⟨t, x, rfl, ht, HX, A2, A0, A1, A3, AB⟩ := hrel
          by_cases h80 : t < 80
          · have kt : wr.cell? ⟨w.heap.size + 1 + 1, t, none⟩ = some (.int .u32 (W.getD t 0)) := by rw [A2.out.cell, i32s_at _ _ (by omega)]
            have k0 : wr.cell? ⟨gx, 0, none⟩ = some (.int .u32 x.a) := A3.out.cell 0
            have k1 : wr.cell? ⟨gx, 1, none⟩ = some (.int .u32 x.b) := A3.out.cell 1
            have k2 : wr.cell? ⟨gx, 2, none⟩ = some (.int .u32 x.c) := A3.out.cell 2
            have k3 : wr.cell? ⟨gx, 3, none⟩ = some (.int .u32 x.d) := A3.out.cell 3
            have k4 : wr.cell? ⟨gx, 4, none⟩ = some (.int .u32 x.e) := A3.out.cell 4
            have f0 := A3.out.free 0
            have f1 := A3.out.free 1
            have f2 := A3.out.free 2
            have f3 := A3.out.free 3
            have f4 := A3.out.free 4
            have wt : IntKind.i64.wrap (t : Int) = (t : Int) := wrap_i64_nat _ (by omega)
            have q0 : (t : Int) < 80 := by omega
            have p0 : (0 : Int) ≤ (t : Int) := by omega
            obtain ⟨wv, hwv⟩ : ∃ wv, wv = W.getD t 0 := ⟨_, rfl⟩
            rw [← hwv] at kt
            obtain ⟨nx, hnx⟩ : ∃ nx, nx = nextI t wv x := ⟨_, rfl⟩
            have HNX : Hid (((turnI x.a 5 + fI t x.b x.c x.d + x.e + kI t) % 4294967296 + wv) % 4294967296 = nx) := by
              show _ = _; rw [hnx, nextI]; simp only [IntKind.wrap_u32']; omega
            have HST : Hid (step5 t (W.getD t 0) x = ⟨nx, x.a, turnI x.b 30, x.c, x.d⟩) := by show _ = _; rw [hnx, hwv]; rfl
            clear hnx hwv
            go_wp2_with (go_at_call 49; refine (mixed_any t _ _ _ _).mono ?_; rintro e w2 ⟨rfl, rfl⟩)
            go_quiet ((go_at_call 48; exact Calls.quiet_of (turn5_any _ _)))
            go_wp2
            rw [HNX.out]
            have HS : Hid (w2.cell? ⟨gx, 0, none⟩ = some (.int .u32 x.a) ∧ w2.cell? ⟨gx, 1, none⟩ = some (.int .u32 x.b) ∧ w2.cell? ⟨gx, 2, none⟩ = some (.int .u32 x.c) ∧ w2.cell? ⟨gx, 3, none⟩ = some (.int .u32 x.d)) := ⟨k0, k1, k2, k3⟩
            refine wp_region_tail (fun W => W.cell? ⟨gx, 0, none⟩ = some (.int .u32 x.a) ∧ W.cell? ⟨gx, 1, none⟩ = some (.int .u32 x.b) ∧ W.cell? ⟨gx, 2, none⟩ = some (.int .u32 x.c) ∧ W.cell? ⟨gx, 3, none⟩ = some (.int .u32 x.d)) 11 (by kernel_rfl) ?_
            refine wpAnyT_take (i := 0) (v := ?_) rfl (by kernel_rfl) (by kernel_rfl) (by kernel_rfl) (by kernel_rfl) rfl (by kernel_rfl) (fun _ _ _ h => h) (Or.inl ⟨by rfl, ?_⟩) HS.out ?_
            case refine_2 => (rintro W ⟨c0, c1, c2, c3⟩; go_simp; try (with_reducible rfl))
            refine wpAnyT_take (i := 1) (v := ?_) rfl (by kernel_rfl) (by kernel_rfl) (by kernel_rfl) (by kernel_rfl) rfl (by kernel_rfl) (fun _ _ _ h => h) (Or.inl ⟨by rfl, ?_⟩) HS.out ?_
            case refine_2 => (rintro W ⟨c0, c1, c2, c3⟩; go_simp; try (with_reducible rfl))
            refine wpAnyT_take (i := 2) (v := ?_) rfl (by kernel_rfl) (by kernel_rfl) (by kernel_rfl) (by kernel_rfl) rfl (by kernel_rfl) (fun _ _ _ h => h) (Or.inl ⟨by rfl, ?_⟩) HS.out ?_
            case refine_2 => (rintro W ⟨c0, c1, c2, c3⟩; go_simp; try (with_reducible rfl))
            refine wpAnyT_take (i := 3) (v := ?_) rfl (by kernel_rfl) (by kernel_rfl) (by kernel_rfl) (by kernel_rfl) rfl (by kernel_rfl) (fun _ _ _ h => h) (Or.inl ⟨by rfl, ?_⟩) HS.out ?_
            case refine_2 => (rintro W ⟨c0, c1, c2, c3⟩; go_simp; try (with_reducible rfl))
            refine wpAnyT_take (i := 4) (v := ?_) rfl (by kernel_rfl) (by kernel_rfl) (by kernel_rfl) (by kernel_rfl) rfl (by kernel_rfl) (fun _ _ _ h => h) (Or.inl ⟨by rfl, ?_⟩) HS.out ?_
            case refine_2 => (rintro W ⟨c0, c1, c2, c3⟩; go_simp; try (with_reducible rfl))
            refine wpAnyT_take (i := 6) (v := ?_) rfl (by kernel_rfl) (by kernel_rfl) (by kernel_rfl) (by kernel_rfl) rfl (by kernel_rfl) (fun _ _ _ h => h) (Or.inl ⟨by rfl, ?_⟩) HS.out ?_
            case refine_2 => (rintro W ⟨c0, c1, c2, c3⟩; go_simp; try (with_reducible rfl))
            refine wpAnyT_take (i := 7) (v := ?_) rfl (by kernel_rfl) (by kernel_rfl) (by kernel_rfl) (by kernel_rfl) rfl (by kernel_rfl) (fun _ _ _ h => h) (Or.inl ⟨by rfl, ?_⟩) HS.out ?_
            case refine_2 => (rintro W ⟨c0, c1, c2, c3⟩; go_simp; try (with_reducible rfl))
            refine wpAnyT_take (i := 8) (v := ?_) rfl (by kernel_rfl) (by kernel_rfl) (by kernel_rfl) (by kernel_rfl) rfl (by kernel_rfl) (fun _ _ _ h => h) (Or.inl ⟨by rfl, ?_⟩) HS.out ?_
            case refine_2 => (rintro W ⟨c0, c1, c2, c3⟩; go_simp; try (with_reducible rfl))
            refine wpAnyT_take (i := 9) (v := ?_) rfl (by kernel_rfl) (by kernel_rfl) (by kernel_rfl) (by kernel_rfl) rfl (by kernel_rfl) (fun _ _ _ h => h) (Or.inl ⟨by rfl, ?_⟩) HS.out ?_
            case refine_2 => (rintro W ⟨c0, c1, c2, c3⟩; go_simp; try (with_reducible rfl))
            refine wpAnyT_op (i := 5) (by kernel_rfl) rfl (by rfl) (fun K hK => ?_)
            go_simp
            go_at_call 48
            refine (turn30_any _ _).mono ?_
            rintro e w3 ⟨rfl, m, rfl⟩
            go_simp
            refine hK _ _ (fun _ => HS.out) ?_
            refine wpAnyT_take (i := 10) (v := ?_) rfl (by kernel_rfl) (by kernel_rfl) (by kernel_rfl) (by kernel_rfl) rfl (by kernel_rfl) (fun _ _ _ h => h) (Or.inl ⟨by rfl, ?_⟩) HS.out ?_
            case refine_2 => (rintro W ⟨c0, c1, c2, c3⟩; go_simp; try (with_reducible rfl))
            refine wpAnyT_last (i := 11) (by kernel_rfl) rfl (by rfl) (by kernel_rfl) (by kernel_rfl) (fun K hK => ?_)
            go_simp
            refine hK _ _ ?_
            clear hK K HS
            go_wp2
            go_roundw
            case rel =>
              have hne : gx ≠ w.heap.size + 1 + 1 := by omega
              refine ⟨t + 1, ⟨nx, x.a, turnI x.b 30, x.c, x.d⟩, by go_num, by omega, ?_, ?_, ?_, ?_, ?_, ?_⟩
              · show _ = _; rw [rounds5, ← HX.out, HST.out]
              · exact A2.out.chg (S := fun k => k = gx) ((((((Chg.drawN (S := fun k => k = gx) w2 _).setCell (p := ⟨gx, 0, none⟩) rfl _).setCell (p := ⟨gx, 1, none⟩) rfl _).setCell (p := ⟨gx, 2, none⟩) rfl _).setCell (p := ⟨gx, 3, none⟩) rfl _).setCell (p := ⟨gx, 4, none⟩) rfl _) (by omega)
              · exact A0.out.chg (S := fun k => k = gx) ((((((Chg.drawN (S := fun k => k = gx) w2 _).setCell (p := ⟨gx, 0, none⟩) rfl _).setCell (p := ⟨gx, 1, none⟩) rfl _).setCell (p := ⟨gx, 2, none⟩) rfl _).setCell (p := ⟨gx, 3, none⟩) rfl _).setCell (p := ⟨gx, 4, none⟩) rfl _) (by omega)
              · exact A1.out.chg (S := fun k => k = gx) ((((((Chg.drawN (S := fun k => k = gx) w2 _).setCell (p := ⟨gx, 0, none⟩) rfl _).setCell (p := ⟨gx, 1, none⟩) rfl _).setCell (p := ⟨gx, 2, none⟩) rfl _).setCell (p := ⟨gx, 3, none⟩) rfl _).setCell (p := ⟨gx, 4, none⟩) rfl _) (by omega)
              · exact five_set (A3.out.chg (S := fun _ => False) (Chg.drawN w2 _) (fun e => e)) rfl _ _ _ _ _
              · have hb : Below w.heap.size w2 (w2.drewN (nq + 1 + m)) := (Chg.drawN (S := fun _ => False) w2 _).below AB.out.size (fun _ e => e.elim)
                exact (((((AB.out.trans hb).setCell (p := ⟨gx, 0, none⟩) (by show _ ≤ gx; omega) _).setCell (p := ⟨gx, 1, none⟩) (by show _ ≤ gx; omega) _).setCell (p := ⟨gx, 2, none⟩) (by show _ ≤ gx; omega) _).setCell (p := ⟨gx, 3, none⟩) (by show _ ≤ gx; omega) _).setCell (p := ⟨gx, 4, none⟩) (by show _ ≤ gx; omega) _
            case measure => simp [intOf]; omega
          · have ht80 : t = 80 := by omega
            have hq : decide ((t : Int) < 80) = false := by rw [decide_eq_false_iff_not]; omega
            rw [ht80] at HX
            clear ht80
            go_wp2
            have HX2 : Hid (block5 s b = plus5 s x) := by show _ = _; rw [block5, ← HW.out, ← HX.out]
            go_loopw [12] (fun iv wr => ∃ i : Nat, iv = .int .i64 (i : Nat) ∧ i ≤ 5 ∧ Hid (CB wr 55 w.heap.size s.cells) ∧ Hid (CB wr 55 (w.heap.size + 1) (i32s (z32 5))) ∧ Hid (CB wr 55 gx (part5 s x i)) ∧ Hid (Below w.heap.size w wr)) (fun iv _ => 5 - (intOf iv).toNat)
            case atStart => exact ⟨0, rfl, by decide, A0.out, A1.out, A3.out, AB.out⟩
            case round =>
              clear A0 A1 A2 A3 AB HX HW
              obtain ⟨i, rfl, hi, A0, A1, A3, AB⟩ := hrel
              by_cases h5 : i < 5
              · have kx : wr.cell? ⟨gx, i, none⟩ = some (.int .u32 (x.at i)) := by rw [A3.out.cell, part5_at _ _ _ h5]
                have ks : wr.cell? ⟨w.heap.size, i, none⟩ = some (.int .u32 (s.at i)) := by rw [A0.out.cell, cells_at _ _ h5]
                have fx := A3.out.free i
                have HN := Lib.hid (part5_next s x i h5)
                generalize x.at i = xi at *
                generalize s.at i = si at *
                have wt : IntKind.i64.wrap (i : Int) = (i : Int) := wrap_i64_nat _ (by omega)
                have q0 : (i : Int) < 5 := by omega
                have p0 : (0 : Int) ≤ (i : Int) := by omega
                have hne : gx ≠ w.heap.size := by omega
                have hne1 : gx ≠ w.heap.size + 1 := by omega
                go_wp2
                go_region
                go_wp2
                go_roundw
                case rel =>
                  refine ⟨i + 1, by go_num, by omega, A0.out.other ⟨gx, i, none⟩ hne _, A1.out.other ⟨gx, i, none⟩ hne1 _, ?_, (AB.out.setCell (p := ⟨gx, i, none⟩) (by show _ ≤ gx; omega) _).drew⟩
                  have h := A3.out.set i (.int .u32 ((xi + si) % 4294967296))
                  rw [HN.out] at h
                  exact h
                case measure => simp [intOf]; omega
              · obtain rfl : i = 5 := by omega
                have e5 : part5 s x 5 = (block5 s b).cells := by rw [HX2.out]; rfl
                rw [e5] at A3
                clear HX2 e5
                obtain ⟨y, hy⟩ : ∃ y, y = block5 s b := ⟨_, rfl⟩
                rw [← hy] at A3
                have HY := Lib.hid hy
                clear hy
                have k0 : wr.cell? ⟨gx, 0, none⟩ = some (.int .u32 y.a) := A3.out.cell 0
                have k1 : wr.cell? ⟨gx, 1, none⟩ = some (.int .u32 y.b) := A3.out.cell 1
                have k2 : wr.cell? ⟨gx, 2, none⟩ = some (.int .u32 y.c) := A3.out.cell 2
                have k3 : wr.cell? ⟨gx, 3, none⟩ = some (.int .u32 y.d) := A3.out.cell 3
                have k4 : wr.cell? ⟨gx, 4, none⟩ = some (.int .u32 y.e) := A3.out.cell 4
                have f0 := A1.out.free 0
                have f1 := A1.out.free 1
                have f2 := A1.out.free 2
                have f3 := A1.out.free 3
                have f4 := A1.out.free 4
                have j0 : wr.cell? ⟨w.heap.size + 1, 0, none⟩ = some (.int .u32 0) := A1.out.cell 0
                have j1 : wr.cell? ⟨w.heap.size + 1, 1, none⟩ = some (.int .u32 0) := A1.out.cell 1
                have j2 : wr.cell? ⟨w.heap.size + 1, 2, none⟩ = some (.int .u32 0) := A1.out.cell 2
                have j3 : wr.cell? ⟨w.heap.size + 1, 3, none⟩ = some (.int .u32 0) := A1.out.cell 3
                have j4 : wr.cell? ⟨w.heap.size + 1, 4, none⟩ = some (.int .u32 0) := A1.out.cell 4
                go_wp2
                refine bodyPost_ret (ret_row rfl rfl (five_set A1.out rfl _ _ _ _ _) _ Tryd.underlying55 rfl (zero_of_info info5).2) rfl ⟨by rw [← HY.out]; rfl, ?_⟩
                exact ((((AB.out.setCell (p := ⟨w.heap.size + 1, 0, none⟩) (by show _ ≤ w.heap.size + 1; omega) _).setCell (p := ⟨w.heap.size + 1, 1, none⟩) (by show _ ≤ w.heap.size + 1; omega) _).setCell (p := ⟨w.heap.size + 1, 2, none⟩) (by show _ ≤ w.heap.size + 1; omega) _).setCell (p := ⟨w.heap.size + 1, 3, none⟩) (by show _ ≤ w.heap.size + 1; omega) _).setCell (p := ⟨w.heap.size + 1, 4, none⟩) (by show _ ≤ w.heap.size + 1; omega) _
end Go.Proofs.YtpipjkpjpkgmpaaDoor
