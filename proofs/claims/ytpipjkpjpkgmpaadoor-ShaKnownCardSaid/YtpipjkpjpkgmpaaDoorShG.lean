import Derived.Test.YtpipjkpjpkgmpaaDoorShF
import Derived.BigQuiet
namespace Go.Proofs.YtpipjkpjpkgmpaaDoor
open Go.RowKit

set_option maxHeartbeats 2000000 in
set_option maxRecDepth 100000 in
theorem behind_any (s : S5) (b : List Nat) (w : World) (hl : b.length = 64) (hb : ∀ x ∈ b, x < 256) :
    Calls Tryd.prog 42 #[.agg s.cells.toArray, .agg (u8s b).toArray] w fun e w' => e = .returned (.agg (block5 s b).cells.toArray) ∧ Below w.heap.size w w' := by
  have hz := (zero_of_info infoF5).1
  have hbl : (u8s b).length = 64 := by rw [u8s_len, hl]
  go_enter Tryd.func42, Tryd.ntmps42
  go_upto_region 1 with fail
  have C0 : CB (((w.alloc (.cells s.cells.toArray 56)).alloc (.cells (u8s b).toArray 57)).alloc (.cells (i32s (z32 5)).toArray 56)) 56 w.heap.size s.cells := ((CB.new w _ _).alloc _).alloc _
  have C1 := (cb2 w (.cells s.cells.toArray 56) 57 (u8s b)).alloc (.cells (i32s (z32 5)).toArray 56)
  have C2 := cb3 w (.cells s.cells.toArray 56) (.cells (u8s b).toArray 57) 56 (i32s (z32 5))
  have CBl := bl3 w (.cells s.cells.toArray 56) (.cells (u8s b).toArray 57) (.cells (i32s (z32 5)).toArray 56)
  generalize (((w.alloc (.cells s.cells.toArray 56)).alloc (.cells (u8s b).toArray 57)).alloc (.cells (i32s (z32 5)).toArray 56)) = W0 at *
  have k0 : W0.cell? ⟨w.heap.size, 0, none⟩ = some (.int .u32 s.a) := C0.cell 0
  have k1 : W0.cell? ⟨w.heap.size, 1, none⟩ = some (.int .u32 s.b) := C0.cell 1
  have k2 : W0.cell? ⟨w.heap.size, 2, none⟩ = some (.int .u32 s.c) := C0.cell 2
  have k3 : W0.cell? ⟨w.heap.size, 3, none⟩ = some (.int .u32 s.d) := C0.cell 3
  have k4 : W0.cell? ⟨w.heap.size, 4, none⟩ = some (.int .u32 s.e) := C0.cell 4
  have H0 := Lib.hid C0
  have H1 := Lib.hid C1
  have H2 := Lib.hid C2
  have HB := Lib.hid CBl
  clear C0 C1 C2 CBl hz
  go_quiet (fail)
  clear k0 k1 k2 k3 k4
  go_upto_region 2 with fail
  have H0 : Hid (CB (W0.drewN nq) _ _ _) := H0.out
  have H1 : Hid (CB (W0.drewN nq) _ _ _) := H1.out
  have H2 : Hid (CB (W0.drewN nq) _ _ _) := H2.out
  have HB : Hid (Below w.heap.size w (W0.drewN nq)) := HB.out.trans ((Chg.drawN (S := fun _ => False) W0 nq).below HB.out.size (fun _ e => e.elim))
  generalize W0.drewN nq = W1 at *
  refine wp_region_lit ?_
  refine wpList_plain rfl fun K1 hK1 => wp_loadc 57 (.tmp 3) rfl (w.heap.size + 1) 0 64 rfl H1.out _ Tryd.underlying57 rfl (zero_of_info infoB64).2 (by omega) (u8s b) (by rw [List.drop_zero]; exact List.take_of_length_le (by omega)) (hK1 _ _ ?_)
  clear hK1 K1
  refine wpList_plain rfl fun K1 hK1 => ?_
  go_simp
  go_at_call 50
  refine (widened_any b _ hl hb).mono ?_
  rintro e w1 ⟨rfl, hb1⟩
  go_simp
  refine hK1 _ _ ?_
  clear hK1 K1
  have H0 := Lib.hid (H0.out.below hb1)
  have H2 := Lib.hid (H2.out.below hb1)
  have HB := Lib.hid (HB.out.trans (hb1.mono HB.out.size))
  clear H1 hb1
  obtain ⟨G, hG⟩ : ∃ G, G = grow80 (words16 b) 80 := ⟨_, rfl⟩
  have hGl : G.length = 80 := by rw [hG, grow80_len]
  rw [← hG]
  have HG := Lib.hid hG
  clear hG
  go_wp2
  go_loopw [27, 5, 6, 7, 8, 9] (fun iv va vb vc vd ve wr => ∃ (t : Nat) (x : S5), iv = .int .i64 (t : Nat) ∧ va = .int .u32 x.a ∧ vb = .int .u32 x.b ∧ vc = .int .u32 x.c ∧ vd = .int .u32 x.d ∧ ve = .int .u32 x.e ∧ t ≤ 80 ∧ Hid (x = rounds5 G t s) ∧ Hid (CB wr 56 w.heap.size s.cells) ∧ Hid (CB wr 56 (w.heap.size + 1 + 1) (i32s (z32 5))) ∧ Hid (Below w.heap.size w wr)) (fun iv _ _ _ _ _ _ => 80 - (intOf iv).toNat)
  case atStart => exact ⟨0, s, rfl, rfl, rfl, rfl, rfl, rfl, by decide, rfl, H0.out, H2.out, HB.out⟩
  case round =>
    clear H0 H2 HB
    obtain ⟨t, x, rfl, rfl, rfl, rfl, rfl, rfl, ht, HX, H0, H2, HB⟩ := hrel
    by_cases h80 : t < 80
    · obtain ⟨wv, hwv⟩ : ∃ wv, wv = G.getD t 0 := ⟨_, rfl⟩
      have hix := index80 (i32s G).toArray t (.int .u32 wv) h80 (by rw [hwv, List.getElem?_toArray, i32s_at _ _ (by omega)])
      obtain ⟨nx, hnx⟩ : ∃ nx, nx = nextI t wv x := ⟨_, rfl⟩
      have HNX : Hid ((turnI x.a 5 + fI t x.b x.c x.d + x.e + kI t + wv) % 4294967296 = nx) := by
        show _ = _; rw [hnx, nextI]; simp only [IntKind.wrap_u32']; omega
      have HST : Hid (step5 t (G.getD t 0) x = ⟨nx, x.a, turnI x.b 30, x.c, x.d⟩) := by show _ = _; rw [hnx, hwv]; rfl
      clear hnx hwv
      generalize (i32s G).toArray = GA at *
      go_wp2_with (first
        | (go_at_call 51; refine (mix_any t _ _ _ _).mono ?_; rintro e w2 ⟨rfl, rfl⟩)
        | (go_at_call 52; with_reducible refine (rot5_any _ _).mono ?_; rintro e w2 ⟨rfl, rfl⟩)
        | (go_at_call 52; with_reducible refine (rot30_any _ _).mono ?_; rintro e w2 ⟨rfl, rfl⟩))

      go_roundw
      case rel => exact ⟨t + 1, ⟨nx, x.a, turnI x.b 30, x.c, x.d⟩, by go_num, by rw [HNX.out], rfl, rfl, rfl, rfl, by omega, by show _ = _; rw [rounds5, ← HX.out, HST.out], H0.out, H2.out, HB.out⟩
      case measure => simp [intOf]; omega
    · have ht80 : t = 80 := by omega
      have hq : decide ((t : Int) < 80) = false := by rw [decide_eq_false_iff_not]; omega
      rw [ht80] at HX
      clear ht80
      have HX2 : Hid (block5 s b = plus5 s x) := by show _ = _; rw [block5, ← HG.out, ← HX.out]
      have k0 : wr.cell? ⟨w.heap.size, 0, none⟩ = some (.int .u32 s.a) := H0.out.cell 0
      have k1 : wr.cell? ⟨w.heap.size, 1, none⟩ = some (.int .u32 s.b) := H0.out.cell 1
      have k2 : wr.cell? ⟨w.heap.size, 2, none⟩ = some (.int .u32 s.c) := H0.out.cell 2
      have k3 : wr.cell? ⟨w.heap.size, 3, none⟩ = some (.int .u32 s.d) := H0.out.cell 3
      have k4 : wr.cell? ⟨w.heap.size, 4, none⟩ = some (.int .u32 s.e) := H0.out.cell 4
      have f0 := H2.out.free 0
      have f1 := H2.out.free 1
      have f2 := H2.out.free 2
      have f3 := H2.out.free 3
      have f4 := H2.out.free 4
      have j0 : wr.cell? ⟨w.heap.size + 1 + 1, 0, none⟩ = some (.int .u32 0) := H2.out.cell 0
      have j1 : wr.cell? ⟨w.heap.size + 1 + 1, 1, none⟩ = some (.int .u32 0) := H2.out.cell 1
      have j2 : wr.cell? ⟨w.heap.size + 1 + 1, 2, none⟩ = some (.int .u32 0) := H2.out.cell 2
      have j3 : wr.cell? ⟨w.heap.size + 1 + 1, 3, none⟩ = some (.int .u32 0) := H2.out.cell 3
      have j4 : wr.cell? ⟨w.heap.size + 1 + 1, 4, none⟩ = some (.int .u32 0) := H2.out.cell 4
      go_wp2
      refine bodyPost_ret (ret_row rfl rfl (five_set H2.out rfl _ _ _ _ _) _ Tryd.underlying56 rfl (zero_of_info infoF5).2) rfl ⟨?_, ?_⟩
      · rw [HX2.out]; simp [plus5, S5.cells, IntKind.wrap_u32']
      exact ((((HB.out.setCell (p := ⟨w.heap.size + 1 + 1, 0, none⟩) (by show _ ≤ w.heap.size + 1 + 1; omega) _).setCell (p := ⟨w.heap.size + 1 + 1, 1, none⟩) (by show _ ≤ w.heap.size + 1 + 1; omega) _).setCell (p := ⟨w.heap.size + 1 + 1, 2, none⟩) (by show _ ≤ w.heap.size + 1 + 1; omega) _).setCell (p := ⟨w.heap.size + 1 + 1, 3, none⟩) (by show _ ≤ w.heap.size + 1 + 1; omega) _).setCell (p := ⟨w.heap.size + 1 + 1, 4, none⟩) (by show _ ≤ w.heap.size + 1 + 1; omega) _
end Go.Proofs.YtpipjkpjpkgmpaaDoor
