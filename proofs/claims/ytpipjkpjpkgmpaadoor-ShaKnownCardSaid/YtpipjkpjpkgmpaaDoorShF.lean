import Derived.Test.YtpipjkpjpkgmpaaDoorShE
import Derived.BigRegion
import Derived.Deep.RegionHeld3
namespace Go.Proofs.YtpipjkpjpkgmpaaDoor
open Go.RowKit

theorem info32L : (Tryd.prog.info? 54).map (·.size) = some 1 := by kernel_rfl
theorem grow80_16 (l : List Int) (h : l.length = 16) : grow80 l 16 = l := by
  apply List.ext_getElem (by rw [grow80_len, h])
  intro i h1 h2
  have hg : ∀ t, t ≤ 16 → grow80 l t = l.take t := by
    intro t
    induction t with
    | zero => intro _; rfl
    | succ t ih =>
      intro ht
      rw [grow80, ih (by omega), if_pos (by omega), List.take_add_one, List.getElem?_eq_getElem (by omega), List.getD_eq_getElem?_getD, List.getElem?_eq_getElem (by omega)]
      rfl
  simp [hg 16 (Nat.le_refl _), List.take_of_length_le (show l.length ≤ 16 by omega)]

set_option maxHeartbeats 4000000 in
set_option maxRecDepth 100000 in
theorem widened_any (b : List Nat) (w : World) (hl : b.length = 64) (hb : ∀ x ∈ b, x < 256) :
    Calls Tryd.prog 50 #[.agg (u8s b).toArray] w fun e w' => e = .returned (.agg (i32s (grow80 (words16 b) 80)).toArray) ∧ Below w.heap.size w w' := by
  have hz := (zero_of_info info16).1
  have hz8 := (zero_of_info info80).1
  have hbl : (u8s b).length = 64 := by rw [u8s_len, hl]
  go_enter Tryd.func50, Tryd.ntmps50
  go_upto_region 2 with fail
  have C0 : CB (((w.alloc (.cells (u8s b).toArray 57)).alloc (.cells (i32s (z32 80)).toArray 72)).alloc (.cells (i32s (z32 80)).toArray 72)) 57 w.heap.size (u8s b) := ((CB.new w _ _).alloc _).alloc _
  have C1 := (cb2 w (.cells (u8s b).toArray 57) 72 (i32s (z32 80))).alloc (.cells (i32s (z32 80)).toArray 72)
  have C2 := cb3 w (.cells (u8s b).toArray 57) (.cells (i32s (z32 80)).toArray 72) 72 (i32s (z32 80))
  have CBl := bl3 w (.cells (u8s b).toArray 57) (.cells (i32s (z32 80)).toArray 72) (.cells (i32s (z32 80)).toArray 72)
  generalize (((w.alloc (.cells (u8s b).toArray 57)).alloc (.cells (i32s (z32 80)).toArray 72)).alloc (.cells (i32s (z32 80)).toArray 72)) = W0 at *
  refine wp_region_lit ?_
  refine wpList_plain rfl fun K1 hK1 => wp_loadc 57 (.tmp 1) rfl w.heap.size 0 64 rfl C0 _ Tryd.underlying57 rfl (zero_of_info infoB64).2 (by omega) (u8s b) (by rw [List.drop_zero]; exact List.take_of_length_le (by omega)) (hK1 _ _ ?_)
  clear hK1 K1
  refine wpList_plain rfl fun K1 hK1 => ?_
  go_simp
  go_at_call 54
  refine (numbersOf_any b _ hl hb).mono ?_
  rintro e w1 ⟨rfl, hb1⟩
  go_simp
  refine hK1 _ _ ?_
  clear hK1 K1
  have C1 := C1.below hb1
  have C2 := C2.below hb1
  have CBl := CBl.trans (hb1.mono CBl.size)
  clear C0 hb1
  refine wpList_plain rfl fun K1 hK1 => ?_
  go_simp
  refine hK1 _ _ ?_
  clear hK1 K1
  have C3 := CB.new w1 81 (i32s (z32 16))
  have hlt : w.heap.size + 1 + 1 < w1.heap.size := C2.lt
  have C1 := C1.alloc (.cells (i32s (z32 16)).toArray 81)
  have C2 := C2.alloc (.cells (i32s (z32 16)).toArray 81)
  have CBl := CBl.alloc CBl.size (.cells (i32s (z32 16)).toArray 81)
  generalize w1.heap.size = g4 at *
  generalize w1.alloc (.cells (i32s (z32 16)).toArray 81) = W2 at *
  refine wpList_plain rfl fun K1 hK1 => wp_storec 81 (.tmp 4) (.tmp 7) rfl g4 0 16 rfl (i32s (words16 b)) rfl (by simp [i32s, words16]) C3 (zero_of_info info16).2 (by simp [i32s, z32]) (i32s_one _) fun w3 C3 hch hsz => hK1 _ _ ?_
  clear hK1 K1
  rw [splice_all (by simp [i32s, words16, z32])] at C3
  have C1 := C1.chg hch (by omega)
  have C2 := C2.chg hch (by omega)
  have CBl := CBl.trans (hch.below CBl.size (fun k hk => by omega))
  clear hch hsz
  go_upto_region 3 with fail
  refine wp_region_tail (fun _ => True) 3 (by kernel_rfl) ?_
  refine wpAnyT_take (i := 0) (v := ?_) rfl (by kernel_rfl) (by kernel_rfl) (by kernel_rfl) (by kernel_rfl) rfl (by kernel_rfl) (fun _ _ _ h => h) (Or.inl ⟨by rfl, ?_⟩) trivial ?_
  case refine_2 => (rintro W -; go_simp; try (with_reducible rfl))
  refine wpAnyT_take (i := 1) (v := ?_) rfl (by kernel_rfl) (by kernel_rfl) (by kernel_rfl) (by kernel_rfl) rfl (by kernel_rfl) (fun _ _ _ h => h) (Or.inl ⟨by rfl, ?_⟩) trivial ?_
  case refine_2 => (rintro W -; go_simp; try (with_reducible rfl))
  refine wpAnyT_op (i := 2) (by kernel_rfl) rfl (by rfl) (fun K hK => ?_)
  refine wp_copy (.tmp 8) (.tmp 9) 83 83 rfl 54 Tryd.underlying83 info32L (w.heap.size + 1 + 1) 0 80 80 ⟨g4, 0, none⟩ 16 16 rfl rfl (show CB w3.drew _ _ _ from C2) (i32s (words16 b)) (by simp [i32s, words16]) (fun j v hv => ?_) (by simp [i32s, words16, z32]) (i32s_one _) fun w4 C4 hch hsz => hK _ _ (fun _ => trivial) ?_
  · have : (⟨g4, 0, none⟩ : Addr).add j = ⟨g4, j, none⟩ := by unfold Addr.add; split <;> simp_all
    rw [this]
    show w3.cell? _ = _
    rw [C3.cell]; exact hv
  clear hK K
  rw [show goInt (((i32s (words16 b)).length : Nat) : Int) = .int .i64 16 by rw [i32s_len, words16_len]; rfl]
  refine wpAnyT_last (i := 3) (by kernel_rfl) rfl (by rfl) (by kernel_rfl) (by kernel_rfl) (fun K hK => ?_)
  go_simp
  refine hK _ _ ?_
  clear hK K
  have e16 : splice (i32s (z32 80)) 0 (i32s (words16 b)) = i32s (filled (words16 b) 16 80) := by
    unfold splice filled
    rw [grow80_16 _ (words16_len b)]
    simp [i32s, z32, words16]
  rw [e16] at C4
  have hch' : Chg (fun k => k = w.heap.size + 1 + 1) w3 w4 := ⟨hch.os, hch.tape, hch.output, hch.size, hch.block⟩
  have H1 := Lib.hid (C1.chg hch' (by omega))
  have H2 := Lib.hid C4
  have HB := Lib.hid (CBl.trans (hch'.below CBl.size (fun k hk => by omega)))
  clear C1 C2 C3 C4 CBl hch hch' hsz e16 hz hz8
  go_wp2
  go_loopw [5] (fun iv wr => ∃ t : Nat, iv = .int .i64 (t : Nat) ∧ 16 ≤ t ∧ t ≤ 80 ∧ Hid (CB wr 72 (w.heap.size + 1 + 1) (i32s (filled (words16 b) t 80))) ∧ Hid (CB wr 72 (w.heap.size + 1) (i32s (z32 80))) ∧ Hid (Below w.heap.size w wr)) (fun iv _ => 80 - (intOf iv).toNat)
  case atStart => exact ⟨16, rfl, by decide, by decide, H2.out, H1.out, HB.out⟩
  case round =>
    clear H1 H2 HB
    obtain ⟨t, rfl, ht16, ht, H2, H1, HB⟩ := hrel
    have h16 : ¬ t < 16 := by omega
    by_cases h80 : t < 80
    · obtain ⟨t3, h3⟩ : ∃ t3, t3 = t - 3 := ⟨_, rfl⟩
      obtain ⟨t8, h8⟩ : ∃ t8, t8 = t - 8 := ⟨_, rfl⟩
      obtain ⟨t14, h14⟩ : ∃ t14, t14 = t - 14 := ⟨_, rfl⟩
      obtain ⟨t16, h16'⟩ : ∃ t16, t16 = t - 16 := ⟨_, rfl⟩
      have e3 : (t : Int) - 3 = (t3 : Int) := by omega
      have e8 : (t : Int) - 8 = (t8 : Int) := by omega
      have e14 : (t : Int) - 14 = (t14 : Int) := by omega
      have e16 : (t : Int) - 16 = (t16 : Int) := by omega
      have gt : ∀ i, i < t → wr.cell? ⟨w.heap.size + 1 + 1, i, none⟩ = some (.int .u32 ((grow80 (words16 b) t).getD i 0)) := fun i hi => by
        rw [H2.out.cell, i32s_at _ _ (by rw [filled_len _ _ _ ht]; omega), filled_at _ _ _ _ hi]
      have g3 := gt t3 (by omega)
      have g8 := gt t8 (by omega)
      have g14 := gt t14 (by omega)
      have g16 := gt t16 (by omega)
      have HL : Hid (laterI (grow80 (words16 b) t) t = turnI (bits .xor .u32 (bits .xor .u32 (bits .xor .u32 ((grow80 (words16 b) t).getD t3 0) ((grow80 (words16 b) t).getD t8 0)) ((grow80 (words16 b) t).getD t14 0)) ((grow80 (words16 b) t).getD t16 0)) 1) := by
        show _ = _; rw [h3, h8, h14, h16']; rfl
      have w3 : IntKind.i64.wrap (t3 : Int) = (t3 : Int) := wrap_i64_nat _ (by omega)
      have q3 : (t3 : Int) < 80 := by omega
      have p3 : (0 : Int) ≤ (t3 : Int) := by omega
      have w8 : IntKind.i64.wrap (t8 : Int) = (t8 : Int) := wrap_i64_nat _ (by omega)
      have q8 : (t8 : Int) < 80 := by omega
      have p8 : (0 : Int) ≤ (t8 : Int) := by omega
      have w14 : IntKind.i64.wrap (t14 : Int) = (t14 : Int) := wrap_i64_nat _ (by omega)
      have q14 : (t14 : Int) < 80 := by omega
      have p14 : (0 : Int) ≤ (t14 : Int) := by omega
      have w16 : IntKind.i64.wrap (t16 : Int) = (t16 : Int) := wrap_i64_nat _ (by omega)
      have q16 : (t16 : Int) < 80 := by omega
      have p16 : (0 : Int) ≤ (t16 : Int) := by omega
      have p0 : (0 : Int) ≤ (t : Int) := by omega
      have q0 : (t : Int) < 80 := by omega
      clear gt
      generalize hL : laterI (grow80 (words16 b) t) t = L at HL
      generalize (grow80 (words16 b) t).getD t3 0 = x3 at *
      generalize (grow80 (words16 b) t).getD t8 0 = x8 at *
      generalize (grow80 (words16 b) t).getD t14 0 = x14 at *
      generalize (grow80 (words16 b) t).getD t16 0 = x16 at *
      have f1 := H2.out.free t
      have ct : wr.cell? ⟨w.heap.size + 1 + 1, t, none⟩ = some (.int .u32 ((filled (words16 b) t 80).getD t 0)) := by
        rw [H2.out.cell, i32s_at _ _ (by rw [filled_len _ _ _ ht]; omega)]
      generalize (filled (words16 b) t 80).getD t 0 = old at ct
      have HKD : Hid (∀ (W : World) (n : Nat), (W.cell? ⟨w.heap.size + 1 + 1, t3, none⟩ = some (.int .u32 x3) ∧ W.cell? ⟨w.heap.size + 1 + 1, t8, none⟩ = some (.int .u32 x8) ∧ W.cell? ⟨w.heap.size + 1 + 1, t14, none⟩ = some (.int .u32 x14) ∧ W.cell? ⟨w.heap.size + 1 + 1, t16, none⟩ = some (.int .u32 x16)) → ((W.drewN n).cell? ⟨w.heap.size + 1 + 1, t3, none⟩ = some (.int .u32 x3) ∧ (W.drewN n).cell? ⟨w.heap.size + 1 + 1, t8, none⟩ = some (.int .u32 x8) ∧ (W.drewN n).cell? ⟨w.heap.size + 1 + 1, t14, none⟩ = some (.int .u32 x14) ∧ (W.drewN n).cell? ⟨w.heap.size + 1 + 1, t16, none⟩ = some (.int .u32 x16))) := fun W n h => h
      have HKS : Hid (∀ (W : World) (v : Value), (W.cell? ⟨w.heap.size + 1 + 1, t3, none⟩ = some (.int .u32 x3) ∧ W.cell? ⟨w.heap.size + 1 + 1, t8, none⟩ = some (.int .u32 x8) ∧ W.cell? ⟨w.heap.size + 1 + 1, t14, none⟩ = some (.int .u32 x14) ∧ W.cell? ⟨w.heap.size + 1 + 1, t16, none⟩ = some (.int .u32 x16)) → ((W.setCell ⟨w.heap.size + 1 + 1, t, none⟩ v).cell? ⟨w.heap.size + 1 + 1, t3, none⟩ = some (.int .u32 x3) ∧ (W.setCell ⟨w.heap.size + 1 + 1, t, none⟩ v).cell? ⟨w.heap.size + 1 + 1, t8, none⟩ = some (.int .u32 x8) ∧ (W.setCell ⟨w.heap.size + 1 + 1, t, none⟩ v).cell? ⟨w.heap.size + 1 + 1, t14, none⟩ = some (.int .u32 x14) ∧ (W.setCell ⟨w.heap.size + 1 + 1, t, none⟩ v).cell? ⟨w.heap.size + 1 + 1, t16, none⟩ = some (.int .u32 x16))) := fun W v h =>
        ⟨by rw [World.cell?_setCell_other _ _ _ _ (by simp <;> omega)]; exact h.1, by rw [World.cell?_setCell_other _ _ _ _ (by simp <;> omega)]; exact h.2.1, by rw [World.cell?_setCell_other _ _ _ _ (by simp <;> omega)]; exact h.2.2.1, by rw [World.cell?_setCell_other _ _ _ _ (by simp <;> omega)]; exact h.2.2.2⟩
      have HF : Hid (∀ W, Chg (fun _ => False) wr W → CB (W.setCell ⟨w.heap.size + 1 + 1, t, none⟩ (.int .u32 L)) 72 (w.heap.size + 1 + 1) (i32s (filled (words16 b) (t + 1) 80)) ∧ CB (W.setCell ⟨w.heap.size + 1 + 1, t, none⟩ (.int .u32 L)) 72 (w.heap.size + 1) (i32s (z32 80)) ∧ Below w.heap.size w (W.setCell ⟨w.heap.size + 1 + 1, t, none⟩ (.int .u32 L))) := fun W hW => by
        have h2 := (H2.out.chg hW (fun e => e)).set t (.int .u32 L)
        rw [i32s_set, filled_next (words16 b) t 80 (by omega) L (by rw [if_neg h16]; exact hL.symm)] at h2
        exact ⟨h2, (H1.out.chg hW (fun e => e)).other ⟨w.heap.size + 1 + 1, t, none⟩ (by show w.heap.size + 1 + 1 ≠ _; omega) _,
          (HB.out.trans (hW.below HB.out.size (fun _ e => e.elim))).setCell (p := ⟨w.heap.size + 1 + 1, t, none⟩) (by show _ ≤ w.heap.size + 1 + 1; omega) _⟩
      clear H2 H1 HB hL h3 h8 h14 h16'
      go_wp2
      go_region_held3 (fun W => W.cell? ⟨w.heap.size + 1 + 1, t3, none⟩ = some (.int .u32 x3) ∧ W.cell? ⟨w.heap.size + 1 + 1, t8, none⟩ = some (.int .u32 x8) ∧ W.cell? ⟨w.heap.size + 1 + 1, t14, none⟩ = some (.int .u32 x14) ∧ W.cell? ⟨w.heap.size + 1 + 1, t16, none⟩ = some (.int .u32 x16))
        (first | assumption | exact ⟨g3, g8, g14, g16⟩ | (refine HKD.out _ _ ?_; assumption) | (refine HKS.out _ _ ?_; assumption))
        (first
        | (go_at_call 52; refine (rot1_any _ _).mono ?_; rintro e w2 ⟨rfl, rfl⟩; rw [← HL.out]))
      go_wp2
      go_roundw
      case rel =>
        have h := HF.out wr.drew (Chg.refl _ _).drew
        exact ⟨t + 1, by go_num, by omega, by omega, h.1, h.2.1, h.2.2⟩
      case measure => simp [intOf]; omega
    · have ht80 : t = 80 := by omega
      have hq : decide ((t : Int) < 80) = false := by rw [decide_eq_false_iff_not]; omega
      rw [ht80, filled_all] at H2
      clear ht80
      have hL : (i32s (grow80 (words16 b) 80)).length = 80 := by rw [i32s_len, grow80_len]
      have h1c := i32s_one (grow80 (words16 b) 80)
      obtain ⟨G, hG⟩ : ∃ G, G = i32s (grow80 (words16 b) 80) := ⟨_, rfl⟩
      rw [← hG] at H2 hL h1c
      have HG := Lib.hid hG
      clear hG
      go_upto_region 7 with fail
      refine wp_region_lit ?_
      refine wpList_plain rfl fun K1 hK1 => wp_loadc 72 (.tmp 3) rfl (w.heap.size + 1 + 1) 0 80 rfl H2.out _ Tryd.underlying72 rfl (zero_of_info info80).2 (by omega) G (by rw [List.drop_zero]; exact List.take_of_length_le (by omega)) (hK1 _ _ ?_)
      clear hK1 K1
      refine wpList_plain rfl fun K1 hK1 => wp_storec 72 (.tmp 2) (.tmp 37) rfl (w.heap.size + 1) 0 80 rfl G rfl hL H1.out (zero_of_info info80).2 (by simp [i32s, z32]) h1c fun w' hc hch hsz => hK1 _ _ ?_
      clear hK1 K1
      rw [splice_all (by rw [hL]; simp [i32s, z32])] at hc
      go_wp2
      refine bodyPost_ret (ret_row rfl rfl hc _ Tryd.underlying72 rfl (by rw [(zero_of_info info80).2, hL])) rfl ⟨by rw [HG.out], ?_⟩
      exact HB.out.trans (hch.below HB.out.size (fun k hk => by omega))
end Go.Proofs.YtpipjkpjpkgmpaaDoor
