import Derived.Test.YtclbjmanmkoikaaDoorSa
import Derived.BigRegion
import Derived.Deep.RegionHeld3
import Derived.BigQuiet
namespace Go.Proofs.YtclbjmanmkoikaaDoor
open Go.RowKit

theorem index64 (cs : Array Value) (k : Nat) (v : Value) (hk : k < 64) (hv : cs[k]? = some v) (W : World) : (Instr.index 88 (.agg cs) (.int .i64 (k : Nat))).run Tryd.prog W = .ok v W := by
  have hu := run_underlying (P := Tryd.prog) Tryd.underlying88
  have hu8 := run_underlying (P := Tryd.prog) Tryd.underlying5
  simp [Instr.index, asIntOf, hu, part, isAgg, hu8, hv, Sem.run_bind, Result.andThen]
  omega
theorem index80 (cs : Array Value) (k : Nat) (v : Value) (hk : k < 80) (hv : cs[k]? = some v) (W : World) : (Instr.index 102 (.agg cs) (.int .i64 (k : Nat))).run Tryd.prog W = .ok v W := by
  have hu := run_underlying (P := Tryd.prog) Tryd.underlying102
  have hu8 := run_underlying (P := Tryd.prog) Tryd.underlying85
  simp [Instr.index, asIntOf, hu, part, isAgg, hu8, hv, Sem.run_bind, Result.andThen]
  omega

set_option maxHeartbeats 800000 in
set_option maxRecDepth 100000 in
theorem numbersOf_any (b : List Nat) (w : World) (hl : b.length = 64) (hb : ∀ x ∈ b, x < 256) :
    Calls Tryd.prog 73 #[.agg (u8s b).toArray] w fun e w' => e = .returned (.agg (i32s (words16 b)).toArray) ∧ Below w.heap.size w w' := by
  have hz := (zero_of_info info16).1
  go_enter Tryd.func73, Tryd.ntmps73
  have hbl : (u8s b).length = 64 := by rw [u8s_len, hl]
  have HB0 : Hid (CB (((w.alloc (.cells (u8s b).toArray 88)).alloc (.cells (i32s (z32 16)).toArray 112)).alloc (.cells (i32s (z32 16)).toArray 112)) 88 w.heap.size (u8s b)) := ((CB.new w _ _).alloc _).alloc _
  generalize hy : (u8s b) = ys at *
  go_wp2_with fail
  refine wp_loadc 88 (.tmp 1) rfl w.heap.size 0 64 rfl HB0.out _ Tryd.underlying88 rfl (zero_of_info infoB64).2 (by omega) ys (by rw [List.drop_zero]; exact List.take_of_length_le (by omega)) ?_
  go_wp2
  have H0 := Lib.hid ((cb2 w (.cells ys.toArray 88) 112 (i32s (z32 16))).alloc (.cells (i32s (z32 16)).toArray 112))
  have H1 := Lib.hid (cb3 w (.cells ys.toArray 88) (.cells (i32s (z32 16)).toArray 112) 112 (i32s (z32 16)))
  have HB := Lib.hid (bl3 w (.cells ys.toArray 88) (.cells (i32s (z32 16)).toArray 112) (.cells (i32s (z32 16)).toArray 112))
  go_loopw [7] (fun iv wr => ∃ k : Nat, iv = .int .i64 (k : Nat) ∧ k ≤ 64 ∧ Hid (CB wr 112 (w.heap.size + 1) (i32s (z32 16))) ∧ Hid (CB wr 112 (w.heap.size + 1 + 1) (i32s (st16 b k))) ∧ Hid (Below w.heap.size w wr)) (fun iv _ => 64 - (intOf iv).toNat)
  case atStart => exact ⟨0, rfl, by decide, H0.out, by rw [st16_zero]; exact H1.out, HB.out⟩
  case round =>
    clear H0 H1 HB HB0
    obtain ⟨k, rfl, hk, H0, H1, HB⟩ := hrel
    by_cases h64 : k < 64
    · obtain ⟨q, hq⟩ : ∃ q, q = k / 4 := ⟨_, rfl⟩
      have hq4 : (k : Int).tdiv 4 = (q : Int) := by rw [Int.tdiv_eq_ediv_of_nonneg (by omega)]; omega
      have hy1 : ys[k]? = some (.int .u8 ((b.getD k 0 : Nat) : Int)) := by rw [← hy]; simp [u8s, List.getD, show k < b.length by omega]
      have hx := getD_lt hb k
      have hp := pw_lt b q (getD_lt hb) (k % 4)
      have c1 : wr.cell? ⟨w.heap.size + 1 + 1, q, none⟩ = some (.int .u32 ((pw b q (k % 4) : Nat) : Int)) := by
        rw [H1.out.cell, i32s_at _ _ (by rw [st16_len]; omega), st16_at _ _ _ (by omega), show min 4 (k - 4 * q) = k % 4 by omega]
      have f1 := H1.out.free q
      have hp2 : pw b q (k % 4) < 16777216 := Nat.lt_of_lt_of_le hp (by have : 256 ^ (k % 4) ≤ 256 ^ 3 := Nat.pow_le_pow_right (by decide) (by omega); simpa using this)
      have HN : Hid (CB (wr.setCell ⟨w.heap.size + 1 + 1, q, none⟩ (.int .u32 ((pw b q (k % 4) * 256 + b.getD k 0 : Nat) : Int))) 112 (w.heap.size + 1 + 1) (i32s (st16 b (k + 1)))) := by
        have h := H1.out.set q (.int .u32 ((pw b q (k % 4) * 256 + b.getD k 0 : Nat) : Int))
        rw [i32s_set] at h
        have e := st16_next b k h64
        rw [← hq] at e
        rw [e] at h
        exact h
      generalize b.getD k 0 = x at *
      generalize pw b q (k % 4) = p at *
      have HO : Hid (bits .or .u32 ((p : Int) * 256) (x : Nat) = ((p * 256 + x : Nat) : Int)) := or_join p x 8 (by decide) (by omega) (by omega)
      rw [← HO.out] at HN
      have hq16 : (q : Int) < 16 := by omega
      have hq0 : (0 : Int) ≤ (q : Int) := by omega
      have hix := index64 ys.toArray k _ h64 (by simpa using hy1)
      clear hq hp hy1
      go_wp2
      go_roundw
      case rel => exact ⟨k + 1, by go_num, by omega, H0.out.other ⟨w.heap.size + 1 + 1, q, none⟩ (by show w.heap.size + 1 + 1 ≠ _; omega) _, HN.out, HB.out.setCell (p := ⟨w.heap.size + 1 + 1, q, none⟩) (by show _ ≤ w.heap.size + 1 + 1; omega) _⟩
      case measure => simp [intOf]; omega
    · have hk64 : k = 64 := by omega
      have hq : decide ((k : Int) < 64) = false := by rw [decide_eq_false_iff_not]; omega
      rw [hk64, st16_all] at H1
      clear hk64
      go_upto_region 7 with fail
      refine wp_region_lit ?_
      refine wpList_plain rfl fun K1 hK1 => wp_loadc 112 (.tmp 3) rfl (w.heap.size + 1 + 1) 0 16 rfl H1.out _ Tryd.underlying112 rfl (zero_of_info info16).2 (by simp [i32s, words16]) (i32s (words16 b)) (by rw [List.drop_zero]; exact List.take_of_length_le (by simp [i32s, words16])) (hK1 _ _ ?_)
      clear hK1 K1
      refine wpList_plain rfl fun K1 hK1 => wp_storec 112 (.tmp 2) (.tmp 23) rfl (w.heap.size + 1) 0 16 rfl (i32s (words16 b)) rfl (by simp [i32s, words16]) H0.out (zero_of_info info16).2 (by simp [i32s, z32]) (i32s_one _) fun w' hc hch hsz => hK1 _ _ ?_
      clear hK1 K1
      rw [splice_all (by simp [i32s, words16, z32])] at hc
      go_wp2
      refine bodyPost_ret (ret_row rfl rfl hc _ Tryd.underlying112 rfl (by rw [(zero_of_info info16).2]; simp [i32s, words16])) rfl ⟨rfl, ?_⟩
      exact HB.out.trans (hch.below HB.out.size (fun k hk => by omega))

theorem info32L : (Tryd.prog.info? 85).map (·.size) = some 1 := by kernel_rfl
theorem grow80_16 (l : List Int) (h : l.length = 16) : grow80 l 16 = l := by
  apply List.ext_getElem (by rw [grow80_len, h])
  intro i h1 h2
  have hg : ∀ t, t ≤ 16 → grow80 l t = l.take t := by
    intro t
    induction t with
    | zero => intro _; rfl
    | succ t ih =>
      intro ht
      rw [grow80, ih (by omega), if_pos (by omega), List.take_add_one, List.getElem?_eq_getElem (by omega), List.getD_eq_getElem?_getD, List.getElem?_eq_getElem (by omega)]
      rfl
  simp [hg 16 (Nat.le_refl _), List.take_of_length_le (show l.length ≤ 16 by omega)]

set_option maxHeartbeats 4000000 in
set_option maxRecDepth 100000 in
theorem widened_any (b : List Nat) (w : World) (hl : b.length = 64) (hb : ∀ x ∈ b, x < 256) :
    Calls Tryd.prog 61 #[.agg (u8s b).toArray] w fun e w' => e = .returned (.agg (i32s (grow80 (words16 b) 80)).toArray) ∧ Below w.heap.size w w' := by
  have hz := (zero_of_info info16).1
  have hz8 := (zero_of_info info80).1
  have hbl : (u8s b).length = 64 := by rw [u8s_len, hl]
  go_enter Tryd.func61, Tryd.ntmps61
  go_upto_region 2 with fail
  have C0 : CB (((w.alloc (.cells (u8s b).toArray 88)).alloc (.cells (i32s (z32 80)).toArray 102)).alloc (.cells (i32s (z32 80)).toArray 102)) 88 w.heap.size (u8s b) := ((CB.new w _ _).alloc _).alloc _
  have C1 := (cb2 w (.cells (u8s b).toArray 88) 102 (i32s (z32 80))).alloc (.cells (i32s (z32 80)).toArray 102)
  have C2 := cb3 w (.cells (u8s b).toArray 88) (.cells (i32s (z32 80)).toArray 102) 102 (i32s (z32 80))
  have CBl := bl3 w (.cells (u8s b).toArray 88) (.cells (i32s (z32 80)).toArray 102) (.cells (i32s (z32 80)).toArray 102)
  generalize (((w.alloc (.cells (u8s b).toArray 88)).alloc (.cells (i32s (z32 80)).toArray 102)).alloc (.cells (i32s (z32 80)).toArray 102)) = W0 at *
  refine wp_region_lit ?_
  refine wpList_plain rfl fun K1 hK1 => wp_loadc 88 (.tmp 1) rfl w.heap.size 0 64 rfl C0 _ Tryd.underlying88 rfl (zero_of_info infoB64).2 (by omega) (u8s b) (by rw [List.drop_zero]; exact List.take_of_length_le (by omega)) (hK1 _ _ ?_)
  clear hK1 K1
  refine wpList_plain rfl fun K1 hK1 => ?_
  go_simp
  go_at_call 73
  refine (numbersOf_any b _ hl hb).mono ?_
  rintro e w1 ⟨rfl, hb1⟩
  go_simp
  refine hK1 _ _ ?_
  clear hK1 K1
  have C1 := C1.below hb1
  have C2 := C2.below hb1
  have CBl := CBl.trans (hb1.mono CBl.size)
  clear C0 hb1
  refine wpList_plain rfl fun K1 hK1 => ?_
  go_simp
  refine hK1 _ _ ?_
  clear hK1 K1
  have C3 := CB.new w1 112 (i32s (z32 16))
  have hlt : w.heap.size + 1 + 1 < w1.heap.size := C2.lt
  have C1 := C1.alloc (.cells (i32s (z32 16)).toArray 112)
  have C2 := C2.alloc (.cells (i32s (z32 16)).toArray 112)
  have CBl := CBl.alloc CBl.size (.cells (i32s (z32 16)).toArray 112)
  generalize w1.heap.size = g4 at *
  generalize w1.alloc (.cells (i32s (z32 16)).toArray 112) = W2 at *
  refine wpList_plain rfl fun K1 hK1 => wp_storec 112 (.tmp 4) (.tmp 7) rfl g4 0 16 rfl (i32s (words16 b)) rfl (by simp [i32s, words16]) C3 (zero_of_info info16).2 (by simp [i32s, z32]) (i32s_one _) fun w3 C3 hch hsz => hK1 _ _ ?_
  clear hK1 K1
  rw [splice_all (by simp [i32s, words16, z32])] at C3
  have C1 := C1.chg hch (by omega)
  have C2 := C2.chg hch (by omega)
  have CBl := CBl.trans (hch.below CBl.size (fun k hk => by omega))
  clear hch hsz
  go_upto_region 3 with fail
  refine wp_region_tail (fun _ => True) 3 (by kernel_rfl) ?_
  refine wpAnyT_take (i := 0) (v := ?_) rfl (by kernel_rfl) (by kernel_rfl) (by kernel_rfl) (by kernel_rfl) rfl (by kernel_rfl) (fun _ _ _ h => h) (Or.inl ⟨by rfl, ?_⟩) trivial ?_
  case refine_2 => (rintro W -; go_simp; try (with_reducible rfl))
  refine wpAnyT_take (i := 1) (v := ?_) rfl (by kernel_rfl) (by kernel_rfl) (by kernel_rfl) (by kernel_rfl) rfl (by kernel_rfl) (fun _ _ _ h => h) (Or.inl ⟨by rfl, ?_⟩) trivial ?_
  case refine_2 => (rintro W -; go_simp; try (with_reducible rfl))
  refine wpAnyT_op (i := 2) (by kernel_rfl) rfl (by rfl) (fun K hK => ?_)
  refine wp_copy (.tmp 8) (.tmp 9) 114 114 rfl 85 Tryd.underlying114 info32L (w.heap.size + 1 + 1) 0 80 80 ⟨g4, 0, none⟩ 16 16 rfl rfl (show CB w3.drew _ _ _ from C2) (i32s (words16 b)) (by simp [i32s, words16]) (fun j v hv => ?_) (by simp [i32s, words16, z32]) (i32s_one _) fun w4 C4 hch hsz => hK _ _ (fun _ => trivial) ?_
  · have : (⟨g4, 0, none⟩ : Addr).add j = ⟨g4, j, none⟩ := by unfold Addr.add; split <;> simp_all
    rw [this]
    show w3.cell? _ = _
    rw [C3.cell]; exact hv
  clear hK K
  rw [show goInt (((i32s (words16 b)).length : Nat) : Int) = .int .i64 16 by rw [i32s_len, words16_len]; rfl]
  refine wpAnyT_last (i := 3) (by kernel_rfl) rfl (by rfl) (by kernel_rfl) (by kernel_rfl) (fun K hK => ?_)
  go_simp
  refine hK _ _ ?_
  clear hK K
  have e16 : splice (i32s (z32 80)) 0 (i32s (words16 b)) = i32s (filled (words16 b) 16 80) := by
    unfold splice filled
    rw [grow80_16 _ (words16_len b)]
    simp [i32s, z32, words16]
  rw [e16] at C4
  have hch' : Chg (fun k => k = w.heap.size + 1 + 1) w3 w4 := ⟨hch.os, hch.tape, hch.output, hch.size, hch.block⟩
  have H1 := Lib.hid (C1.chg hch' (by omega))
  have H2 := Lib.hid C4
  have HB := Lib.hid (CBl.trans (hch'.below CBl.size (fun k hk => by omega)))
  clear C1 C2 C3 C4 CBl hch hch' hsz e16 hz hz8
  go_wp2
  go_loopw [5] (fun iv wr => ∃ t : Nat, iv = .int .i64 (t : Nat) ∧ 16 ≤ t ∧ t ≤ 80 ∧ Hid (CB wr 102 (w.heap.size + 1 + 1) (i32s (filled (words16 b) t 80))) ∧ Hid (CB wr 102 (w.heap.size + 1) (i32s (z32 80))) ∧ Hid (Below w.heap.size w wr)) (fun iv _ => 80 - (intOf iv).toNat)
  case atStart => exact ⟨16, rfl, by decide, by decide, H2.out, H1.out, HB.out⟩
  case round =>
    clear H1 H2 HB
    obtain ⟨t, rfl, ht16, ht, H2, H1, HB⟩ := hrel
    have h16 : ¬ t < 16 := by omega
    by_cases h80 : t < 80
    · obtain ⟨t3, h3⟩ : ∃ t3, t3 = t - 3 := ⟨_, rfl⟩
      obtain ⟨t8, h8⟩ : ∃ t8, t8 = t - 8 := ⟨_, rfl⟩
      obtain ⟨t14, h14⟩ : ∃ t14, t14 = t - 14 := ⟨_, rfl⟩
      obtain ⟨t16, h16'⟩ : ∃ t16, t16 = t - 16 := ⟨_, rfl⟩
      have e3 : (t : Int) - 3 = (t3 : Int) := by omega
      have e8 : (t : Int) - 8 = (t8 : Int) := by omega
      have e14 : (t : Int) - 14 = (t14 : Int) := by omega
      have e16 : (t : Int) - 16 = (t16 : Int) := by omega
      have gt : ∀ i, i < t → wr.cell? ⟨w.heap.size + 1 + 1, i, none⟩ = some (.int .u32 ((grow80 (words16 b) t).getD i 0)) := fun i hi => by
        rw [H2.out.cell, i32s_at _ _ (by rw [filled_len _ _ _ ht]; omega), filled_at _ _ _ _ hi]
      have g3 := gt t3 (by omega)
      have g8 := gt t8 (by omega)
      have g14 := gt t14 (by omega)
      have g16 := gt t16 (by omega)
      have HL : Hid (laterI (grow80 (words16 b) t) t = turnI (bits .xor .u32 (bits .xor .u32 (bits .xor .u32 ((grow80 (words16 b) t).getD t3 0) ((grow80 (words16 b) t).getD t8 0)) ((grow80 (words16 b) t).getD t14 0)) ((grow80 (words16 b) t).getD t16 0)) 1) := by
        show _ = _; rw [h3, h8, h14, h16']; rfl
      have w3 : IntKind.i64.wrap (t3 : Int) = (t3 : Int) := wrap_i64_nat _ (by omega)
      have q3 : (t3 : Int) < 80 := by omega
      have p3 : (0 : Int) ≤ (t3 : Int) := by omega
      have w8 : IntKind.i64.wrap (t8 : Int) = (t8 : Int) := wrap_i64_nat _ (by omega)
      have q8 : (t8 : Int) < 80 := by omega
      have p8 : (0 : Int) ≤ (t8 : Int) := by omega
      have w14 : IntKind.i64.wrap (t14 : Int) = (t14 : Int) := wrap_i64_nat _ (by omega)
      have q14 : (t14 : Int) < 80 := by omega
      have p14 : (0 : Int) ≤ (t14 : Int) := by omega
      have w16 : IntKind.i64.wrap (t16 : Int) = (t16 : Int) := wrap_i64_nat _ (by omega)
      have q16 : (t16 : Int) < 80 := by omega
      have p16 : (0 : Int) ≤ (t16 : Int) := by omega
      have p0 : (0 : Int) ≤ (t : Int) := by omega
      have q0 : (t : Int) < 80 := by omega
      clear gt
      generalize hL : laterI (grow80 (words16 b) t) t = L at HL
      generalize (grow80 (words16 b) t).getD t3 0 = x3 at *
      generalize (grow80 (words16 b) t).getD t8 0 = x8 at *
      generalize (grow80 (words16 b) t).getD t14 0 = x14 at *
      generalize (grow80 (words16 b) t).getD t16 0 = x16 at *
      have f1 := H2.out.free t
      have ct : wr.cell? ⟨w.heap.size + 1 + 1, t, none⟩ = some (.int .u32 ((filled (words16 b) t 80).getD t 0)) := by
        rw [H2.out.cell, i32s_at _ _ (by rw [filled_len _ _ _ ht]; omega)]
      generalize (filled (words16 b) t 80).getD t 0 = old at ct
      have HKD : Hid (∀ (W : World) (n : Nat), (W.cell? ⟨w.heap.size + 1 + 1, t3, none⟩ = some (.int .u32 x3) ∧ W.cell? ⟨w.heap.size + 1 + 1, t8, none⟩ = some (.int .u32 x8) ∧ W.cell? ⟨w.heap.size + 1 + 1, t14, none⟩ = some (.int .u32 x14) ∧ W.cell? ⟨w.heap.size + 1 + 1, t16, none⟩ = some (.int .u32 x16)) → ((W.drewN n).cell? ⟨w.heap.size + 1 + 1, t3, none⟩ = some (.int .u32 x3) ∧ (W.drewN n).cell? ⟨w.heap.size + 1 + 1, t8, none⟩ = some (.int .u32 x8) ∧ (W.drewN n).cell? ⟨w.heap.size + 1 + 1, t14, none⟩ = some (.int .u32 x14) ∧ (W.drewN n).cell? ⟨w.heap.size + 1 + 1, t16, none⟩ = some (.int .u32 x16))) := fun W n h => h
      have HKS : Hid (∀ (W : World) (v : Value), (W.cell? ⟨w.heap.size + 1 + 1, t3, none⟩ = some (.int .u32 x3) ∧ W.cell? ⟨w.heap.size + 1 + 1, t8, none⟩ = some (.int .u32 x8) ∧ W.cell? ⟨w.heap.size + 1 + 1, t14, none⟩ = some (.int .u32 x14) ∧ W.cell? ⟨w.heap.size + 1 + 1, t16, none⟩ = some (.int .u32 x16)) → ((W.setCell ⟨w.heap.size + 1 + 1, t, none⟩ v).cell? ⟨w.heap.size + 1 + 1, t3, none⟩ = some (.int .u32 x3) ∧ (W.setCell ⟨w.heap.size + 1 + 1, t, none⟩ v).cell? ⟨w.heap.size + 1 + 1, t8, none⟩ = some (.int .u32 x8) ∧ (W.setCell ⟨w.heap.size + 1 + 1, t, none⟩ v).cell? ⟨w.heap.size + 1 + 1, t14, none⟩ = some (.int .u32 x14) ∧ (W.setCell ⟨w.heap.size + 1 + 1, t, none⟩ v).cell? ⟨w.heap.size + 1 + 1, t16, none⟩ = some (.int .u32 x16))) := fun W v h =>
        ⟨by rw [World.cell?_setCell_other _ _ _ _ (by simp <;> omega)]; exact h.1, by rw [World.cell?_setCell_other _ _ _ _ (by simp <;> omega)]; exact h.2.1, by rw [World.cell?_setCell_other _ _ _ _ (by simp <;> omega)]; exact h.2.2.1, by rw [World.cell?_setCell_other _ _ _ _ (by simp <;> omega)]; exact h.2.2.2⟩
      have HF : Hid (∀ W, Chg (fun _ => False) wr W → CB (W.setCell ⟨w.heap.size + 1 + 1, t, none⟩ (.int .u32 L)) 102 (w.heap.size + 1 + 1) (i32s (filled (words16 b) (t + 1) 80)) ∧ CB (W.setCell ⟨w.heap.size + 1 + 1, t, none⟩ (.int .u32 L)) 102 (w.heap.size + 1) (i32s (z32 80)) ∧ Below w.heap.size w (W.setCell ⟨w.heap.size + 1 + 1, t, none⟩ (.int .u32 L))) := fun W hW => by
        have h2 := (H2.out.chg hW (fun e => e)).set t (.int .u32 L)
        rw [i32s_set, filled_next (words16 b) t 80 (by omega) L (by rw [if_neg h16]; exact hL.symm)] at h2
        exact ⟨h2, (H1.out.chg hW (fun e => e)).other ⟨w.heap.size + 1 + 1, t, none⟩ (by show w.heap.size + 1 + 1 ≠ _; omega) _,
          (HB.out.trans (hW.below HB.out.size (fun _ e => e.elim))).setCell (p := ⟨w.heap.size + 1 + 1, t, none⟩) (by show _ ≤ w.heap.size + 1 + 1; omega) _⟩
      clear H2 H1 HB hL h3 h8 h14 h16'
      go_wp2
      go_region_held3 (fun W => W.cell? ⟨w.heap.size + 1 + 1, t3, none⟩ = some (.int .u32 x3) ∧ W.cell? ⟨w.heap.size + 1 + 1, t8, none⟩ = some (.int .u32 x8) ∧ W.cell? ⟨w.heap.size + 1 + 1, t14, none⟩ = some (.int .u32 x14) ∧ W.cell? ⟨w.heap.size + 1 + 1, t16, none⟩ = some (.int .u32 x16))
        (first | assumption | exact ⟨g3, g8, g14, g16⟩ | (refine HKD.out _ _ ?_; assumption) | (refine HKS.out _ _ ?_; assumption))
        (first
        | (go_at_call 63; refine (rot1_any _ _).mono ?_; rintro e w2 ⟨rfl, rfl⟩; rw [← HL.out]))
      go_wp2
      go_roundw
      case rel =>
        have h := HF.out wr.drew (Chg.refl _ _).drew
        exact ⟨t + 1, by go_num, by omega, by omega, h.1, h.2.1, h.2.2⟩
      case measure => simp [intOf]; omega
    · have ht80 : t = 80 := by omega
      have hq : decide ((t : Int) < 80) = false := by rw [decide_eq_false_iff_not]; omega
      rw [ht80, filled_all] at H2
      clear ht80
      have hL : (i32s (grow80 (words16 b) 80)).length = 80 := by rw [i32s_len, grow80_len]
      have h1c := i32s_one (grow80 (words16 b) 80)
      obtain ⟨G, hG⟩ : ∃ G, G = i32s (grow80 (words16 b) 80) := ⟨_, rfl⟩
      rw [← hG] at H2 hL h1c
      have HG := Lib.hid hG
      clear hG
      go_upto_region 7 with fail
      refine wp_region_lit ?_
      refine wpList_plain rfl fun K1 hK1 => wp_loadc 102 (.tmp 3) rfl (w.heap.size + 1 + 1) 0 80 rfl H2.out _ Tryd.underlying102 rfl (zero_of_info info80).2 (by omega) G (by rw [List.drop_zero]; exact List.take_of_length_le (by omega)) (hK1 _ _ ?_)
      clear hK1 K1
      refine wpList_plain rfl fun K1 hK1 => wp_storec 102 (.tmp 2) (.tmp 37) rfl (w.heap.size + 1) 0 80 rfl G rfl hL H1.out (zero_of_info info80).2 (by simp [i32s, z32]) h1c fun w' hc hch hsz => hK1 _ _ ?_
      clear hK1 K1
      rw [splice_all (by rw [hL]; simp [i32s, z32])] at hc
      go_wp2
      refine bodyPost_ret (ret_row rfl rfl hc _ Tryd.underlying102 rfl (by rw [(zero_of_info info80).2, hL])) rfl ⟨by rw [HG.out], ?_⟩
      exact HB.out.trans (hch.below HB.out.size (fun k hk => by omega))

set_option maxHeartbeats 2000000 in
set_option maxRecDepth 100000 in
theorem behind_any (s : S5) (b : List Nat) (w : World) (hl : b.length = 64) (hb : ∀ x ∈ b, x < 256) :
    Calls Tryd.prog 47 #[.agg s.cells.toArray, .agg (u8s b).toArray] w fun e w' => e = .returned (.agg (block5 s b).cells.toArray) ∧ Below w.heap.size w w' := by
  have hz := (zero_of_info infoF5).1
  have hbl : (u8s b).length = 64 := by rw [u8s_len, hl]
  go_enter Tryd.func47, Tryd.ntmps47
  go_upto_region 1 with fail
  have C0 : CB (((w.alloc (.cells s.cells.toArray 87)).alloc (.cells (u8s b).toArray 88)).alloc (.cells (i32s (z32 5)).toArray 87)) 87 w.heap.size s.cells := ((CB.new w _ _).alloc _).alloc _
  have C1 := (cb2 w (.cells s.cells.toArray 87) 88 (u8s b)).alloc (.cells (i32s (z32 5)).toArray 87)
  have C2 := cb3 w (.cells s.cells.toArray 87) (.cells (u8s b).toArray 88) 87 (i32s (z32 5))
  have CBl := bl3 w (.cells s.cells.toArray 87) (.cells (u8s b).toArray 88) (.cells (i32s (z32 5)).toArray 87)
  generalize (((w.alloc (.cells s.cells.toArray 87)).alloc (.cells (u8s b).toArray 88)).alloc (.cells (i32s (z32 5)).toArray 87)) = W0 at *
  have k0 : W0.cell? ⟨w.heap.size, 0, none⟩ = some (.int .u32 s.a) := C0.cell 0
  have k1 : W0.cell? ⟨w.heap.size, 1, none⟩ = some (.int .u32 s.b) := C0.cell 1
  have k2 : W0.cell? ⟨w.heap.size, 2, none⟩ = some (.int .u32 s.c) := C0.cell 2
  have k3 : W0.cell? ⟨w.heap.size, 3, none⟩ = some (.int .u32 s.d) := C0.cell 3
  have k4 : W0.cell? ⟨w.heap.size, 4, none⟩ = some (.int .u32 s.e) := C0.cell 4
  have H0 := Lib.hid C0
  have H1 := Lib.hid C1
  have H2 := Lib.hid C2
  have HB := Lib.hid CBl
  clear C0 C1 C2 CBl hz
  go_quiet (fail)
  clear k0 k1 k2 k3 k4
  go_upto_region 2 with fail
  have H0 : Hid (CB (W0.drewN nq) _ _ _) := H0.out
  have H1 : Hid (CB (W0.drewN nq) _ _ _) := H1.out
  have H2 : Hid (CB (W0.drewN nq) _ _ _) := H2.out
  have HB : Hid (Below w.heap.size w (W0.drewN nq)) := HB.out.trans ((Chg.drawN (S := fun _ => False) W0 nq).below HB.out.size (fun _ e => e.elim))
  generalize W0.drewN nq = W1 at *
  refine wp_region_lit ?_
  refine wpList_plain rfl fun K1 hK1 => wp_loadc 88 (.tmp 3) rfl (w.heap.size + 1) 0 64 rfl H1.out _ Tryd.underlying88 rfl (zero_of_info infoB64).2 (by omega) (u8s b) (by rw [List.drop_zero]; exact List.take_of_length_le (by omega)) (hK1 _ _ ?_)
  clear hK1 K1
  refine wpList_plain rfl fun K1 hK1 => ?_
  go_simp
  go_at_call 61
  refine (widened_any b _ hl hb).mono ?_
  rintro e w1 ⟨rfl, hb1⟩
  go_simp
  refine hK1 _ _ ?_
  clear hK1 K1
  have H0 := Lib.hid (H0.out.below hb1)
  have H2 := Lib.hid (H2.out.below hb1)
  have HB := Lib.hid (HB.out.trans (hb1.mono HB.out.size))
  clear H1 hb1
  obtain ⟨G, hG⟩ : ∃ G, G = grow80 (words16 b) 80 := ⟨_, rfl⟩
  have hGl : G.length = 80 := by rw [hG, grow80_len]
  rw [← hG]
  have HG := Lib.hid hG
  clear hG
  go_wp2
  go_loopw [27, 5, 6, 7, 8, 9] (fun iv va vb vc vd ve wr => ∃ (t : Nat) (x : S5), iv = .int .i64 (t : Nat) ∧ va = .int .u32 x.a ∧ vb = .int .u32 x.b ∧ vc = .int .u32 x.c ∧ vd = .int .u32 x.d ∧ ve = .int .u32 x.e ∧ t ≤ 80 ∧ Hid (x = rounds5 G t s) ∧ Hid (CB wr 87 w.heap.size s.cells) ∧ Hid (CB wr 87 (w.heap.size + 1 + 1) (i32s (z32 5))) ∧ Hid (Below w.heap.size w wr)) (fun iv _ _ _ _ _ _ => 80 - (intOf iv).toNat)
  case atStart => exact ⟨0, s, rfl, rfl, rfl, rfl, rfl, rfl, by decide, rfl, H0.out, H2.out, HB.out⟩
  case round =>
    clear H0 H2 HB
    obtain ⟨t, x, rfl, rfl, rfl, rfl, rfl, rfl, ht, HX, H0, H2, HB⟩ := hrel
    by_cases h80 : t < 80
    · obtain ⟨wv, hwv⟩ : ∃ wv, wv = G.getD t 0 := ⟨_, rfl⟩
      have hix := index80 (i32s G).toArray t (.int .u32 wv) h80 (by rw [hwv, List.getElem?_toArray, i32s_at _ _ (by omega)])
      obtain ⟨nx, hnx⟩ : ∃ nx, nx = nextI t wv x := ⟨_, rfl⟩
      have HNX : Hid ((turnI x.a 5 + fI t x.b x.c x.d + x.e + kI t + wv) % 4294967296 = nx) := by
        show _ = _; rw [hnx, nextI]; simp only [IntKind.wrap_u32']; omega
      have HST : Hid (step5 t (G.getD t 0) x = ⟨nx, x.a, turnI x.b 30, x.c, x.d⟩) := by show _ = _; rw [hnx, hwv]; rfl
      clear hnx hwv
      generalize (i32s G).toArray = GA at *
      go_wp2_with (first
        | (go_at_call 62; refine (mix_any t _ _ _ _).mono ?_; rintro e w2 ⟨rfl, rfl⟩)
        | (go_at_call 63; with_reducible refine (rot5_any _ _).mono ?_; rintro e w2 ⟨rfl, rfl⟩)
        | (go_at_call 63; with_reducible refine (rot30_any _ _).mono ?_; rintro e w2 ⟨rfl, rfl⟩))

      go_roundw
      case rel => exact ⟨t + 1, ⟨nx, x.a, turnI x.b 30, x.c, x.d⟩, by go_num, by rw [HNX.out], rfl, rfl, rfl, rfl, by omega, by show _ = _; rw [rounds5, ← HX.out, HST.out], H0.out, H2.out, HB.out⟩
      case measure => simp [intOf]; omega
    · have ht80 : t = 80 := by omega
      have hq : decide ((t : Int) < 80) = false := by rw [decide_eq_false_iff_not]; omega
      rw [ht80] at HX
      clear ht80
      have HX2 : Hid (block5 s b = plus5 s x) := by show _ = _; rw [block5, ← HG.out, ← HX.out]
      have k0 : wr.cell? ⟨w.heap.size, 0, none⟩ = some (.int .u32 s.a) := H0.out.cell 0
      have k1 : wr.cell? ⟨w.heap.size, 1, none⟩ = some (.int .u32 s.b) := H0.out.cell 1
      have k2 : wr.cell? ⟨w.heap.size, 2, none⟩ = some (.int .u32 s.c) := H0.out.cell 2
      have k3 : wr.cell? ⟨w.heap.size, 3, none⟩ = some (.int .u32 s.d) := H0.out.cell 3
      have k4 : wr.cell? ⟨w.heap.size, 4, none⟩ = some (.int .u32 s.e) := H0.out.cell 4
      have f0 := H2.out.free 0
      have f1 := H2.out.free 1
      have f2 := H2.out.free 2
      have f3 := H2.out.free 3
      have f4 := H2.out.free 4
      have j0 : wr.cell? ⟨w.heap.size + 1 + 1, 0, none⟩ = some (.int .u32 0) := H2.out.cell 0
      have j1 : wr.cell? ⟨w.heap.size + 1 + 1, 1, none⟩ = some (.int .u32 0) := H2.out.cell 1
      have j2 : wr.cell? ⟨w.heap.size + 1 + 1, 2, none⟩ = some (.int .u32 0) := H2.out.cell 2
      have j3 : wr.cell? ⟨w.heap.size + 1 + 1, 3, none⟩ = some (.int .u32 0) := H2.out.cell 3
      have j4 : wr.cell? ⟨w.heap.size + 1 + 1, 4, none⟩ = some (.int .u32 0) := H2.out.cell 4
      go_wp2
      refine bodyPost_ret (ret_row rfl rfl (five_set H2.out rfl _ _ _ _ _) _ Tryd.underlying87 rfl (zero_of_info infoF5).2) rfl ⟨?_, ?_⟩
      · rw [HX2.out]; simp [plus5, S5.cells, IntKind.wrap_u32']
      exact ((((HB.out.setCell (p := ⟨w.heap.size + 1 + 1, 0, none⟩) (by show _ ≤ w.heap.size + 1 + 1; omega) _).setCell (p := ⟨w.heap.size + 1 + 1, 1, none⟩) (by show _ ≤ w.heap.size + 1 + 1; omega) _).setCell (p := ⟨w.heap.size + 1 + 1, 2, none⟩) (by show _ ≤ w.heap.size + 1 + 1; omega) _).setCell (p := ⟨w.heap.size + 1 + 1, 3, none⟩) (by show _ ≤ w.heap.size + 1 + 1; omega) _).setCell (p := ⟨w.heap.size + 1 + 1, 4, none⟩) (by show _ ≤ w.heap.size + 1 + 1; omega) _

abbrev ow8 (w : World) (B : Nat) (v : Value) (zs : List Nat) : Prop := w.ownsRow B 5 1 v zs.length (u8s zs)
theorem u8s_ats (xs : List Nat) (i : Nat) (h : i < xs.length) : (u8s xs)[i]? = some (.int .u8 (at0 xs i : Nat)) := by simp [u8s, h, at0_getElem]
theorem u8s_sets (xs : List Nat) (i x : Nat) : (u8s xs).set i (.int .u8 (x : Nat)) = u8s (xs.set i x) := by simp [u8s, List.map_set]
theorem ow8.set {w : World} {B g n c : Nat} {zs : List Nat} (h : w.ownsRow B 5 1 (.slice (some ⟨g, 0, none⟩) n c) n (u8s zs)) (j x : Nat) : (w.setCell ⟨g, j, none⟩ (.int .u8 (x : Nat))).ownsRow B 5 1 (.slice (some ⟨g, 0, none⟩) n c) n (u8s (zs.set j x)) := by
  rw [← u8s_sets]
  exact (World.ownsRow.stored h j _).1
theorem wpl_make8s {w : World} {ops : Array Oper} {rest : List Oper} {o : Oper} {a : Act} {Q : Exit → Act → World → Prop} (hg : o.guard = none) (l c : Operand) (hop : o.op = Op.makeSlice 25 l c)
    (B : Nat) (kl kc : IntKind) (L C : Int) (n : Nat) (hl : a.eval l = .int kl L) (hc : a.eval c = .int kc C) (hL : L = (n : Int)) (hC : C = (n : Int)) (hn : n ≤ 4398046511104) (hB : B ≤ w.heap.size)
    (hK : ∀ w', w'.ownsRow B 5 1 (.slice (some ⟨w.heap.size, 0, none⟩) n n) n (u8s (List.replicate n 0)) → Below B w w' → w.heap.size < w'.heap.size → wpList Tryd.prog ops Q rest (a.put o.dst (.slice (some ⟨w.heap.size, 0, none⟩) n n)) w') :
    wpList Tryd.prog ops Q (o :: rest) a w := by
  obtain ⟨i, hi, hz, hsz, hb⟩ := info_parts info8
  refine wpList_make_full w hg l c 25 hop B 5 i (.int .u8 0) 1 Tryd.underlying25 hi hz hsz kl kc L C n hl hc hL hC (by rw [hb]; omega) (by simp only [maxLen]; omega) hB ?_
  intro w' hown hgr
  refine hK w' ?_ ((Below.refl _ _).grown hgr hB (fun k hk => by cases hk)) ((World.ownsRow.lt hown _ rfl).2)
  have e : (madeCells (Value.int .u8 0).cells (n * 1)).toList = u8s (List.replicate n 0) := by
    rw [Nat.mul_one, show (Value.int .u8 0).cells = #[.int .u8 0] from rfl, toList_madeCells_one, u8s, List.map_replicate]
    rfl
  rw [e] at hown
  exact hown

theorem byte_of_words (x t : Nat) : IntKind.u8.wrap ((x / 2 ^ t : Nat) : Int) = ((x / 2 ^ t % 256 : Nat) : Int) := by
  rw [show IntKind.u8.wrap ((x / 2 ^ t : Nat) : Int) = ((x / 2 ^ t : Nat) : Int) % 256 from by simp [IntKind.wrap, IntKind.signed, IntKind.bits]]
  omega

/-- The length's eight bytes. -/
def len8 (n : Nat) : List Nat := (List.range 8).map fun i => n * 8 % 18446744073709551616 / 2 ^ (56 - 8 * i) % 256
theorem padI_eq (n : Nat) : padI n = (128 :: List.replicate (padN n) 0) ++ len8 n := rfl
theorem len8_len (n : Nat) : (len8 n).length = 8 := by simp [len8]
theorem len8_next (n j x : Nat) (h : j < 8) (hx : x = n * 8 % 18446744073709551616 / 2 ^ (56 - 8 * j) % 256) : (len8 n).take (j + 1) = (len8 n).take j ++ [x] := by
  rw [List.take_add_one, List.getElem?_eq_getElem (by rw [len8_len]; exact h), hx]
  simp [len8]
def PadPost (n : Nat) (w : World) (e : Ending) (w' : World) : Prop := ∃ g c, e = .returned (.slice (some ⟨g, 0, none⟩) (padN n + 9) c) ∧ w'.ownsRow w.heap.size 5 1 (.slice (some ⟨g, 0, none⟩) (padN n + 9) c) (padN n + 9) (u8s (padI n)) ∧ Below w.heap.size w w'
theorem padN_lt (n : Nat) : padN n < 64 := by unfold padN; omega
theorem u64_shr (n j : Nat) (hj : j < 8) : IntKind.u8.wrap (IntKind.u64.wrap ((n : Int) * 8) / 2 ^ (56 - 8 * j)) = ((n * 8 % 18446744073709551616 / 2 ^ (56 - 8 * j) % 256 : Nat) : Int) := by
  rw [IntKind.wrap_u64, show ((n : Int) * 8 % 18446744073709551616 : Int) = ((n * 8 % 18446744073709551616 : Nat) : Int) by omega]
  have := byte_of_words (n * 8 % 18446744073709551616) (56 - 8 * j)
  rw [← this]
  congr 1

/-- The eight bytes as the program lays them: from behind. -/
def laidN (n i : Nat) : List Nat := (128 :: List.replicate (padN n) 0) ++ (List.replicate (8 - i) 0 ++ (len8 n).drop (8 - i))
theorem laidN_len (n i : Nat) (h : i ≤ 8) : (laidN n i).length = padN n + 9 := by simp [laidN, len8_len] <;> omega
theorem laidN_next (n i x : Nat) (h : i < 8) (hx : x = n * 8 % 18446744073709551616 / 2 ^ (8 * i) % 256) : (laidN n i).set (padN n + 8 - i) x = laidN n (i + 1) := by
  unfold laidN
  rw [List.set_append_right _ _ (by simp; omega)]
  congr 1
  have e : (len8 n).drop (8 - (i + 1)) = x :: (len8 n).drop (8 - i) := by
    rw [List.drop_eq_getElem_cons (by rw [len8_len]; omega), show 8 - (i + 1) + 1 = 8 - i by omega]
    congr 1
    simp [len8, hx, show 56 - 8 * (7 - i) = 8 * i by omega]
  rw [e, show 8 - i = 8 - (i + 1) + 1 by omega, List.replicate_succ', List.append_assoc]
  rw [List.set_append_right _ _ (by simp; omega)]
  congr 1
  rw [show padN n + 8 - i - (128 :: List.replicate (padN n) 0).length - (List.replicate (8 - (i + 1)) 0).length = 0 by simp; omega]
  rfl
theorem laidN_zero (n : Nat) : laidN n 0 = (List.replicate (padN n + 9) 0).set 0 128 := by
  show (128 :: List.replicate (padN n) 0) ++ (List.replicate 8 0 ++ (len8 n).drop 8) = _
  rw [List.drop_of_length_le (by rw [len8_len]; exact Nat.le_refl _), List.append_nil, List.cons_append, List.replicate_append_replicate]
  rfl
theorem laidN_all (n : Nat) : laidN n 8 = padI n := by simp [laidN, padI_eq]

set_option maxHeartbeats 800000 in
set_option maxRecDepth 100000 in
theorem spad_any (n : Nat) (w : World) (hn : n < 18446744073709551616) : Calls Tryd.prog 48 #[.int .u64 (n : Nat)] w (PadPost n w) := by
  have hp := padN_lt n
  have e1 : (IntKind.u64.wrap (55 - (n : Int))).tmod 64 = (padN n : Int) := by
    rw [IntKind.wrap_u64, Int.tmod_eq_emod_of_nonneg (by omega)]; unfold padN; omega
  have HX1 : Hid (∀ i, i < 8 → IntKind.u64.wrap (8 * (n : Int)) / 2 ^ (8 * i) % 256 = ((n * 8 % 18446744073709551616 / 2 ^ (8 * i) % 256 : Nat) : Int)) := fun i hi => by
    have h := u64_shr n (7 - i) (by omega)
    rw [IntKind.wrap_u8', show 56 - 8 * (7 - i) = 8 * i by omega] at h
    rw [Int.mul_comm]; exact h
  have HN1 : Hid (∀ i x, i < 8 → x = n * 8 % 18446744073709551616 / 2 ^ (8 * i) % 256 → (laidN n i).set (padN n + 8 - i) x = laidN n (i + 1)) := fun i x hi hx => laidN_next n i x hi hx
  obtain ⟨N, hN⟩ : ∃ N, N = padN n := ⟨_, rfl⟩
  have HNN := Lib.hid hN
  rw [← hN] at hp e1 HN1
  clear hN
  go_enter Tryd.func48, Tryd.ntmps48
  go_wp2_with (at_make; refine wpl_make8s rfl _ _ rfl w.heap.size _ _ _ _ (N + 9) rfl rfl (by omega) (by omega) (by omega) (Nat.le_refl _) ?_)
  intro w1 hown hbl hlt
  have c0 := World.ownsRow.cellAt hown 0 (by omega)
  rw [u8s_ats _ _ (by simp)] at c0
  have f0 := World.ownsRow.frozenAt hown 0
  generalize at0 (List.replicate (N + 9) 0) 0 = old at c0
  have HO := Lib.hid (ow8.set hown 0 128)
  have HB := Lib.hid (hbl.setCell (p := ⟨w.heap.size, 0, none⟩) (Nat.le_refl _) (.int .u8 (128 : Nat)))
  clear hown hbl hlt
  go_wp2
  clear c0 f0
  go_loopw [15] (fun iv wr => ∃ i : Nat, iv = .int .i64 (i : Nat) ∧ i ≤ 8 ∧ Hid (wr.ownsRow w.heap.size 5 1 (.slice (some ⟨w.heap.size, 0, none⟩) (N + 9) (N + 9)) (N + 9) (u8s (laidN n i))) ∧ Hid (Below w.heap.size w wr)) (fun iv _ => 8 - (intOf iv).toNat)
  case atStart => exact ⟨0, rfl, by decide, by rw [laidN_zero, ← HNN.out]; exact HO.out, HB.out⟩
  case round =>
    clear HO HB
    obtain ⟨i, rfl, hi, HO, HB⟩ := hrel
    by_cases hi8 : i < 8
    · obtain ⟨p, hp2⟩ : ∃ p, p = N + 8 - i := ⟨_, rfl⟩
      obtain ⟨m, hm⟩ : ∃ m, m = 8 * i := ⟨_, rfl⟩
      obtain ⟨x, hx⟩ : ∃ x, x = n * 8 % 18446744073709551616 / 2 ^ (8 * i) % 256 := ⟨_, rfl⟩
      have HX := Lib.hid (HX1.out i hi8)
      rw [← hx, ← hm] at HX
      have HN2 := Lib.hid (HN1.out i x hi8 hx)
      rw [← hp2] at HN2
      have c0 := World.ownsRow.cellAt HO.out p (by omega)
      rw [u8s_ats _ _ (by rw [laidN_len _ _ hi, ← HNN.out]; omega)] at c0
      have f0 := World.ownsRow.frozenAt HO.out p
      generalize at0 (laidN n i) p = old at c0
      have e3 : (N : Int) + 9 - 1 - (i : Int) = (p : Int) := by omega
      have e5 : (N : Int) + 8 - (i : Int) = (p : Int) := by omega
      have e4 : (8 : Int) * (i : Int) = (m : Int) := by omega
      have hp3 : p < N + 9 := by omega
      have hm64 : m < 64 := by omega
      have HN3 := Lib.hid (ow8.set HO.out p x)
      rw [HN2.out] at HN3
      clear hx hm hp2 HN2
      go_wp2
      trace_state
      go_roundw
      case rel =>
        refine ⟨i + 1, by go_num, by omega, ?_, HB.out.setCell (p := ⟨w.heap.size, p, none⟩) (Nat.le_refl _) _⟩
        rw [HX.out]; exact HN3.out
      case measure => simp [intOf]; omega
    · obtain rfl : i = 8 := by omega
      go_wp2
      go_ret
      have e : N = padN n := HNN.out
      subst e
      refine ⟨w.heap.size, padN n + 9, rfl, ?_, HB.out⟩
      rw [← laidN_all]; exact HO.out

theorem wrap32 (n : Nat) (h : n < 4294967296) : IntKind.u32.wrap (n : Int) = (n : Int) := by rw [IntKind.wrap_u32']; omega
/-- Four bytes as the reference joins them. -/
theorem ref_word (x0 x1 x2 x3 : Nat) (h0 : x0 < 256) (h1 : x1 < 256) (h2 : x2 < 256) (h3 : x3 < 256) :
    bits .or .u32 (bits .or .u32 (bits .or .u32 ((x0 : Int) * 16777216) ((x1 : Int) * 65536)) ((x2 : Int) * 256)) (x3 : Int) = ((((x0 * 256 + x1) * 256 + x2) * 256 + x3 : Nat) : Int) := by
  rw [show (x0 : Int) * 16777216 = ((x0 * 2 ^ 24 : Nat) : Int) by omega, show (x1 : Int) * 65536 = ((x1 * 65536 : Nat) : Int) by omega, show (x2 : Int) * 256 = ((x2 * 256 : Nat) : Int) by omega,
    or_join x0 _ 24 (by decide) (by omega) (by omega),
    show x0 * 2 ^ 24 + x1 * 65536 = (x0 * 256 + x1) * 2 ^ 16 by omega, or_join _ _ 16 (by decide) (by omega) (by omega),
    show (x0 * 256 + x1) * 2 ^ 16 + x2 * 256 = ((x0 * 256 + x1) * 256 + x2) * 2 ^ 8 by omega, or_join _ _ 8 (by decide) (by omega) (by omega)]

/-- SHA-1, as cells. -/
def shaC (m : List Nat) : List Value := bcells (sha5 m)
theorem own_rd8 {w : World} {B g n c : Nat} {zs : List Nat} (h : w.ownsRow B 5 1 (.slice (some ⟨g, 0, none⟩) n c) n (u8s zs)) (o k : Nat) (hk : o + k ≤ n) : Rd .u8 w (some ⟨g, o, none⟩) ((zs.drop o).take k) := by
  have hl : zs.length = n := by have := h.1; simpa [u8s] using this
  intro j hj
  refine ⟨g, o, rfl, fun i hi => ?_⟩
  have hk2 : i < k := by simp at hi; omega
  rw [World.ownsRow.cellAt h (o + i) (by omega), u8s, List.getElem?_map, List.getElem?_eq_getElem (by omega)]
  simp [List.getD, List.getElem?_take, List.getElem?_drop, hk2, show o + i < zs.length by omega]
theorem own_rdw {w : World} {B g n c : Nat} {zs : List Nat} (h : w.ownsRow B 5 1 (.slice (some ⟨g, 0, none⟩) n c) n (u8s zs)) : Rd .u8 w (some ⟨g, 0, none⟩) zs := by
  have hl : zs.length = n := by have := h.1; simpa [u8s] using this
  have := own_rd8 h 0 n (by omega)
  rwa [List.drop_zero, List.take_of_length_le (by omega)] at this
theorem u8s_news (k : List Nat) : ∀ u ∈ u8s k, u.oneCell' = true := by
  intro v hv; obtain ⟨x, _, rfl⟩ := List.mem_map.1 hv; rfl
theorem pad_byte (n : Nat) : ∀ x ∈ padI n, x < 256 := by
  intro x hx
  simp [padI] at hx
  rcases hx with rfl | ⟨_, rfl⟩ | ⟨i, _, rfl⟩
  · decide
  · decide
  · exact Nat.mod_lt _ (by decide)

end Go.Proofs.YtclbjmanmkoikaaDoor
