import Derived.Test.YtaookoejdnkkoaaGreatDoorKSa
import Derived.Deep.RegionHeld3
namespace Go.Proofs.YtaookoejdnkkoaaGreatDoor
open Go.RowKit

theorem index64 (cs : Array Value) (k : Nat) (v : Value) (hk : k < 64) (hv : cs[k]? = some v) (W : World) : (Instr.index 175 (.agg cs) (.int .i64 (k : Nat))).run Tryz.prog W = .ok v W := by
  have hu := run_underlying (P := Tryz.prog) Tryz.underlying175
  have hu8 := run_underlying (P := Tryz.prog) Tryz.underlying5
  simp [Instr.index, asIntOf, hu, part, isAgg, hu8, hv, Sem.run_bind, Result.andThen]
  omega
theorem index80 (cs : Array Value) (k : Nat) (v : Value) (hk : k < 80) (hv : cs[k]? = some v) (W : World) : (Instr.index 179 (.agg cs) (.int .i64 (k : Nat))).run Tryz.prog W = .ok v W := by
  have hu := run_underlying (P := Tryz.prog) Tryz.underlying179
  have hu8 := run_underlying (P := Tryz.prog) Tryz.underlying136
  simp [Instr.index, asIntOf, hu, part, isAgg, hu8, hv, Sem.run_bind, Result.andThen]
  omega

set_option maxHeartbeats 800000 in
set_option maxRecDepth 100000 in
theorem numbersOf_any (b : List Nat) (w : World) (hl : b.length = 64) (hb : ∀ x ∈ b, x < 256) :
    Calls Tryz.prog 226 #[.agg (u8s b).toArray] w fun e w' => e = .returned (.agg (i32s (words16 b)).toArray) ∧ Below w.heap.size w w' := by
  have hz := (zero_of_info info16).1
  go_enter Tryz.func226, Tryz.ntmps226
  have hbl : (u8s b).length = 64 := by rw [u8s_len, hl]
  have HB0 : Hid (CB (((w.alloc (.cells (u8s b).toArray 175)).alloc (.cells (i32s (z32 16)).toArray 217)).alloc (.cells (i32s (z32 16)).toArray 217)) 175 w.heap.size (u8s b)) := ((CB.new w _ _).alloc _).alloc _
  generalize hy : (u8s b) = ys at *
  go_wp2_with fail
  refine wp_loadc 175 (.tmp 1) rfl w.heap.size 0 64 rfl HB0.out _ Tryz.underlying175 rfl (zero_of_info infoB64).2 (by omega) ys (by rw [List.drop_zero]; exact List.take_of_length_le (by omega)) ?_
  go_wp2
  have H0 := Lib.hid ((cb2 w (.cells ys.toArray 175) 217 (i32s (z32 16))).alloc (.cells (i32s (z32 16)).toArray 217))
  have H1 := Lib.hid (cb3 w (.cells ys.toArray 175) (.cells (i32s (z32 16)).toArray 217) 217 (i32s (z32 16)))
  have HB := Lib.hid (bl3 w (.cells ys.toArray 175) (.cells (i32s (z32 16)).toArray 217) (.cells (i32s (z32 16)).toArray 217))
  go_loopw [7] (fun iv wr => ∃ k : Nat, iv = .int .i64 (k : Nat) ∧ k ≤ 64 ∧ Hid (CB wr 217 (w.heap.size + 1) (i32s (z32 16))) ∧ Hid (CB wr 217 (w.heap.size + 1 + 1) (i32s (st16 b k))) ∧ Hid (Below w.heap.size w wr)) (fun iv _ => 64 - (intOf iv).toNat)
  case atStart => exact ⟨0, rfl, by decide, H0.out, by rw [st16_zero]; exact H1.out, HB.out⟩
  case round =>
    clear H0 H1 HB HB0
    obtain ⟨k, rfl, hk, H0, H1, HB⟩ := hrel
    by_cases h64 : k < 64
    · obtain ⟨q, hq⟩ : ∃ q, q = k / 4 := ⟨_, rfl⟩
      have hq4 : (k : Int).tdiv 4 = (q : Int) := by rw [Int.tdiv_eq_ediv_of_nonneg (by omega)]; omega
      have hy1 : ys[k]? = some (.int .u8 ((b.getD k 0 : Nat) : Int)) := by rw [← hy]; simp [u8s, List.getD, show k < b.length by omega]
      have hx := getD_lt hb k
      have hp := pw_lt b q (getD_lt hb) (k % 4)
      have c1 : wr.cell? ⟨w.heap.size + 1 + 1, q, none⟩ = some (.int .u32 ((pw b q (k % 4) : Nat) : Int)) := by
        rw [H1.out.cell, i32s_at _ _ (by rw [st16_len]; omega), st16_at _ _ _ (by omega), show min 4 (k - 4 * q) = k % 4 by omega]
      have f1 := H1.out.free q
      have hp2 : pw b q (k % 4) < 16777216 := Nat.lt_of_lt_of_le hp (by have : 256 ^ (k % 4) ≤ 256 ^ 3 := Nat.pow_le_pow_right (by decide) (by omega); simpa using this)
      have HN : Hid (CB (wr.setCell ⟨w.heap.size + 1 + 1, q, none⟩ (.int .u32 ((pw b q (k % 4) * 256 + b.getD k 0 : Nat) : Int))) 217 (w.heap.size + 1 + 1) (i32s (st16 b (k + 1)))) := by
        have h := H1.out.set q (.int .u32 ((pw b q (k % 4) * 256 + b.getD k 0 : Nat) : Int))
        rw [i32s_set] at h
        have e := st16_next b k h64
        rw [← hq] at e
        rw [e] at h
        exact h
      generalize b.getD k 0 = x at *
      generalize pw b q (k % 4) = p at *
      have HO : Hid (bits .or .u32 ((p : Int) * 256) (x : Nat) = ((p * 256 + x : Nat) : Int)) := or_join p x 8 (by decide) (by omega) (by omega)
      rw [← HO.out] at HN
      have hq16 : (q : Int) < 16 := by omega
      have hq0 : (0 : Int) ≤ (q : Int) := by omega
      have hix := index64 ys.toArray k _ h64 (by simpa using hy1)
      clear hq hp hy1
      go_wp2
      go_roundw
      case rel => exact ⟨k + 1, by go_num, by omega, H0.out.other ⟨w.heap.size + 1 + 1, q, none⟩ (by show w.heap.size + 1 + 1 ≠ _; omega) _, HN.out, HB.out.setCell (p := ⟨w.heap.size + 1 + 1, q, none⟩) (by show _ ≤ w.heap.size + 1 + 1; omega) _⟩
      case measure => simp [intOf]; omega
    · have hk64 : k = 64 := by omega
      have hq : decide ((k : Int) < 64) = false := by rw [decide_eq_false_iff_not]; omega
      rw [hk64, st16_all] at H1
      clear hk64
      go_upto_region 7 with fail
      refine wp_region_lit ?_
      refine wpList_plain rfl fun K1 hK1 => wp_loadc 217 (.tmp 3) rfl (w.heap.size + 1 + 1) 0 16 rfl H1.out _ Tryz.underlying217 rfl (zero_of_info info16).2 (by simp [i32s, words16]) (i32s (words16 b)) (by rw [List.drop_zero]; exact List.take_of_length_le (by simp [i32s, words16])) (hK1 _ _ ?_)
      clear hK1 K1
      refine wpList_plain rfl fun K1 hK1 => wp_storec 217 (.tmp 2) (.tmp 23) rfl (w.heap.size + 1) 0 16 rfl (i32s (words16 b)) rfl (by simp [i32s, words16]) H0.out (zero_of_info info16).2 (by simp [i32s, z32]) (i32s_one _) fun w' hc hch hsz => hK1 _ _ ?_
      clear hK1 K1
      rw [splice_all (by simp [i32s, words16, z32])] at hc
      go_wp2
      refine bodyPost_ret (ret_row rfl rfl hc _ Tryz.underlying217 rfl (by rw [(zero_of_info info16).2]; simp [i32s, words16])) rfl ⟨rfl, ?_⟩
      exact HB.out.trans (hch.below HB.out.size (fun k hk => by omega))

theorem info32L : (Tryz.prog.info? 136).map (·.size) = some 1 := by kernel_rfl
theorem grow80_16 (l : List Int) (h : l.length = 16) : grow80 l 16 = l := by
  apply List.ext_getElem (by rw [grow80_len, h])
  intro i h1 h2
  have hg : ∀ t, t ≤ 16 → grow80 l t = l.take t := by
    intro t
    induction t with
    | zero => intro _; rfl
    | succ t ih =>
      intro ht
      rw [grow80, ih (by omega), if_pos (by omega), List.take_add_one, List.getElem?_eq_getElem (by omega), List.getD_eq_getElem?_getD, List.getElem?_eq_getElem (by omega)]
      rfl
  simp [hg 16 (Nat.le_refl _), List.take_of_length_le (show l.length ≤ 16 by omega)]

set_option maxHeartbeats 4000000 in
set_option maxRecDepth 100000 in
theorem widened_any (b : List Nat) (w : World) (hl : b.length = 64) (hb : ∀ x ∈ b, x < 256) :
    Calls Tryz.prog 198 #[.agg (u8s b).toArray] w fun e w' => e = .returned (.agg (i32s (grow80 (words16 b) 80)).toArray) ∧ Below w.heap.size w w' := by
  have hz := (zero_of_info info16).1
  have hz8 := (zero_of_info info80).1
  have hbl : (u8s b).length = 64 := by rw [u8s_len, hl]
  go_enter Tryz.func198, Tryz.ntmps198
  go_upto_region 2 with fail
  have C0 : CB (((w.alloc (.cells (u8s b).toArray 175)).alloc (.cells (i32s (z32 80)).toArray 179)).alloc (.cells (i32s (z32 80)).toArray 179)) 175 w.heap.size (u8s b) := ((CB.new w _ _).alloc _).alloc _
  have C1 := (cb2 w (.cells (u8s b).toArray 175) 179 (i32s (z32 80))).alloc (.cells (i32s (z32 80)).toArray 179)
  have C2 := cb3 w (.cells (u8s b).toArray 175) (.cells (i32s (z32 80)).toArray 179) 179 (i32s (z32 80))
  have CBl := bl3 w (.cells (u8s b).toArray 175) (.cells (i32s (z32 80)).toArray 179) (.cells (i32s (z32 80)).toArray 179)
  generalize (((w.alloc (.cells (u8s b).toArray 175)).alloc (.cells (i32s (z32 80)).toArray 179)).alloc (.cells (i32s (z32 80)).toArray 179)) = W0 at *
  refine wp_region_lit ?_
  refine wpList_plain rfl fun K1 hK1 => wp_loadc 175 (.tmp 1) rfl w.heap.size 0 64 rfl C0 _ Tryz.underlying175 rfl (zero_of_info infoB64).2 (by omega) (u8s b) (by rw [List.drop_zero]; exact List.take_of_length_le (by omega)) (hK1 _ _ ?_)
  clear hK1 K1
  refine wpList_plain rfl fun K1 hK1 => ?_
  go_simp
  go_at_call 226
  refine (numbersOf_any b _ hl hb).mono ?_
  rintro e w1 ⟨rfl, hb1⟩
  go_simp
  refine hK1 _ _ ?_
  clear hK1 K1
  have C1 := C1.below hb1
  have C2 := C2.below hb1
  have CBl := CBl.trans (hb1.mono CBl.size)
  clear C0 hb1
  refine wpList_plain rfl fun K1 hK1 => ?_
  go_simp
  refine hK1 _ _ ?_
  clear hK1 K1
  have C3 := CB.new w1 217 (i32s (z32 16))
  have hlt : w.heap.size + 1 + 1 < w1.heap.size := C2.lt
  have C1 := C1.alloc (.cells (i32s (z32 16)).toArray 217)
  have C2 := C2.alloc (.cells (i32s (z32 16)).toArray 217)
  have CBl := CBl.alloc CBl.size (.cells (i32s (z32 16)).toArray 217)
  generalize w1.heap.size = g4 at *
  generalize w1.alloc (.cells (i32s (z32 16)).toArray 217) = W2 at *
  refine wpList_plain rfl fun K1 hK1 => wp_storec 217 (.tmp 4) (.tmp 7) rfl g4 0 16 rfl (i32s (words16 b)) rfl (by simp [i32s, words16]) C3 (zero_of_info info16).2 (by simp [i32s, z32]) (i32s_one _) fun w3 C3 hch hsz => hK1 _ _ ?_
  clear hK1 K1
  rw [splice_all (by simp [i32s, words16, z32])] at C3
  have C1 := C1.chg hch (by omega)
  have C2 := C2.chg hch (by omega)
  have CBl := CBl.trans (hch.below CBl.size (fun k hk => by omega))
  clear hch hsz
  go_upto_region 3 with fail
  refine wp_region_tail (fun _ => True) 3 (by kernel_rfl) ?_
  refine wpAnyT_take (i := 0) (v := ?_) rfl (by kernel_rfl) (by kernel_rfl) (by kernel_rfl) (by kernel_rfl) rfl (by kernel_rfl) (fun _ _ _ h => h) (Or.inl ⟨by rfl, ?_⟩) trivial ?_
  case refine_2 => (rintro W -; go_simp; try (with_reducible rfl))
  refine wpAnyT_take (i := 1) (v := ?_) rfl (by kernel_rfl) (by kernel_rfl) (by kernel_rfl) (by kernel_rfl) rfl (by kernel_rfl) (fun _ _ _ h => h) (Or.inl ⟨by rfl, ?_⟩) trivial ?_
  case refine_2 => (rintro W -; go_simp; try (with_reducible rfl))
  refine wpAnyT_op (i := 2) (by kernel_rfl) rfl (by rfl) (fun K hK => ?_)
  refine wp_copy (.tmp 8) (.tmp 9) 219 219 rfl 136 Tryz.underlying219 info32L (w.heap.size + 1 + 1) 0 80 80 ⟨g4, 0, none⟩ 16 16 rfl rfl (show CB w3.drew _ _ _ from C2) (i32s (words16 b)) (by simp [i32s, words16]) (fun j v hv => ?_) (by simp [i32s, words16, z32]) (i32s_one _) fun w4 C4 hch hsz => hK _ _ (fun _ => trivial) ?_
  · have : (⟨g4, 0, none⟩ : Addr).add j = ⟨g4, j, none⟩ := by unfold Addr.add; split <;> simp_all
    rw [this]
    show w3.cell? _ = _
    rw [C3.cell]; exact hv
  clear hK K
  rw [show goInt (((i32s (words16 b)).length : Nat) : Int) = .int .i64 16 by rw [i32s_len, words16_len]; rfl]
  refine wpAnyT_last (i := 3) (by kernel_rfl) rfl (by rfl) (by kernel_rfl) (by kernel_rfl) (fun K hK => ?_)
  go_simp
  refine hK _ _ ?_
  clear hK K
  have e16 : splice (i32s (z32 80)) 0 (i32s (words16 b)) = i32s (filled (words16 b) 16 80) := by
    unfold splice filled
    rw [grow80_16 _ (words16_len b)]
    simp [i32s, z32, words16]
  rw [e16] at C4
  have hch' : Chg (fun k => k = w.heap.size + 1 + 1) w3 w4 := ⟨hch.os, hch.tape, hch.output, hch.size, hch.block⟩
  have H1 := Lib.hid (C1.chg hch' (by omega))
  have H2 := Lib.hid C4
  have HB := Lib.hid (CBl.trans (hch'.below CBl.size (fun k hk => by omega)))
  clear C1 C2 C3 C4 CBl hch hch' hsz e16 hz hz8
  go_wp2
  go_loopw [5] (fun iv wr => ∃ t : Nat, iv = .int .i64 (t : Nat) ∧ 16 ≤ t ∧ t ≤ 80 ∧ Hid (CB wr 179 (w.heap.size + 1 + 1) (i32s (filled (words16 b) t 80))) ∧ Hid (CB wr 179 (w.heap.size + 1) (i32s (z32 80))) ∧ Hid (Below w.heap.size w wr)) (fun iv _ => 80 - (intOf iv).toNat)
  case atStart => exact ⟨16, rfl, by decide, by decide, H2.out, H1.out, HB.out⟩
  case round =>
    clear H1 H2 HB
    obtain ⟨t, rfl, ht16, ht, H2, H1, HB⟩ := hrel
    have h16 : ¬ t < 16 := by omega
    by_cases h80 : t < 80
    · obtain ⟨t3, h3⟩ : ∃ t3, t3 = t - 3 := ⟨_, rfl⟩
      obtain ⟨t8, h8⟩ : ∃ t8, t8 = t - 8 := ⟨_, rfl⟩
      obtain ⟨t14, h14⟩ : ∃ t14, t14 = t - 14 := ⟨_, rfl⟩
      obtain ⟨t16, h16'⟩ : ∃ t16, t16 = t - 16 := ⟨_, rfl⟩
      have e3 : (t : Int) - 3 = (t3 : Int) := by omega
      have e8 : (t : Int) - 8 = (t8 : Int) := by omega
      have e14 : (t : Int) - 14 = (t14 : Int) := by omega
      have e16 : (t : Int) - 16 = (t16 : Int) := by omega
      have gt : ∀ i, i < t → wr.cell? ⟨w.heap.size + 1 + 1, i, none⟩ = some (.int .u32 ((grow80 (words16 b) t).getD i 0)) := fun i hi => by
        rw [H2.out.cell, i32s_at _ _ (by rw [filled_len _ _ _ ht]; omega), filled_at _ _ _ _ hi]
      have g3 := gt t3 (by omega)
      have g8 := gt t8 (by omega)
      have g14 := gt t14 (by omega)
      have g16 := gt t16 (by omega)
      have HL : Hid (laterI (grow80 (words16 b) t) t = turnI (bits .xor .u32 (bits .xor .u32 (bits .xor .u32 ((grow80 (words16 b) t).getD t3 0) ((grow80 (words16 b) t).getD t8 0)) ((grow80 (words16 b) t).getD t14 0)) ((grow80 (words16 b) t).getD t16 0)) 1) := by
        show _ = _; rw [h3, h8, h14, h16']; rfl
      have w3 : IntKind.i64.wrap (t3 : Int) = (t3 : Int) := wrap_i64_nat _ (by omega)
      have q3 : (t3 : Int) < 80 := by omega
      have p3 : (0 : Int) ≤ (t3 : Int) := by omega
      have w8 : IntKind.i64.wrap (t8 : Int) = (t8 : Int) := wrap_i64_nat _ (by omega)
      have q8 : (t8 : Int) < 80 := by omega
      have p8 : (0 : Int) ≤ (t8 : Int) := by omega
      have w14 : IntKind.i64.wrap (t14 : Int) = (t14 : Int) := wrap_i64_nat _ (by omega)
      have q14 : (t14 : Int) < 80 := by omega
      have p14 : (0 : Int) ≤ (t14 : Int) := by omega
      have w16 : IntKind.i64.wrap (t16 : Int) = (t16 : Int) := wrap_i64_nat _ (by omega)
      have q16 : (t16 : Int) < 80 := by omega
      have p16 : (0 : Int) ≤ (t16 : Int) := by omega
      have p0 : (0 : Int) ≤ (t : Int) := by omega
      have q0 : (t : Int) < 80 := by omega
      clear gt
      generalize hL : laterI (grow80 (words16 b) t) t = L at HL
      generalize (grow80 (words16 b) t).getD t3 0 = x3 at *
      generalize (grow80 (words16 b) t).getD t8 0 = x8 at *
      generalize (grow80 (words16 b) t).getD t14 0 = x14 at *
      generalize (grow80 (words16 b) t).getD t16 0 = x16 at *
      have f1 := H2.out.free t
      have ct : wr.cell? ⟨w.heap.size + 1 + 1, t, none⟩ = some (.int .u32 ((filled (words16 b) t 80).getD t 0)) := by
        rw [H2.out.cell, i32s_at _ _ (by rw [filled_len _ _ _ ht]; omega)]
      generalize (filled (words16 b) t 80).getD t 0 = old at ct
      have HKD : Hid (∀ (W : World) (n : Nat), (W.cell? ⟨w.heap.size + 1 + 1, t3, none⟩ = some (.int .u32 x3) ∧ W.cell? ⟨w.heap.size + 1 + 1, t8, none⟩ = some (.int .u32 x8) ∧ W.cell? ⟨w.heap.size + 1 + 1, t14, none⟩ = some (.int .u32 x14) ∧ W.cell? ⟨w.heap.size + 1 + 1, t16, none⟩ = some (.int .u32 x16)) → ((W.drewN n).cell? ⟨w.heap.size + 1 + 1, t3, none⟩ = some (.int .u32 x3) ∧ (W.drewN n).cell? ⟨w.heap.size + 1 + 1, t8, none⟩ = some (.int .u32 x8) ∧ (W.drewN n).cell? ⟨w.heap.size + 1 + 1, t14, none⟩ = some (.int .u32 x14) ∧ (W.drewN n).cell? ⟨w.heap.size + 1 + 1, t16, none⟩ = some (.int .u32 x16))) := fun W n h => h
      have HKS : Hid (∀ (W : World) (v : Value), (W.cell? ⟨w.heap.size + 1 + 1, t3, none⟩ = some (.int .u32 x3) ∧ W.cell? ⟨w.heap.size + 1 + 1, t8, none⟩ = some (.int .u32 x8) ∧ W.cell? ⟨w.heap.size + 1 + 1, t14, none⟩ = some (.int .u32 x14) ∧ W.cell? ⟨w.heap.size + 1 + 1, t16, none⟩ = some (.int .u32 x16)) → ((W.setCell ⟨w.heap.size + 1 + 1, t, none⟩ v).cell? ⟨w.heap.size + 1 + 1, t3, none⟩ = some (.int .u32 x3) ∧ (W.setCell ⟨w.heap.size + 1 + 1, t, none⟩ v).cell? ⟨w.heap.size + 1 + 1, t8, none⟩ = some (.int .u32 x8) ∧ (W.setCell ⟨w.heap.size + 1 + 1, t, none⟩ v).cell? ⟨w.heap.size + 1 + 1, t14, none⟩ = some (.int .u32 x14) ∧ (W.setCell ⟨w.heap.size + 1 + 1, t, none⟩ v).cell? ⟨w.heap.size + 1 + 1, t16, none⟩ = some (.int .u32 x16))) := fun W v h =>
        ⟨by rw [World.cell?_setCell_other _ _ _ _ (by simp <;> omega)]; exact h.1, by rw [World.cell?_setCell_other _ _ _ _ (by simp <;> omega)]; exact h.2.1, by rw [World.cell?_setCell_other _ _ _ _ (by simp <;> omega)]; exact h.2.2.1, by rw [World.cell?_setCell_other _ _ _ _ (by simp <;> omega)]; exact h.2.2.2⟩
      have HF : Hid (∀ W, Chg (fun _ => False) wr W → CB (W.setCell ⟨w.heap.size + 1 + 1, t, none⟩ (.int .u32 L)) 179 (w.heap.size + 1 + 1) (i32s (filled (words16 b) (t + 1) 80)) ∧ CB (W.setCell ⟨w.heap.size + 1 + 1, t, none⟩ (.int .u32 L)) 179 (w.heap.size + 1) (i32s (z32 80)) ∧ Below w.heap.size w (W.setCell ⟨w.heap.size + 1 + 1, t, none⟩ (.int .u32 L))) := fun W hW => by
        have h2 := (H2.out.chg hW (fun e => e)).set t (.int .u32 L)
        rw [i32s_set, filled_next (words16 b) t 80 (by omega) L (by rw [if_neg h16]; exact hL.symm)] at h2
        exact ⟨h2, (H1.out.chg hW (fun e => e)).other ⟨w.heap.size + 1 + 1, t, none⟩ (by show w.heap.size + 1 + 1 ≠ _; omega) _,
          (HB.out.trans (hW.below HB.out.size (fun _ e => e.elim))).setCell (p := ⟨w.heap.size + 1 + 1, t, none⟩) (by show _ ≤ w.heap.size + 1 + 1; omega) _⟩
      clear H2 H1 HB hL h3 h8 h14 h16'
      go_wp2
      go_region_held3 (fun W => W.cell? ⟨w.heap.size + 1 + 1, t3, none⟩ = some (.int .u32 x3) ∧ W.cell? ⟨w.heap.size + 1 + 1, t8, none⟩ = some (.int .u32 x8) ∧ W.cell? ⟨w.heap.size + 1 + 1, t14, none⟩ = some (.int .u32 x14) ∧ W.cell? ⟨w.heap.size + 1 + 1, t16, none⟩ = some (.int .u32 x16))
        (first | assumption | exact ⟨g3, g8, g14, g16⟩ | (refine HKD.out _ _ ?_; assumption) | (refine HKS.out _ _ ?_; assumption))
        (first
        | (go_at_call 200; refine (rot1_any _ _).mono ?_; rintro e w2 ⟨rfl, rfl⟩; rw [← HL.out]))
      go_wp2
      go_roundw
      case rel =>
        have h := HF.out wr.drew (Chg.refl _ _).drew
        exact ⟨t + 1, by go_num, by omega, by omega, h.1, h.2.1, h.2.2⟩
      case measure => simp [intOf]; omega
    · have ht80 : t = 80 := by omega
      have hq : decide ((t : Int) < 80) = false := by rw [decide_eq_false_iff_not]; omega
      rw [ht80, filled_all] at H2
      clear ht80
      have hL : (i32s (grow80 (words16 b) 80)).length = 80 := by rw [i32s_len, grow80_len]
      have h1c := i32s_one (grow80 (words16 b) 80)
      obtain ⟨G, hG⟩ : ∃ G, G = i32s (grow80 (words16 b) 80) := ⟨_, rfl⟩
      rw [← hG] at H2 hL h1c
      have HG := Lib.hid hG
      clear hG
      go_upto_region 7 with fail
      refine wp_region_lit ?_
      refine wpList_plain rfl fun K1 hK1 => wp_loadc 179 (.tmp 3) rfl (w.heap.size + 1 + 1) 0 80 rfl H2.out _ Tryz.underlying179 rfl (zero_of_info info80).2 (by omega) G (by rw [List.drop_zero]; exact List.take_of_length_le (by omega)) (hK1 _ _ ?_)
      clear hK1 K1
      refine wpList_plain rfl fun K1 hK1 => wp_storec 179 (.tmp 2) (.tmp 37) rfl (w.heap.size + 1) 0 80 rfl G rfl hL H1.out (zero_of_info info80).2 (by simp [i32s, z32]) h1c fun w' hc hch hsz => hK1 _ _ ?_
      clear hK1 K1
      rw [splice_all (by rw [hL]; simp [i32s, z32])] at hc
      go_wp2
      refine bodyPost_ret (ret_row rfl rfl hc _ Tryz.underlying179 rfl (by rw [(zero_of_info info80).2, hL])) rfl ⟨by rw [HG.out], ?_⟩
      exact HB.out.trans (hch.below HB.out.size (fun k hk => by omega))

set_option maxHeartbeats 2000000 in
set_option maxRecDepth 100000 in
theorem behind_any (s : S5) (b : List Nat) (w : World) (hl : b.length = 64) (hb : ∀ x ∈ b, x < 256) :
    Calls Tryz.prog 166 #[.agg s.cells.toArray, .agg (u8s b).toArray] w fun e w' => e = .returned (.agg (block5 s b).cells.toArray) ∧ Below w.heap.size w w' := by
  have hz := (zero_of_info infoF5).1
  have hbl : (u8s b).length = 64 := by rw [u8s_len, hl]
  go_enter Tryz.func166, Tryz.ntmps166
  go_upto_region 1 with fail
  have C0 : CB (((w.alloc (.cells s.cells.toArray 174)).alloc (.cells (u8s b).toArray 175)).alloc (.cells (i32s (z32 5)).toArray 174)) 174 w.heap.size s.cells := ((CB.new w _ _).alloc _).alloc _
  have C1 := (cb2 w (.cells s.cells.toArray 174) 175 (u8s b)).alloc (.cells (i32s (z32 5)).toArray 174)
  have C2 := cb3 w (.cells s.cells.toArray 174) (.cells (u8s b).toArray 175) 174 (i32s (z32 5))
  have CBl := bl3 w (.cells s.cells.toArray 174) (.cells (u8s b).toArray 175) (.cells (i32s (z32 5)).toArray 174)
  generalize (((w.alloc (.cells s.cells.toArray 174)).alloc (.cells (u8s b).toArray 175)).alloc (.cells (i32s (z32 5)).toArray 174)) = W0 at *
  have k0 : W0.cell? ⟨w.heap.size, 0, none⟩ = some (.int .u32 s.a) := C0.cell 0
  have k1 : W0.cell? ⟨w.heap.size, 1, none⟩ = some (.int .u32 s.b) := C0.cell 1
  have k2 : W0.cell? ⟨w.heap.size, 2, none⟩ = some (.int .u32 s.c) := C0.cell 2
  have k3 : W0.cell? ⟨w.heap.size, 3, none⟩ = some (.int .u32 s.d) := C0.cell 3
  have k4 : W0.cell? ⟨w.heap.size, 4, none⟩ = some (.int .u32 s.e) := C0.cell 4
  have H0 := Lib.hid C0
  have H1 := Lib.hid C1
  have H2 := Lib.hid C2
  have HB := Lib.hid CBl
  clear C0 C1 C2 CBl hz
  go_quiet (fail)
  clear k0 k1 k2 k3 k4
  go_upto_region 2 with fail
  have H0 : Hid (CB (W0.drewN nq) _ _ _) := H0.out
  have H1 : Hid (CB (W0.drewN nq) _ _ _) := H1.out
  have H2 : Hid (CB (W0.drewN nq) _ _ _) := H2.out
  have HB : Hid (Below w.heap.size w (W0.drewN nq)) := HB.out.trans ((Chg.drawN (S := fun _ => False) W0 nq).below HB.out.size (fun _ e => e.elim))
  generalize W0.drewN nq = W1 at *
  refine wp_region_lit ?_
  refine wpList_plain rfl fun K1 hK1 => wp_loadc 175 (.tmp 3) rfl (w.heap.size + 1) 0 64 rfl H1.out _ Tryz.underlying175 rfl (zero_of_info infoB64).2 (by omega) (u8s b) (by rw [List.drop_zero]; exact List.take_of_length_le (by omega)) (hK1 _ _ ?_)
  clear hK1 K1
  refine wpList_plain rfl fun K1 hK1 => ?_
  go_simp
  go_at_call 198
  refine (widened_any b _ hl hb).mono ?_
  rintro e w1 ⟨rfl, hb1⟩
  go_simp
  refine hK1 _ _ ?_
  clear hK1 K1
  have H0 := Lib.hid (H0.out.below hb1)
  have H2 := Lib.hid (H2.out.below hb1)
  have HB := Lib.hid (HB.out.trans (hb1.mono HB.out.size))
  clear H1 hb1
  obtain ⟨G, hG⟩ : ∃ G, G = grow80 (words16 b) 80 := ⟨_, rfl⟩
  have hGl : G.length = 80 := by rw [hG, grow80_len]
  rw [← hG]
  have HG := Lib.hid hG
  clear hG
  go_wp2
  go_loopw [27, 5, 6, 7, 8, 9] (fun iv va vb vc vd ve wr => ∃ (t : Nat) (x : S5), iv = .int .i64 (t : Nat) ∧ va = .int .u32 x.a ∧ vb = .int .u32 x.b ∧ vc = .int .u32 x.c ∧ vd = .int .u32 x.d ∧ ve = .int .u32 x.e ∧ t ≤ 80 ∧ Hid (x = rounds5 G t s) ∧ Hid (CB wr 174 w.heap.size s.cells) ∧ Hid (CB wr 174 (w.heap.size + 1 + 1) (i32s (z32 5))) ∧ Hid (Below w.heap.size w wr)) (fun iv _ _ _ _ _ _ => 80 - (intOf iv).toNat)
  case atStart => exact ⟨0, s, rfl, rfl, rfl, rfl, rfl, rfl, by decide, rfl, H0.out, H2.out, HB.out⟩
  case round =>
    clear H0 H2 HB
    obtain ⟨t, x, rfl, rfl, rfl, rfl, rfl, rfl, ht, HX, H0, H2, HB⟩ := hrel
    by_cases h80 : t < 80
    · obtain ⟨wv, hwv⟩ : ∃ wv, wv = G.getD t 0 := ⟨_, rfl⟩
      have hix := index80 (i32s G).toArray t (.int .u32 wv) h80 (by rw [hwv, List.getElem?_toArray, i32s_at _ _ (by omega)])
      obtain ⟨nx, hnx⟩ : ∃ nx, nx = nextI t wv x := ⟨_, rfl⟩
      have HNX : Hid ((turnI x.a 5 + fI t x.b x.c x.d + x.e + kI t + wv) % 4294967296 = nx) := by
        show _ = _; rw [hnx, nextI]; simp only [IntKind.wrap_u32']; omega
      have HST : Hid (step5 t (G.getD t 0) x = ⟨nx, x.a, turnI x.b 30, x.c, x.d⟩) := by show _ = _; rw [hnx, hwv]; rfl
      clear hnx hwv
      generalize (i32s G).toArray = GA at *
      go_wp2_with (first
        | (go_at_call 199; refine (mix_any t _ _ _ _).mono ?_; rintro e w2 ⟨rfl, rfl⟩)
        | (go_at_call 200; with_reducible refine (rot5_any _ _).mono ?_; rintro e w2 ⟨rfl, rfl⟩)
        | (go_at_call 200; with_reducible refine (rot30_any _ _).mono ?_; rintro e w2 ⟨rfl, rfl⟩))

      go_roundw
      case rel => exact ⟨t + 1, ⟨nx, x.a, turnI x.b 30, x.c, x.d⟩, by go_num, by rw [HNX.out], rfl, rfl, rfl, rfl, by omega, by show _ = _; rw [rounds5, ← HX.out, HST.out], H0.out, H2.out, HB.out⟩
      case measure => simp [intOf]; omega
    · have ht80 : t = 80 := by omega
      have hq : decide ((t : Int) < 80) = false := by rw [decide_eq_false_iff_not]; omega
      rw [ht80] at HX
      clear ht80
      have HX2 : Hid (block5 s b = plus5 s x) := by show _ = _; rw [block5, ← HG.out, ← HX.out]
      have k0 : wr.cell? ⟨w.heap.size, 0, none⟩ = some (.int .u32 s.a) := H0.out.cell 0
      have k1 : wr.cell? ⟨w.heap.size, 1, none⟩ = some (.int .u32 s.b) := H0.out.cell 1
      have k2 : wr.cell? ⟨w.heap.size, 2, none⟩ = some (.int .u32 s.c) := H0.out.cell 2
      have k3 : wr.cell? ⟨w.heap.size, 3, none⟩ = some (.int .u32 s.d) := H0.out.cell 3
      have k4 : wr.cell? ⟨w.heap.size, 4, none⟩ = some (.int .u32 s.e) := H0.out.cell 4
      have f0 := H2.out.free 0
      have f1 := H2.out.free 1
      have f2 := H2.out.free 2
      have f3 := H2.out.free 3
      have f4 := H2.out.free 4
      have j0 : wr.cell? ⟨w.heap.size + 1 + 1, 0, none⟩ = some (.int .u32 0) := H2.out.cell 0
      have j1 : wr.cell? ⟨w.heap.size + 1 + 1, 1, none⟩ = some (.int .u32 0) := H2.out.cell 1
      have j2 : wr.cell? ⟨w.heap.size + 1 + 1, 2, none⟩ = some (.int .u32 0) := H2.out.cell 2
      have j3 : wr.cell? ⟨w.heap.size + 1 + 1, 3, none⟩ = some (.int .u32 0) := H2.out.cell 3
      have j4 : wr.cell? ⟨w.heap.size + 1 + 1, 4, none⟩ = some (.int .u32 0) := H2.out.cell 4
      go_wp2
      refine bodyPost_ret (ret_row rfl rfl (five_set H2.out rfl _ _ _ _ _) _ Tryz.underlying174 rfl (zero_of_info infoF5).2) rfl ⟨?_, ?_⟩
      · rw [HX2.out]; simp [plus5, S5.cells, IntKind.wrap_u32']
      exact ((((HB.out.setCell (p := ⟨w.heap.size + 1 + 1, 0, none⟩) (by show _ ≤ w.heap.size + 1 + 1; omega) _).setCell (p := ⟨w.heap.size + 1 + 1, 1, none⟩) (by show _ ≤ w.heap.size + 1 + 1; omega) _).setCell (p := ⟨w.heap.size + 1 + 1, 2, none⟩) (by show _ ≤ w.heap.size + 1 + 1; omega) _).setCell (p := ⟨w.heap.size + 1 + 1, 3, none⟩) (by show _ ≤ w.heap.size + 1 + 1; omega) _).setCell (p := ⟨w.heap.size + 1 + 1, 4, none⟩) (by show _ ≤ w.heap.size + 1 + 1; omega) _

abbrev ow8 (w : World) (B : Nat) (v : Value) (zs : List Nat) : Prop := w.ownsRow B 5 1 v zs.length (u8s zs)
theorem u8s_ats (xs : List Nat) (i : Nat) (h : i < xs.length) : (u8s xs)[i]? = some (.int .u8 (at0 xs i : Nat)) := by simp [u8s, h, at0_getElem]
theorem u8s_sets (xs : List Nat) (i x : Nat) : (u8s xs).set i (.int .u8 (x : Nat)) = u8s (xs.set i x) := by simp [u8s, List.map_set]
theorem ow8.set {w : World} {B g n c : Nat} {zs : List Nat} (h : w.ownsRow B 5 1 (.slice (some ⟨g, 0, none⟩) n c) n (u8s zs)) (j x : Nat) : (w.setCell ⟨g, j, none⟩ (.int .u8 (x : Nat))).ownsRow B 5 1 (.slice (some ⟨g, 0, none⟩) n c) n (u8s (zs.set j x)) := by
  rw [← u8s_sets]
  exact (World.ownsRow.stored h j _).1
theorem wpl_make8s {w : World} {ops : Array Oper} {rest : List Oper} {o : Oper} {a : Act} {Q : Exit → Act → World → Prop} (hg : o.guard = none) (l c : Operand) (hop : o.op = Op.makeSlice 40 l c)
    (B : Nat) (kl kc : IntKind) (L C : Int) (n : Nat) (hl : a.eval l = .int kl L) (hc : a.eval c = .int kc C) (hL : L = (n : Int)) (hC : C = (n : Int)) (hn : n ≤ 4398046511104) (hB : B ≤ w.heap.size)
    (hK : ∀ w', w'.ownsRow B 5 1 (.slice (some ⟨w.heap.size, 0, none⟩) n n) n (u8s (List.replicate n 0)) → Below B w w' → w.heap.size < w'.heap.size → wpList Tryz.prog ops Q rest (a.put o.dst (.slice (some ⟨w.heap.size, 0, none⟩) n n)) w') :
    wpList Tryz.prog ops Q (o :: rest) a w := by
  obtain ⟨i, hi, hz, hsz, hb⟩ := info_parts info8
  refine wpList_make_full w hg l c 40 hop B 5 i (.int .u8 0) 1 Tryz.underlying40 hi hz hsz kl kc L C n hl hc hL hC (by rw [hb]; omega) (by simp only [maxLen]; omega) hB ?_
  intro w' hown hgr
  refine hK w' ?_ ((Below.refl _ _).grown hgr hB (fun k hk => by cases hk)) ((World.ownsRow.lt hown _ rfl).2)
  have e : (madeCells (Value.int .u8 0).cells (n * 1)).toList = u8s (List.replicate n 0) := by
    rw [Nat.mul_one, show (Value.int .u8 0).cells = #[.int .u8 0] from rfl, toList_madeCells_one, u8s, List.map_replicate]
    rfl
  rw [e] at hown
  exact hown

theorem byte_of_words (x t : Nat) : IntKind.u8.wrap ((x / 2 ^ t : Nat) : Int) = ((x / 2 ^ t % 256 : Nat) : Int) := by
  rw [show IntKind.u8.wrap ((x / 2 ^ t : Nat) : Int) = ((x / 2 ^ t : Nat) : Int) % 256 from by simp [IntKind.wrap, IntKind.signed, IntKind.bits]]
  omega

/-- The length's eight bytes. -/
def len8 (n : Nat) : List Nat := (List.range 8).map fun i => n * 8 % 18446744073709551616 / 2 ^ (56 - 8 * i) % 256
theorem padI_eq (n : Nat) : padI n = (128 :: List.replicate (padN n) 0) ++ len8 n := rfl
theorem len8_len (n : Nat) : (len8 n).length = 8 := by simp [len8]
theorem len8_next (n j x : Nat) (h : j < 8) (hx : x = n * 8 % 18446744073709551616 / 2 ^ (56 - 8 * j) % 256) : (len8 n).take (j + 1) = (len8 n).take j ++ [x] := by
  rw [List.take_add_one, List.getElem?_eq_getElem (by rw [len8_len]; exact h), hx]
  simp [len8]
def PadPost (n : Nat) (w : World) (e : Ending) (w' : World) : Prop := ∃ g c, e = .returned (.slice (some ⟨g, 0, none⟩) (padN n + 9) c) ∧ w'.ownsRow w.heap.size 5 1 (.slice (some ⟨g, 0, none⟩) (padN n + 9) c) (padN n + 9) (u8s (padI n)) ∧ Below w.heap.size w w'
theorem padN_lt (n : Nat) : padN n < 64 := by unfold padN; omega
theorem u64_shr (n j : Nat) (_hj : j < 8) : IntKind.u8.wrap (IntKind.u64.wrap ((n : Int) * 8) / 2 ^ (56 - 8 * j)) = ((n * 8 % 18446744073709551616 / 2 ^ (56 - 8 * j) % 256 : Nat) : Int) := by
  rw [IntKind.wrap_u64, show ((n : Int) * 8 % 18446744073709551616 : Int) = ((n * 8 % 18446744073709551616 : Nat) : Int) by omega]
  have := byte_of_words (n * 8 % 18446744073709551616) (56 - 8 * j)
  rw [← this]
  congr 1

set_option maxHeartbeats 800000 in
set_option maxRecDepth 100000 in
theorem rpad_any (n : Nat) (w : World) (hn : n < 18446744073709551616) : Calls Tryz.prog 122 #[.int .u64 (n : Nat)] w (PadPost n w) := by
  have hn := hn
  have hp := padN_lt n
  go_enter Tryz.func122, Tryz.ntmps122
  go_wp2
  have hown0 : (w.alloc (.cells #[.int .u8 128] 5)).ownsRow w.heap.size 5 1 (.slice (some ⟨w.heap.size, 0, none⟩) 1 1) 1 (u8s (128 :: List.replicate 0 0)) :=
    ⟨by simp [u8s], .inr ⟨w.heap.size, 1, _, rfl, Nat.le_refl _, heap_alloc_last w _, by decide, by decide, rfl, rfl⟩⟩
  go_loopw [3] (fun v wr => ∃ k : Nat, k ≤ padN n ∧ wr.ownsRow w.heap.size 5 1 v (k + 1) (u8s (128 :: List.replicate k 0)) ∧ Hid (Below w.heap.size w wr)) (fun v _ => padN n + 1 - lenOf v)
  case atStart => exact ⟨0, Nat.zero_le _, hown0, (Below.refl _ _).alloc (Nat.le_refl _) _⟩
  case round =>
    clear hown0
    obtain ⟨k, hk, hown, HB⟩ := hrel
    rcases hown.2 with ⟨_, h0⟩ | ⟨g, cap, cur, rfl, hbg, hheap, hcap, hmax, hcur, htake⟩
    · omega
    by_cases hlt : k < padN n
    · have hne : (n + (k + 1)) % 64 ≠ 56 := by unfold padN at hlt; omega
      have hq : ((IntKind.u64.wrap ((n : Int) + ((k : Int) + 1))).tmod 64 != 56) = true := by
        rw [IntKind.wrap_u64, Int.tmod_eq_emod_of_nonneg (by omega)]
        simp only [bne_iff_ne]
        omega
      clear hheap hcur htake hne
      go_wp2_with (at_builtin; refine wpl_app 40 5 Tryz.underlying40 info8 rfl (by decide) rfl _ _ rfl w.heap.size _ (k + 1) (u8s (128 :: List.replicate k 0)) rfl (hown.alloc _) wr.heap.size _ rfl (World.cell?_alloc_at _ _ _ _ rfl) rfl (by omega) (by have := HB.out.size; simp; omega) ?_; intro g1 cap1 w1 hown1 hg1 hBg _ _)
      go_roundw
      case rel =>
        exact ⟨k + 1, by omega, by rw [List.replicate_succ', ← List.cons_append, u8s, List.map_append]; exact hown1, (HB.out.alloc HB.out.size _).grown hg1 (by have := HB.out.size; simp; omega) (fun j hj => (hown.lt j hj).1)⟩
      case measure => simp [lenOf]; omega
    · have hkp : k = padN n := by omega
      have hq : ((IntKind.u64.wrap ((n : Int) + ((k : Int) + 1))).tmod 64 != 56) = false := by
        rw [IntKind.wrap_u64, Int.tmod_eq_emod_of_nonneg (by omega)]
        have : (n + (k + 1)) % 64 = 56 := by rw [hkp]; unfold padN; omega
        simp only [bne_eq_false_iff_eq]
        omega
      have HK := Lib.hid hkp
      have HOW := Lib.hid hown
      clear hheap hcur htake hkp hown
      go_wp2
      go_loopw [3, 4] (fun v iv wr => ∃ (j : Nat) (z : Int), j ≤ 8 ∧ iv = .int .i64 z ∧ Hid (z = 56 - 8 * (j : Int)) ∧ wr.ownsRow w.heap.size 5 1 v (k + 1 + j) (u8s (128 :: List.replicate k 0) ++ u8s ((len8 n).take j)) ∧ Hid (Below w.heap.size w wr)) (fun v _ _ => k + 9 - lenOf v)
      case atStart => exact ⟨0, 56, by decide, rfl, rfl, by simpa [u8s] using HOW.out, HB.out⟩
      case round =>
        clear HOW HB hq
        obtain ⟨j, z, hj, rfl, HZ, hown, HB⟩ := hrel
        rcases hown.2 with ⟨_, h0⟩ | ⟨g, cap, cur, rfl, hbg, hheap, hcap, hmax, hcur, htake⟩
        · omega
        clear hheap hcur htake
        by_cases hj8 : j < 8
        · obtain ⟨i, hi⟩ : ∃ i : Nat, i = 56 - 8 * j := ⟨_, rfl⟩
          obtain rfl : z = (i : Int) := by have := HZ.out; omega
          obtain ⟨x, hx⟩ : ∃ x, x = n * 8 % 18446744073709551616 / 2 ^ (56 - 8 * j) % 256 := ⟨_, rfl⟩
          have HX : Hid (IntKind.u64.wrap ((n : Int) * 8) / 2 ^ i % 256 = (x : Int)) := by show _ = _; rw [hi, hx, ← IntKind.wrap_u8']; exact u64_shr n j hj8
          have HLN := Lib.hid (len8_next n j x hj8 hx)
          have hi60 : i ≤ 56 := by omega
          clear hi hx
          go_wp2_with (at_builtin; refine wpl_app 40 5 Tryz.underlying40 info8 rfl (by decide) rfl _ _ rfl w.heap.size _ (k + 1 + j) (u8s (128 :: List.replicate k 0) ++ u8s ((len8 n).take j)) rfl (hown.alloc _) wr.heap.size _ rfl (World.cell?_alloc_at _ _ _ _ rfl) rfl (by omega) (by have := HB.out.size; simp; omega) ?_; intro g1 cap1 w1 hown1 hg1 hBg _ _)
          go_roundw
          case rel =>
            refine ⟨j + 1, (i : Int) - 8, by omega, by go_num, by show _ = _; have := HZ.out; omega, ?_, (HB.out.alloc HB.out.size _).grown hg1 (by have := HB.out.size; simp; omega) (fun j hj => (hown.lt j hj).1)⟩
            rw [HLN.out, u8s, u8s, List.map_append, ← List.append_assoc]
            rw [HX.out] at hown1
            exact hown1
          case measure => simp [lenOf]; omega
        · obtain rfl : j = 8 := by omega
          obtain rfl : z = -8 := by have := HZ.out; omega
          go_wp2
          go_ret
          have e : k = padN n := HK.out
          subst e
          refine ⟨g, cap, rfl, ?_, HB.out⟩
          have h : u8s (padI n) = u8s (128 :: List.replicate (padN n) 0) ++ u8s ((len8 n).take 8) := by
            rw [padI_eq, List.take_of_length_le (by rw [len8_len]; exact Nat.le_refl _)]; simp [u8s]
          rw [h]; exact hown

/-- The eight bytes as the program lays them: from behind. -/
def laidN (n i : Nat) : List Nat := (128 :: List.replicate (padN n) 0) ++ (List.replicate (8 - i) 0 ++ (len8 n).drop (8 - i))
theorem laidN_len (n i : Nat) (_h : i ≤ 8) : (laidN n i).length = padN n + 9 := by simp [laidN, len8_len] <;> omega
theorem laidN_next (n i x : Nat) (h : i < 8) (hx : x = n * 8 % 18446744073709551616 / 2 ^ (8 * i) % 256) : (laidN n i).set (padN n + 8 - i) x = laidN n (i + 1) := by
  unfold laidN
  rw [List.set_append_right _ _ (by simp; omega)]
  congr 1
  have e : (len8 n).drop (8 - (i + 1)) = x :: (len8 n).drop (8 - i) := by
    rw [List.drop_eq_getElem_cons (by rw [len8_len]; omega), show 8 - (i + 1) + 1 = 8 - i by omega]
    congr 1
    simp [len8, hx, show 56 - 8 * (7 - i) = 8 * i by omega]
  rw [e, show 8 - i = 8 - (i + 1) + 1 by omega, List.replicate_succ', List.append_assoc]
  rw [List.set_append_right _ _ (by simp; omega)]
  congr 1
  rw [show padN n + 8 - i - (128 :: List.replicate (padN n) 0).length - (List.replicate (8 - (i + 1)) 0).length = 0 by simp; omega]
  rfl
theorem laidN_zero (n : Nat) : laidN n 0 = (List.replicate (padN n + 9) 0).set 0 128 := by
  show (128 :: List.replicate (padN n) 0) ++ (List.replicate 8 0 ++ (len8 n).drop 8) = _
  rw [List.drop_of_length_le (by rw [len8_len]; exact Nat.le_refl _), List.append_nil, List.cons_append, List.replicate_append_replicate]
  rfl
theorem laidN_all (n : Nat) : laidN n 8 = padI n := by simp [laidN, padI_eq]

set_option maxHeartbeats 800000 in
set_option maxRecDepth 100000 in
theorem spad_any (n : Nat) (w : World) (hn : n < 18446744073709551616) : Calls Tryz.prog 167 #[.int .u64 (n : Nat)] w (PadPost n w) := by
  have hn := hn
  have hp := padN_lt n
  have e1 : (IntKind.u64.wrap (55 - (n : Int))).tmod 64 = (padN n : Int) := by
    rw [IntKind.wrap_u64, Int.tmod_eq_emod_of_nonneg (by omega)]; unfold padN; omega
  have HX1 : Hid (∀ i, i < 8 → IntKind.u64.wrap (8 * (n : Int)) / 2 ^ (8 * i) % 256 = ((n * 8 % 18446744073709551616 / 2 ^ (8 * i) % 256 : Nat) : Int)) := fun i hi => by
    have h := u64_shr n (7 - i) (by omega)
    rw [IntKind.wrap_u8', show 56 - 8 * (7 - i) = 8 * i by omega] at h
    rw [Int.mul_comm]; exact h
  have HN1 : Hid (∀ i x, i < 8 → x = n * 8 % 18446744073709551616 / 2 ^ (8 * i) % 256 → (laidN n i).set (padN n + 8 - i) x = laidN n (i + 1)) := fun i x hi hx => laidN_next n i x hi hx
  obtain ⟨N, hN⟩ : ∃ N, N = padN n := ⟨_, rfl⟩
  have HNN := Lib.hid hN
  rw [← hN] at hp e1 HN1
  clear hN
  go_enter Tryz.func167, Tryz.ntmps167
  go_wp2_with (at_make; refine wpl_make8s rfl _ _ rfl w.heap.size _ _ _ _ (N + 9) rfl rfl (by omega) (by omega) (by omega) (Nat.le_refl _) ?_)
  intro w1 hown hbl hlt
  have c0 := World.ownsRow.cellAt hown 0 (by omega)
  rw [u8s_ats _ _ (by simp)] at c0
  have f0 := World.ownsRow.frozenAt hown 0
  generalize at0 (List.replicate (N + 9) 0) 0 = old at c0
  have HO := Lib.hid (ow8.set hown 0 128)
  have HB := Lib.hid (hbl.setCell (p := ⟨w.heap.size, 0, none⟩) (Nat.le_refl _) (.int .u8 (128 : Nat)))
  clear hown hbl hlt
  go_wp2
  clear c0 f0
  go_loopw [15] (fun iv wr => ∃ i : Nat, iv = .int .i64 (i : Nat) ∧ i ≤ 8 ∧ Hid (wr.ownsRow w.heap.size 5 1 (.slice (some ⟨w.heap.size, 0, none⟩) (N + 9) (N + 9)) (N + 9) (u8s (laidN n i))) ∧ Hid (Below w.heap.size w wr)) (fun iv _ => 8 - (intOf iv).toNat)
  case atStart => exact ⟨0, rfl, by decide, by rw [laidN_zero, ← HNN.out]; exact HO.out, HB.out⟩
  case round =>
    clear HO HB
    obtain ⟨i, rfl, hi, HO, HB⟩ := hrel
    by_cases hi8 : i < 8
    · obtain ⟨p, hp2⟩ : ∃ p, p = N + 8 - i := ⟨_, rfl⟩
      obtain ⟨m, hm⟩ : ∃ m, m = 8 * i := ⟨_, rfl⟩
      obtain ⟨x, hx⟩ : ∃ x, x = n * 8 % 18446744073709551616 / 2 ^ (8 * i) % 256 := ⟨_, rfl⟩
      have HX := Lib.hid (HX1.out i hi8)
      rw [← hx, ← hm] at HX
      have HN2 := Lib.hid (HN1.out i x hi8 hx)
      rw [← hp2] at HN2
      have c0 := World.ownsRow.cellAt HO.out p (by omega)
      rw [u8s_ats _ _ (by rw [laidN_len _ _ hi, ← HNN.out]; omega)] at c0
      have f0 := World.ownsRow.frozenAt HO.out p
      generalize at0 (laidN n i) p = old at c0
      have e3 : (N : Int) + 9 - 1 - (i : Int) = (p : Int) := by omega
      have e5 : (N : Int) + 8 - (i : Int) = (p : Int) := by omega
      have e4 : (8 : Int) * (i : Int) = (m : Int) := by omega
      have hp3 : p < N + 9 := by omega
      have hm64 : m < 64 := by omega
      have HN3 := Lib.hid (ow8.set HO.out p x)
      rw [HN2.out] at HN3
      clear hx hm hp2 HN2
      go_wp2
      trace_state
      go_roundw
      case rel =>
        refine ⟨i + 1, by go_num, by omega, ?_, HB.out.setCell (p := ⟨w.heap.size, p, none⟩) (Nat.le_refl _) _⟩
        rw [HX.out]; exact HN3.out
      case measure => simp [intOf]; omega
    · obtain rfl : i = 8 := by omega
      go_wp2
      go_ret
      have e : N = padN n := HNN.out
      subst e
      refine ⟨w.heap.size, padN n + 9, rfl, ?_, HB.out⟩
      rw [← laidN_all]; exact HO.out

/-- Four bytes as the reference joins them. -/
theorem ref_word (x0 x1 x2 x3 : Nat) (h0 : x0 < 256) (h1 : x1 < 256) (h2 : x2 < 256) (h3 : x3 < 256) :
    bits .or .u32 (bits .or .u32 (bits .or .u32 ((x0 : Int) * 16777216) ((x1 : Int) * 65536)) ((x2 : Int) * 256)) (x3 : Int) = ((((x0 * 256 + x1) * 256 + x2) * 256 + x3 : Nat) : Int) := by
  rw [show (x0 : Int) * 16777216 = ((x0 * 2 ^ 24 : Nat) : Int) by omega, show (x1 : Int) * 65536 = ((x1 * 65536 : Nat) : Int) by omega, show (x2 : Int) * 256 = ((x2 * 256 : Nat) : Int) by omega,
    or_join x0 _ 24 (by decide) (by omega) (by omega),
    show x0 * 2 ^ 24 + x1 * 65536 = (x0 * 256 + x1) * 2 ^ 16 by omega, or_join _ _ 16 (by decide) (by omega) (by omega),
    show (x0 * 256 + x1) * 2 ^ 16 + x2 * 256 = ((x0 * 256 + x1) * 256 + x2) * 2 ^ 8 by omega, or_join _ _ 8 (by decide) (by omega) (by omega)]

set_option maxHeartbeats 800000 in
set_option maxRecDepth 100000 in
theorem rblock_any (s : S5) (a : Option Addr) (len cap : Nat) (b : List Nat) (w : World) (hl : b.length = 64) (hlen : len = 64) (hb : ∀ x ∈ b, x < 256) (hr : Rd .u8 w a b) :
    Calls Tryz.prog 123 #[.agg s.cells.toArray, .slice a len cap] w fun e w' => e = .returned (.agg (block5 s b).cells.toArray) ∧ Below w.heap.size w w' := by
  have hz := (zero_of_info info80).1
  have hz5 := (zero_of_info info5).1
  obtain ⟨bb, off, rfl, hc⟩ := hr.get (by omega)
  have HC := Lib.hid hc
  clear hr hc
  subst hlen
  go_enter Tryz.func123, Tryz.ntmps123
  go_wp2
  have hB : Below w.heap.size w (((w.alloc (.cells s.cells.toArray 137)).alloc (.cells (i32s (z32 5)).toArray 137)).alloc (.cells (i32s (z32 80)).toArray 179)) :=
    (((Below.refl _ _).alloc (Nat.le_refl _) _).alloc (by simp) _).alloc (by simp; omega) _
  have c0 : CB (((w.alloc (.cells s.cells.toArray 137)).alloc (.cells (i32s (z32 5)).toArray 137)).alloc (.cells (i32s (z32 80)).toArray 179)) 137 w.heap.size s.cells := ((CB.new w _ _).alloc _).alloc _
  have c1 : CB (((w.alloc (.cells s.cells.toArray 137)).alloc (.cells (i32s (z32 5)).toArray 137)).alloc (.cells (i32s (z32 80)).toArray 179)) 137 (w.heap.size + 1) (i32s (z32 5)) := by
    have := (CB.new (w.alloc (.cells s.cells.toArray 137)) 137 (i32s (z32 5))).alloc (.cells (i32s (z32 80)).toArray 179)
    simpa using this
  have c2 : CB (((w.alloc (.cells s.cells.toArray 137)).alloc (.cells (i32s (z32 5)).toArray 137)).alloc (.cells (i32s (z32 80)).toArray 179)) 179 (w.heap.size + 1 + 1) (i32s (z32 80)) := by
    have := CB.new ((w.alloc (.cells s.cells.toArray 137)).alloc (.cells (i32s (z32 5)).toArray 137)) 179 (i32s (z32 80))
    simpa using this
  go_loopw [6] (fun iv wr => ∃ t : Nat, iv = .int .i64 (t : Nat) ∧ t ≤ 80 ∧ Hid (CB wr 179 (w.heap.size + 1 + 1) (i32s (filled (words16 b) t 80))) ∧ Hid (CB wr 137 w.heap.size s.cells) ∧ Hid (CB wr 137 (w.heap.size + 1) (i32s (z32 5))) ∧ Hid (Below w.heap.size w wr)) (fun iv _ => 80 - (intOf iv).toNat)
  case atStart => exact ⟨0, rfl, by decide, c2, c0, c1, hB⟩
  case round =>
    clear hB c0 c1 c2 hz hz5
    obtain ⟨t, rfl, ht, H2, H0, H1, HB⟩ := hrel
    by_cases h16 : t < 16
    · obtain ⟨q, hq⟩ : ∃ q, q = 4 * t := ⟨_, rfl⟩
      have e0 : (4 : Int) * (t : Int) = (q : Int) := by omega
      have k0 := below_cell HB.out _ _ (HC.out q (by omega))
      have k1 := below_cell HB.out _ _ (HC.out (q + 1) (by omega))
      have k2 := below_cell HB.out _ _ (HC.out (q + 2) (by omega))
      have k3 := below_cell HB.out _ _ (HC.out (q + 3) (by omega))
      have HW : Hid (wordI b t = ((((b.getD q 0 * 256 + b.getD (q + 1) 0) * 256 + b.getD (q + 2) 0) * 256 + b.getD (q + 3) 0 : Nat) : Int)) := by show _ = _; rw [hq]; rfl
      have HX : Hid (∀ i, b.getD i 0 < 256) := fun i => by
        by_cases hi : i < b.length
        · rw [List.getD_eq_getElem?_getD, List.getElem?_eq_getElem hi]; exact hb _ (List.getElem_mem hi)
        · rw [List.getD_eq_getElem?_getD, List.getElem?_eq_none (by omega)]; decide
      have hx0 := HX.out q
      have hx1 := HX.out (q + 1)
      have hx2 := HX.out (q + 2)
      have hx3 := HX.out (q + 3)
      generalize b.getD q 0 = x0 at *
      generalize b.getD (q + 1) 0 = x1 at *
      generalize b.getD (q + 2) 0 = x2 at *
      generalize b.getD (q + 3) 0 = x3 at *
      have HR := Lib.hid (ref_word x0 x1 x2 x3 hx0 hx1 hx2 hx3)
      have f1 := H2.out.free t
      have ct : wr.cell? ⟨w.heap.size + 1 + 1, t, none⟩ = some (.int .u32 ((filled (words16 b) t 80).getD t 0)) := by
        rw [H2.out.cell, i32s_at _ _ (by rw [filled_len _ _ _ ht]; omega)]
      generalize (filled (words16 b) t 80).getD t 0 = old at ct
      have hq60 : q ≤ 60 := by omega
      clear hq
      have HN2 : Hid (CB (wr.setCell ⟨w.heap.size + 1 + 1, t, none⟩ (.int .u32 (wordI b t))) 179 (w.heap.size + 1 + 1) (i32s (filled (words16 b) (t + 1) 80))) := by
        have h := H2.out.set t (.int .u32 (wordI b t))
        rw [i32s_set, filled_next (words16 b) t 80 (by omega) (wordI b t) (by rw [if_pos h16]; simp [words16, List.getD, h16])] at h
        exact h
      have HN0 := Lib.hid (H0.out.other ⟨w.heap.size + 1 + 1, t, none⟩ (by show w.heap.size + 1 + 1 ≠ _; omega) (.int .u32 (wordI b t)))
      have HN1 := Lib.hid (H1.out.other ⟨w.heap.size + 1 + 1, t, none⟩ (by show w.heap.size + 1 + 1 ≠ _; omega) (.int .u32 (wordI b t)))
      have HNB := Lib.hid (HB.out.setCell (p := ⟨w.heap.size + 1 + 1, t, none⟩) (by show _ ≤ w.heap.size + 1 + 1; omega) (.int .u32 (wordI b t)))
      rw [HW.out, ← HR.out] at HN2 HN0 HN1 HNB
      clear HW HR HX H2 H0 H1 HB
      go_wp2
      go_region
      go_wp2
      go_roundw
      case rel => exact ⟨t + 1, by go_num, by omega, HN2.out, HN0.out, HN1.out, HNB.out.drew⟩
      case measure => simp [intOf]; omega
    · by_cases h80 : t < 80
      · obtain ⟨t3, h3⟩ : ∃ t3, t3 = t - 3 := ⟨_, rfl⟩
        obtain ⟨t8, h8⟩ : ∃ t8, t8 = t - 8 := ⟨_, rfl⟩
        obtain ⟨t14, h14⟩ : ∃ t14, t14 = t - 14 := ⟨_, rfl⟩
        obtain ⟨t16, h16'⟩ : ∃ t16, t16 = t - 16 := ⟨_, rfl⟩
        have e3 : (t : Int) - 3 = (t3 : Int) := by omega
        have e8 : (t : Int) - 8 = (t8 : Int) := by omega
        have e14 : (t : Int) - 14 = (t14 : Int) := by omega
        have e16 : (t : Int) - 16 = (t16 : Int) := by omega
        have gt : ∀ i, i < t → wr.cell? ⟨w.heap.size + 1 + 1, i, none⟩ = some (.int .u32 ((grow80 (words16 b) t).getD i 0)) := fun i hi => by
          rw [H2.out.cell, i32s_at _ _ (by rw [filled_len _ _ _ ht]; omega), filled_at _ _ _ _ hi]
        have g3 := gt t3 (by omega)
        have g8 := gt t8 (by omega)
        have g14 := gt t14 (by omega)
        have g16 := gt t16 (by omega)
        have HL : Hid (laterI (grow80 (words16 b) t) t = turnI (bits .xor .u32 (bits .xor .u32 (bits .xor .u32 ((grow80 (words16 b) t).getD t3 0) ((grow80 (words16 b) t).getD t8 0)) ((grow80 (words16 b) t).getD t14 0)) ((grow80 (words16 b) t).getD t16 0)) 1) := by
          show _ = _; rw [h3, h8, h14, h16']; rfl
        have w3 : IntKind.i64.wrap (t3 : Int) = (t3 : Int) := wrap_i64_nat _ (by omega)
        have q3 : (t3 : Int) < 80 := by omega
        have p3 : (0 : Int) ≤ (t3 : Int) := by omega
        have w8 : IntKind.i64.wrap (t8 : Int) = (t8 : Int) := wrap_i64_nat _ (by omega)
        have q8 : (t8 : Int) < 80 := by omega
        have p8 : (0 : Int) ≤ (t8 : Int) := by omega
        have w14 : IntKind.i64.wrap (t14 : Int) = (t14 : Int) := wrap_i64_nat _ (by omega)
        have q14 : (t14 : Int) < 80 := by omega
        have p14 : (0 : Int) ≤ (t14 : Int) := by omega
        have w16 : IntKind.i64.wrap (t16 : Int) = (t16 : Int) := wrap_i64_nat _ (by omega)
        have q16 : (t16 : Int) < 80 := by omega
        have p16 : (0 : Int) ≤ (t16 : Int) := by omega
        have p0 : (0 : Int) ≤ (t : Int) := by omega
        have q0 : (t : Int) < 80 := by omega
        clear gt
        generalize hL : laterI (grow80 (words16 b) t) t = L at HL
        generalize (grow80 (words16 b) t).getD t3 0 = x3 at *
        generalize (grow80 (words16 b) t).getD t8 0 = x8 at *
        generalize (grow80 (words16 b) t).getD t14 0 = x14 at *
        generalize (grow80 (words16 b) t).getD t16 0 = x16 at *
        have f1 := H2.out.free t
        have ct : wr.cell? ⟨w.heap.size + 1 + 1, t, none⟩ = some (.int .u32 ((filled (words16 b) t 80).getD t 0)) := by
          rw [H2.out.cell, i32s_at _ _ (by rw [filled_len _ _ _ ht]; omega)]
        generalize (filled (words16 b) t 80).getD t 0 = old at ct
        have HKD : Hid (∀ (W : World) (n : Nat), (W.cell? ⟨w.heap.size + 1 + 1, t3, none⟩ = some (.int .u32 x3) ∧ W.cell? ⟨w.heap.size + 1 + 1, t8, none⟩ = some (.int .u32 x8) ∧ W.cell? ⟨w.heap.size + 1 + 1, t14, none⟩ = some (.int .u32 x14) ∧ W.cell? ⟨w.heap.size + 1 + 1, t16, none⟩ = some (.int .u32 x16)) → ((W.drewN n).cell? ⟨w.heap.size + 1 + 1, t3, none⟩ = some (.int .u32 x3) ∧ (W.drewN n).cell? ⟨w.heap.size + 1 + 1, t8, none⟩ = some (.int .u32 x8) ∧ (W.drewN n).cell? ⟨w.heap.size + 1 + 1, t14, none⟩ = some (.int .u32 x14) ∧ (W.drewN n).cell? ⟨w.heap.size + 1 + 1, t16, none⟩ = some (.int .u32 x16))) := fun W n h => h
        have HKS : Hid (∀ (W : World) (v : Value), (W.cell? ⟨w.heap.size + 1 + 1, t3, none⟩ = some (.int .u32 x3) ∧ W.cell? ⟨w.heap.size + 1 + 1, t8, none⟩ = some (.int .u32 x8) ∧ W.cell? ⟨w.heap.size + 1 + 1, t14, none⟩ = some (.int .u32 x14) ∧ W.cell? ⟨w.heap.size + 1 + 1, t16, none⟩ = some (.int .u32 x16)) → ((W.setCell ⟨w.heap.size + 1 + 1, t, none⟩ v).cell? ⟨w.heap.size + 1 + 1, t3, none⟩ = some (.int .u32 x3) ∧ (W.setCell ⟨w.heap.size + 1 + 1, t, none⟩ v).cell? ⟨w.heap.size + 1 + 1, t8, none⟩ = some (.int .u32 x8) ∧ (W.setCell ⟨w.heap.size + 1 + 1, t, none⟩ v).cell? ⟨w.heap.size + 1 + 1, t14, none⟩ = some (.int .u32 x14) ∧ (W.setCell ⟨w.heap.size + 1 + 1, t, none⟩ v).cell? ⟨w.heap.size + 1 + 1, t16, none⟩ = some (.int .u32 x16))) := fun W v h =>
          ⟨by rw [World.cell?_setCell_other _ _ _ _ (by simp <;> omega)]; exact h.1, by rw [World.cell?_setCell_other _ _ _ _ (by simp <;> omega)]; exact h.2.1, by rw [World.cell?_setCell_other _ _ _ _ (by simp <;> omega)]; exact h.2.2.1, by rw [World.cell?_setCell_other _ _ _ _ (by simp <;> omega)]; exact h.2.2.2⟩
        have HF : Hid (∀ W, Chg (fun _ => False) wr W → CB (W.setCell ⟨w.heap.size + 1 + 1, t, none⟩ (.int .u32 L)) 179 (w.heap.size + 1 + 1) (i32s (filled (words16 b) (t + 1) 80)) ∧ CB (W.setCell ⟨w.heap.size + 1 + 1, t, none⟩ (.int .u32 L)) 137 w.heap.size s.cells ∧
            CB (W.setCell ⟨w.heap.size + 1 + 1, t, none⟩ (.int .u32 L)) 137 (w.heap.size + 1) (i32s (z32 5)) ∧ Below w.heap.size w (W.setCell ⟨w.heap.size + 1 + 1, t, none⟩ (.int .u32 L))) := fun W hW => by
          have h2 := (H2.out.chg hW (fun e => e)).set t (.int .u32 L)
          rw [i32s_set, filled_next (words16 b) t 80 (by omega) L (by rw [if_neg h16]; exact hL.symm)] at h2
          exact ⟨h2, (H0.out.chg hW (fun e => e)).other ⟨w.heap.size + 1 + 1, t, none⟩ (by show w.heap.size + 1 + 1 ≠ _; omega) _, (H1.out.chg hW (fun e => e)).other ⟨w.heap.size + 1 + 1, t, none⟩ (by show w.heap.size + 1 + 1 ≠ _; omega) _,
            (HB.out.trans (hW.below HB.out.size (fun _ e => e.elim))).setCell (p := ⟨w.heap.size + 1 + 1, t, none⟩) (by show _ ≤ w.heap.size + 1 + 1; omega) _⟩
        clear H2 H0 H1 HB hL h3 h8 h14 h16'
        go_wp2
        go_region_held3 (fun W => W.cell? ⟨w.heap.size + 1 + 1, t3, none⟩ = some (.int .u32 x3) ∧ W.cell? ⟨w.heap.size + 1 + 1, t8, none⟩ = some (.int .u32 x8) ∧ W.cell? ⟨w.heap.size + 1 + 1, t14, none⟩ = some (.int .u32 x14) ∧ W.cell? ⟨w.heap.size + 1 + 1, t16, none⟩ = some (.int .u32 x16))
          (first | assumption | exact ⟨g3, g8, g14, g16⟩ | (refine HKD.out _ _ ?_; assumption) | (refine HKS.out _ _ ?_; assumption))
          (first
          | (go_at_call 169; refine (turn1_any _ _).mono ?_; rintro e w2 ⟨rfl, m, rfl⟩; rw [← HL.out]))
        go_wp2
        go_roundw
        case rel =>
          have h := HF.out (wr.drewN (1 + m)) (Chg.drawN _ _)
          exact ⟨t + 1, by go_num, by omega, h.1, h.2.1, h.2.2.1, h.2.2.2⟩
        case measure => simp [intOf]; omega
      · have ht80 : t = 80 := by omega
        have hq : decide ((t : Int) < 80) = false := by rw [decide_eq_false_iff_not]; omega
        rw [ht80, filled_all] at H2
        clear ht80
        have k0 : wr.cell? ⟨w.heap.size, 0, none⟩ = some (.int .u32 s.a) := H0.out.cell 0
        have k1 : wr.cell? ⟨w.heap.size, 1, none⟩ = some (.int .u32 s.b) := H0.out.cell 1
        have k2 : wr.cell? ⟨w.heap.size, 2, none⟩ = some (.int .u32 s.c) := H0.out.cell 2
        have k3 : wr.cell? ⟨w.heap.size, 3, none⟩ = some (.int .u32 s.d) := H0.out.cell 3
        have k4 : wr.cell? ⟨w.heap.size, 4, none⟩ = some (.int .u32 s.e) := H0.out.cell 4
        go_wp2
        clear k0 k1 k2 k3 k4
        have hgx : w.heap.size + 1 + 1 < wr.heap.size := H2.out.lt
        have A0 := Lib.hid (H0.out.alloc (.cells s.cells.toArray 137))
        have A1 := Lib.hid (H1.out.alloc (.cells s.cells.toArray 137))
        have A2 := Lib.hid (H2.out.alloc (.cells s.cells.toArray 137))
        have A3 := Lib.hid (CB.new wr 137 s.cells)
        have AB := Lib.hid (HB.out.alloc HB.out.size (.cells s.cells.toArray 137))
        clear H0 H1 H2 HB
        generalize wr.heap.size = gx at *
        obtain ⟨W, hW⟩ : ∃ W, W = grow80 (words16 b) 80 := ⟨_, rfl⟩
        have hWl : W.length = 80 := by rw [hW, grow80_len]
        rw [← hW] at A2
        have HW := Lib.hid hW
        clear hW
        go_loopw [8] (fun iv wr => ∃ (t : Nat) (x : S5), iv = .int .i64 (t : Nat) ∧ t ≤ 80 ∧ Hid (x = rounds5 W t s) ∧ Hid (CB wr 179 (w.heap.size + 1 + 1) (i32s W)) ∧ Hid (CB wr 137 w.heap.size s.cells) ∧ Hid (CB wr 137 (w.heap.size + 1) (i32s (z32 5))) ∧ Hid (CB wr 137 gx x.cells) ∧ Hid (Below w.heap.size w wr)) (fun iv _ => 80 - (intOf iv).toNat)
        case atStart => exact ⟨0, s, rfl, by decide, rfl, A2.out, A0.out, A1.out, A3.out, AB.out⟩
        case round =>
          clear A0 A1 A2 A3 AB
          obtain ⟨t, x, rfl, ht, HX, A2, A0, A1, A3, AB⟩ := hrel
          by_cases h80 : t < 80
          · have kt : wr.cell? ⟨w.heap.size + 1 + 1, t, none⟩ = some (.int .u32 (W.getD t 0)) := by rw [A2.out.cell, i32s_at _ _ (by omega)]
            have k0 : wr.cell? ⟨gx, 0, none⟩ = some (.int .u32 x.a) := A3.out.cell 0
            have k1 : wr.cell? ⟨gx, 1, none⟩ = some (.int .u32 x.b) := A3.out.cell 1
            have k2 : wr.cell? ⟨gx, 2, none⟩ = some (.int .u32 x.c) := A3.out.cell 2
            have k3 : wr.cell? ⟨gx, 3, none⟩ = some (.int .u32 x.d) := A3.out.cell 3
            have k4 : wr.cell? ⟨gx, 4, none⟩ = some (.int .u32 x.e) := A3.out.cell 4
            have f0 := A3.out.free 0
            have f1 := A3.out.free 1
            have f2 := A3.out.free 2
            have f3 := A3.out.free 3
            have f4 := A3.out.free 4
            have wt : IntKind.i64.wrap (t : Int) = (t : Int) := wrap_i64_nat _ (by omega)
            have q0 : (t : Int) < 80 := by omega
            have p0 : (0 : Int) ≤ (t : Int) := by omega
            obtain ⟨wv, hwv⟩ : ∃ wv, wv = W.getD t 0 := ⟨_, rfl⟩
            rw [← hwv] at kt
            obtain ⟨nx, hnx⟩ : ∃ nx, nx = nextI t wv x := ⟨_, rfl⟩
            have HNX : Hid (((turnI x.a 5 + fI t x.b x.c x.d + x.e + kI t) % 4294967296 + wv) % 4294967296 = nx) := by
              show _ = _; rw [hnx, nextI]; simp only [IntKind.wrap_u32']; omega
            have HST : Hid (step5 t (W.getD t 0) x = ⟨nx, x.a, turnI x.b 30, x.c, x.d⟩) := by show _ = _; rw [hnx, hwv]; rfl
            clear hnx hwv
            go_wp2_with (go_at_call 170; refine (mixed_any t _ _ _ _).mono ?_; rintro e w2 ⟨rfl, rfl⟩)
            go_quiet ((go_at_call 169; exact Calls.quiet_of (turn5_any _ _)))
            go_wp2
            rw [HNX.out]
            have HS : Hid (w2.cell? ⟨gx, 0, none⟩ = some (.int .u32 x.a) ∧ w2.cell? ⟨gx, 1, none⟩ = some (.int .u32 x.b) ∧ w2.cell? ⟨gx, 2, none⟩ = some (.int .u32 x.c) ∧ w2.cell? ⟨gx, 3, none⟩ = some (.int .u32 x.d)) := ⟨k0, k1, k2, k3⟩
            refine wp_region_tail (fun W => W.cell? ⟨gx, 0, none⟩ = some (.int .u32 x.a) ∧ W.cell? ⟨gx, 1, none⟩ = some (.int .u32 x.b) ∧ W.cell? ⟨gx, 2, none⟩ = some (.int .u32 x.c) ∧ W.cell? ⟨gx, 3, none⟩ = some (.int .u32 x.d)) 11 (by kernel_rfl) ?_
            refine wpAnyT_take (i := 0) (v := ?_) rfl (by kernel_rfl) (by kernel_rfl) (by kernel_rfl) (by kernel_rfl) rfl (by kernel_rfl) (fun _ _ _ h => h) (Or.inl ⟨by rfl, ?_⟩) HS.out ?_
            case refine_2 => (rintro W ⟨c0, c1, c2, c3⟩; go_simp; try (with_reducible rfl))
            refine wpAnyT_take (i := 1) (v := ?_) rfl (by kernel_rfl) (by kernel_rfl) (by kernel_rfl) (by kernel_rfl) rfl (by kernel_rfl) (fun _ _ _ h => h) (Or.inl ⟨by rfl, ?_⟩) HS.out ?_
            case refine_2 => (rintro W ⟨c0, c1, c2, c3⟩; go_simp; try (with_reducible rfl))
            refine wpAnyT_take (i := 2) (v := ?_) rfl (by kernel_rfl) (by kernel_rfl) (by kernel_rfl) (by kernel_rfl) rfl (by kernel_rfl) (fun _ _ _ h => h) (Or.inl ⟨by rfl, ?_⟩) HS.out ?_
            case refine_2 => (rintro W ⟨c0, c1, c2, c3⟩; go_simp; try (with_reducible rfl))
            refine wpAnyT_take (i := 3) (v := ?_) rfl (by kernel_rfl) (by kernel_rfl) (by kernel_rfl) (by kernel_rfl) rfl (by kernel_rfl) (fun _ _ _ h => h) (Or.inl ⟨by rfl, ?_⟩) HS.out ?_
            case refine_2 => (rintro W ⟨c0, c1, c2, c3⟩; go_simp; try (with_reducible rfl))
            refine wpAnyT_take (i := 4) (v := ?_) rfl (by kernel_rfl) (by kernel_rfl) (by kernel_rfl) (by kernel_rfl) rfl (by kernel_rfl) (fun _ _ _ h => h) (Or.inl ⟨by rfl, ?_⟩) HS.out ?_
            case refine_2 => (rintro W ⟨c0, c1, c2, c3⟩; go_simp; try (with_reducible rfl))
            refine wpAnyT_take (i := 6) (v := ?_) rfl (by kernel_rfl) (by kernel_rfl) (by kernel_rfl) (by kernel_rfl) rfl (by kernel_rfl) (fun _ _ _ h => h) (Or.inl ⟨by rfl, ?_⟩) HS.out ?_
            case refine_2 => (rintro W ⟨c0, c1, c2, c3⟩; go_simp; try (with_reducible rfl))
            refine wpAnyT_take (i := 7) (v := ?_) rfl (by kernel_rfl) (by kernel_rfl) (by kernel_rfl) (by kernel_rfl) rfl (by kernel_rfl) (fun _ _ _ h => h) (Or.inl ⟨by rfl, ?_⟩) HS.out ?_
            case refine_2 => (rintro W ⟨c0, c1, c2, c3⟩; go_simp; try (with_reducible rfl))
            refine wpAnyT_take (i := 8) (v := ?_) rfl (by kernel_rfl) (by kernel_rfl) (by kernel_rfl) (by kernel_rfl) rfl (by kernel_rfl) (fun _ _ _ h => h) (Or.inl ⟨by rfl, ?_⟩) HS.out ?_
            case refine_2 => (rintro W ⟨c0, c1, c2, c3⟩; go_simp; try (with_reducible rfl))
            refine wpAnyT_take (i := 9) (v := ?_) rfl (by kernel_rfl) (by kernel_rfl) (by kernel_rfl) (by kernel_rfl) rfl (by kernel_rfl) (fun _ _ _ h => h) (Or.inl ⟨by rfl, ?_⟩) HS.out ?_
            case refine_2 => (rintro W ⟨c0, c1, c2, c3⟩; go_simp; try (with_reducible rfl))
            refine wpAnyT_op (i := 5) (by kernel_rfl) rfl (by rfl) (fun K hK => ?_)
            go_simp
            go_at_call 169
            refine (turn30_any _ _).mono ?_
            rintro e w3 ⟨rfl, m, rfl⟩
            go_simp
            refine hK _ _ (fun _ => HS.out) ?_
            refine wpAnyT_take (i := 10) (v := ?_) rfl (by kernel_rfl) (by kernel_rfl) (by kernel_rfl) (by kernel_rfl) rfl (by kernel_rfl) (fun _ _ _ h => h) (Or.inl ⟨by rfl, ?_⟩) HS.out ?_
            case refine_2 => (rintro W ⟨c0, c1, c2, c3⟩; go_simp; try (with_reducible rfl))
            refine wpAnyT_last (i := 11) (by kernel_rfl) rfl (by rfl) (by kernel_rfl) (by kernel_rfl) (fun K hK => ?_)
            go_simp
            refine hK _ _ ?_
            clear hK K HS
            go_wp2
            go_roundw
            case rel =>
              have hne : gx ≠ w.heap.size + 1 + 1 := by omega
              refine ⟨t + 1, ⟨nx, x.a, turnI x.b 30, x.c, x.d⟩, by go_num, by omega, ?_, ?_, ?_, ?_, ?_, ?_⟩
              · show _ = _; rw [rounds5, ← HX.out, HST.out]
              · exact A2.out.chg (S := fun k => k = gx) ((((((Chg.drawN (S := fun k => k = gx) w2 _).setCell (p := ⟨gx, 0, none⟩) rfl _).setCell (p := ⟨gx, 1, none⟩) rfl _).setCell (p := ⟨gx, 2, none⟩) rfl _).setCell (p := ⟨gx, 3, none⟩) rfl _).setCell (p := ⟨gx, 4, none⟩) rfl _) (by omega)
              · exact A0.out.chg (S := fun k => k = gx) ((((((Chg.drawN (S := fun k => k = gx) w2 _).setCell (p := ⟨gx, 0, none⟩) rfl _).setCell (p := ⟨gx, 1, none⟩) rfl _).setCell (p := ⟨gx, 2, none⟩) rfl _).setCell (p := ⟨gx, 3, none⟩) rfl _).setCell (p := ⟨gx, 4, none⟩) rfl _) (by omega)
              · exact A1.out.chg (S := fun k => k = gx) ((((((Chg.drawN (S := fun k => k = gx) w2 _).setCell (p := ⟨gx, 0, none⟩) rfl _).setCell (p := ⟨gx, 1, none⟩) rfl _).setCell (p := ⟨gx, 2, none⟩) rfl _).setCell (p := ⟨gx, 3, none⟩) rfl _).setCell (p := ⟨gx, 4, none⟩) rfl _) (by omega)
              · exact five_set (A3.out.chg (S := fun _ => False) (Chg.drawN w2 _) (fun e => e)) rfl _ _ _ _ _
              · have hb : Below w.heap.size w2 (w2.drewN (nq + 1 + m)) := (Chg.drawN (S := fun _ => False) w2 _).below AB.out.size (fun _ e => e.elim)
                exact (((((AB.out.trans hb).setCell (p := ⟨gx, 0, none⟩) (by show _ ≤ gx; omega) _).setCell (p := ⟨gx, 1, none⟩) (by show _ ≤ gx; omega) _).setCell (p := ⟨gx, 2, none⟩) (by show _ ≤ gx; omega) _).setCell (p := ⟨gx, 3, none⟩) (by show _ ≤ gx; omega) _).setCell (p := ⟨gx, 4, none⟩) (by show _ ≤ gx; omega) _
            case measure => simp [intOf]; omega
          · have ht80 : t = 80 := by omega
            have hq : decide ((t : Int) < 80) = false := by rw [decide_eq_false_iff_not]; omega
            rw [ht80] at HX
            clear ht80
            go_wp2
            have HX2 : Hid (block5 s b = plus5 s x) := by show _ = _; rw [block5, ← HW.out, ← HX.out]
            go_loopw [12] (fun iv wr => ∃ i : Nat, iv = .int .i64 (i : Nat) ∧ i ≤ 5 ∧ Hid (CB wr 137 w.heap.size s.cells) ∧ Hid (CB wr 137 (w.heap.size + 1) (i32s (z32 5))) ∧ Hid (CB wr 137 gx (part5 s x i)) ∧ Hid (Below w.heap.size w wr)) (fun iv _ => 5 - (intOf iv).toNat)
            case atStart => exact ⟨0, rfl, by decide, A0.out, A1.out, A3.out, AB.out⟩
            case round =>
              clear A0 A1 A2 A3 AB HX HW
              obtain ⟨i, rfl, hi, A0, A1, A3, AB⟩ := hrel
              by_cases h5 : i < 5
              · have kx : wr.cell? ⟨gx, i, none⟩ = some (.int .u32 (x.at i)) := by rw [A3.out.cell, part5_at _ _ _ h5]
                have ks : wr.cell? ⟨w.heap.size, i, none⟩ = some (.int .u32 (s.at i)) := by rw [A0.out.cell, cells_at _ _ h5]
                have fx := A3.out.free i
                have HN := Lib.hid (part5_next s x i h5)
                generalize x.at i = xi at *
                generalize s.at i = si at *
                have wt : IntKind.i64.wrap (i : Int) = (i : Int) := wrap_i64_nat _ (by omega)
                have q0 : (i : Int) < 5 := by omega
                have p0 : (0 : Int) ≤ (i : Int) := by omega
                have hne : gx ≠ w.heap.size := by omega
                have hne1 : gx ≠ w.heap.size + 1 := by omega
                go_wp2
                go_region
                go_wp2
                go_roundw
                case rel =>
                  refine ⟨i + 1, by go_num, by omega, A0.out.other ⟨gx, i, none⟩ hne _, A1.out.other ⟨gx, i, none⟩ hne1 _, ?_, (AB.out.setCell (p := ⟨gx, i, none⟩) (by show _ ≤ gx; omega) _).drew⟩
                  have h := A3.out.set i (.int .u32 ((xi + si) % 4294967296))
                  rw [HN.out] at h
                  exact h
                case measure => simp [intOf]; omega
              · obtain rfl : i = 5 := by omega
                have e5 : part5 s x 5 = (block5 s b).cells := by rw [HX2.out]; rfl
                rw [e5] at A3
                clear HX2 e5
                obtain ⟨y, hy⟩ : ∃ y, y = block5 s b := ⟨_, rfl⟩
                rw [← hy] at A3
                have HY := Lib.hid hy
                clear hy
                have k0 : wr.cell? ⟨gx, 0, none⟩ = some (.int .u32 y.a) := A3.out.cell 0
                have k1 : wr.cell? ⟨gx, 1, none⟩ = some (.int .u32 y.b) := A3.out.cell 1
                have k2 : wr.cell? ⟨gx, 2, none⟩ = some (.int .u32 y.c) := A3.out.cell 2
                have k3 : wr.cell? ⟨gx, 3, none⟩ = some (.int .u32 y.d) := A3.out.cell 3
                have k4 : wr.cell? ⟨gx, 4, none⟩ = some (.int .u32 y.e) := A3.out.cell 4
                have f0 := A1.out.free 0
                have f1 := A1.out.free 1
                have f2 := A1.out.free 2
                have f3 := A1.out.free 3
                have f4 := A1.out.free 4
                have j0 : wr.cell? ⟨w.heap.size + 1, 0, none⟩ = some (.int .u32 0) := A1.out.cell 0
                have j1 : wr.cell? ⟨w.heap.size + 1, 1, none⟩ = some (.int .u32 0) := A1.out.cell 1
                have j2 : wr.cell? ⟨w.heap.size + 1, 2, none⟩ = some (.int .u32 0) := A1.out.cell 2
                have j3 : wr.cell? ⟨w.heap.size + 1, 3, none⟩ = some (.int .u32 0) := A1.out.cell 3
                have j4 : wr.cell? ⟨w.heap.size + 1, 4, none⟩ = some (.int .u32 0) := A1.out.cell 4
                go_wp2
                refine bodyPost_ret (ret_row rfl rfl (five_set A1.out rfl _ _ _ _ _) _ Tryz.underlying137 rfl (zero_of_info info5).2) rfl ⟨by rw [← HY.out]; rfl, ?_⟩
                exact ((((AB.out.setCell (p := ⟨w.heap.size + 1, 0, none⟩) (by show _ ≤ w.heap.size + 1; omega) _).setCell (p := ⟨w.heap.size + 1, 1, none⟩) (by show _ ≤ w.heap.size + 1; omega) _).setCell (p := ⟨w.heap.size + 1, 2, none⟩) (by show _ ≤ w.heap.size + 1; omega) _).setCell (p := ⟨w.heap.size + 1, 3, none⟩) (by show _ ≤ w.heap.size + 1; omega) _).setCell (p := ⟨w.heap.size + 1, 4, none⟩) (by show _ ≤ w.heap.size + 1; omega) _

/-- SHA-1, as cells. -/
def shaC (m : List Nat) : List Value := bcells (sha5 m)
theorem own_rd8 {w : World} {B g n c : Nat} {zs : List Nat} (h : w.ownsRow B 5 1 (.slice (some ⟨g, 0, none⟩) n c) n (u8s zs)) (o k : Nat) (hk : o + k ≤ n) : Rd .u8 w (some ⟨g, o, none⟩) ((zs.drop o).take k) := by
  have hl : zs.length = n := by have := h.1; simpa [u8s] using this
  intro j hj
  refine ⟨g, o, rfl, fun i hi => ?_⟩
  have hk2 : i < k := by simp at hi; omega
  rw [World.ownsRow.cellAt h (o + i) (by omega), u8s, List.getElem?_map, List.getElem?_eq_getElem (by omega)]
  simp [List.getD, List.getElem?_drop, hk2, show o + i < zs.length by omega]
theorem own_rdw {w : World} {B g n c : Nat} {zs : List Nat} (h : w.ownsRow B 5 1 (.slice (some ⟨g, 0, none⟩) n c) n (u8s zs)) : Rd .u8 w (some ⟨g, 0, none⟩) zs := by
  have hl : zs.length = n := by have := h.1; simpa [u8s] using this
  have := own_rd8 h 0 n (by omega)
  rwa [List.drop_zero, List.take_of_length_le (by omega)] at this
theorem u8s_news (k : List Nat) : ∀ u ∈ u8s k, u.oneCell' = true := by
  intro v hv; obtain ⟨x, _, rfl⟩ := List.mem_map.1 hv; rfl
theorem pad_byte (n : Nat) : ∀ x ∈ padI n, x < 256 := by
  intro x hx
  simp [padI] at hx
  rcases hx with rfl | ⟨_, rfl⟩ | ⟨i, _, rfl⟩
  · decide
  · decide
  · exact Nat.mod_lt _ (by decide)

set_option maxHeartbeats 2000000 in
set_option maxRecDepth 100000 in
theorem rsum_any (a : Option Addr) (len cap : Nat) (b : List Nat) (w : World) (hl : b.length = len) (hbig : len ≤ 1099511627776) (hcap : len ≤ cap) (hna : a = none → cap = 0) (hb : ∀ x ∈ b, x < 256) (hr : Rd .u8 w a b) :
    Calls Tryz.prog 75 #[.slice a len cap] w fun e w' => e = .returned (.agg (shaC b).toArray) ∧ Below w.heap.size w w' := by
  have hcap := hcap
  have hz := (zero_of_info info20).1
  have hpl := padN_lt len
  have e0 : IntKind.u64.wrap ((len : Nat) : Int) = (len : Int) := by rw [IntKind.wrap_u64]; omega
  have HR0 := Lib.hid hr
  clear hr
  go_enter Tryz.func75, Tryz.ntmps75
  have hr : Rd .u8 (w.alloc (.cells (u8s (z8 20)).toArray 50)) a b := HR0.out.below ((Below.refl _ _).alloc (Nat.le_refl _) _)
  have HRR := Lib.hid (CB.new w 50 (u8s (z8 20)))
  have HB := Lib.hid ((Below.refl w.heap.size w).alloc (Nat.le_refl _) (.cells (u8s (z8 20)).toArray 50))
  go_upto_region 2 with fail
  generalize w.alloc (.cells (u8s (z8 20)).toArray 50) = W0 at *
  go_upto_region 3 with (at_builtin; refine wpl_appN 40 5 Tryz.underlying40 info8 rfl (by decide) rfl _ _ rfl W0.heap.size (.slice none 0 0) 0 [] rfl (World.ownsRow_nil _ _ _ _) a len cap rfl (u8s b) (by rw [u8s_len]; exact hl) (by rw [← hl]; exact hr.news) (fun _ h => hna h) (u8s_news b) (by omega) (Nat.le_refl _) ?_; intro v1 w1 hown1 hg1 hor1 hnil1)
  have HW00 := Lib.hid HRR.out.lt
  have HRR := Lib.hid (HRR.out.below ((Below.refl _ _).grown hg1 (Nat.le_refl _) (fun k hk => by cases hk)))
  have HB := Lib.hid (HB.out.grown hg1 HB.out.size (fun k hk => by cases hk))
  have HW0 : Hid (w.heap.size < W0.heap.size ∧ W0.heap.size ≤ w1.heap.size) := ⟨HW00.out, (Chg.of_grown hg1).size⟩
  clear hr hor1 hnil1 hg1 HR0
  go_upto_region 4 with (first
    | (go_at_call 122; refine (rpad_any len _ (by omega)).mono ?_; rintro e w2 ⟨g2, c2, rfl, hown2, hb2⟩
       have hown1 := (Chg.of_below hb2).owns hown1 (fun k hk => by have := (hown1.lt k hk).2; omega)
       have hr2 := own_rdw hown2
       have hsz2 := hb2.size)
    | (at_builtin; refine wpl_appN 40 5 Tryz.underlying40 info8 rfl (by decide) rfl _ _ rfl W0.heap.size v1 (0 + len) ([] ++ u8s b) rfl hown1 (some ⟨g2, 0, none⟩) (padN len + 9) c2 rfl (u8s (padI len)) (by rw [u8s_len, padI_len]) (by rw [← padI_len]; exact hr2.news) (fun h => absurd h (by omega)) (u8s_news _) (by omega) (by have := HW0.out; omega) ?_; intro v3 w3 hown3 hg3 hor3 hnil3))
  have HRR := Lib.hid ((HRR.out.below hb2).belowB ((Below.refl W0.heap.size w2).grown hg3 (by have := HW0.out; omega) (fun k hk => (hown1.lt k hk).1)) HW0.out.1)
  obtain ⟨all, hall⟩ : ∃ all, all = b ++ padI len := ⟨_, rfl⟩
  obtain ⟨n3, hn3⟩ : ∃ n3, n3 = len + (padN len + 9) := ⟨_, rfl⟩
  have hown3 : w3.ownsRow W0.heap.size 5 1 v3 n3 (u8s all) := by
    have e : u8s all = [] ++ u8s b ++ u8s (padI len) := by rw [hall]; simp [u8s]
    rw [e, hn3]; rwa [Nat.zero_add] at hown3
  rcases hown3.2 with ⟨_, h0⟩ | ⟨g3, c3, cur, rfl, hbg, hheap, hcp, hmax, hcur, htake⟩
  · omega
  have hsz3 : w2.heap.size ≤ w3.heap.size := (Chg.of_grown hg3).size
  have hlt3 := (hown3.lt g3 rfl).2
  have HB := Lib.hid ((HB.out.trans (hb2.mono HB.out.size)).grown hg3 (by have := HB.out.size; omega) (fun k hk => by have := (hown1.lt k hk).1; have := HW0.out; omega))
  have hm64 : n3 % 64 = 0 := by have := padI_whole len; rw [padI_len] at this; omega
  have hn3b : n3 ≤ 1099511627900 := by omega
  have halll : all.length = n3 := by rw [hall, List.length_append, padI_len, hl, hn3]
  have HAB : Hid (∀ x ∈ all, x < 256) := by
    intro x hx; rw [hall] at hx; rcases List.mem_append.1 hx with h | h
    · exact hb x h
    · exact pad_byte _ x h
  have HALL : Hid (∀ k, 64 * k = n3 → blocks5 start5 all k = sha5 b) := by
    intro k hk
    rw [sha5, hl, ← hall, halll, ← hk, Nat.mul_div_cancel_left _ (by decide)]
  have HO3 := Lib.hid hown3
  have HLT : Hid (w.heap.size < W0.heap.size ∧ W0.heap.size ≤ g3 ∧ g3 < w3.heap.size) := ⟨HW0.out.1, hbg, hlt3⟩
  clear hheap hcur htake hown3 hn3 hall hg3 hor3 hnil3 hown1 hr2 hsz2 hown2 hb2 hsz3 hbg hlt3 hmax hpl e0 hbig hcap hna hb
  go_upto_region 5 with fail
  have A4 := CB.new w3 137 start5.cells
  have HRR := Lib.hid (HRR.out.alloc (.cells start5.cells.toArray 137))
  have HO3 := Lib.hid ((Chg.of_below ((Below.refl w3.heap.size w3).alloc (Nat.le_refl _) (.cells start5.cells.toArray 137))).owns HO3.out (fun k hk => by have e : g3 = k := Option.some.inj hk; have := HLT.out; omega))
  have HB := Lib.hid (HB.out.alloc HB.out.size (.cells start5.cells.toArray 137))
  have A4 := Lib.hid A4
  generalize w3.heap.size = g4 at *
  go_wp2
  go_loopw [5] (fun iv wr => ∃ (p k : Nat) (x : S5), iv = .int .i64 (p : Nat) ∧ p ≤ n3 ∧ Hid (p = 64 * k) ∧ Hid (x = blocks5 start5 all k) ∧ Hid (CB wr 137 g4 x.cells) ∧ Hid (CB wr 50 w.heap.size (u8s (z8 20))) ∧ Hid (wr.ownsRow W0.heap.size 5 1 (.slice (some ⟨g3, 0, none⟩) n3 c3) n3 (u8s all)) ∧ Hid (Below w.heap.size w wr)) (fun iv _ => n3 - (intOf iv).toNat)
  case atStart => exact ⟨0, 0, start5, rfl, Nat.zero_le _, rfl, rfl, A4.out, HRR.out, HO3.out, HB.out⟩
  case round =>
    clear A4 HRR HO3 HB
    obtain ⟨p, k, x, rfl, hp, HP, HX, A4, HRR, HO3, HB⟩ := hrel
    by_cases hpn : p < n3
    · obtain ⟨p64, hp64⟩ : ∃ p64, p64 = p + 64 := ⟨_, rfl⟩
      have e1 : (p : Int) + 64 = (p64 : Int) := by omega
      have e2 : p64 - p = 64 := by omega
      have hpp : p ≤ p64 := by omega
      have hpc : p64 ≤ c3 := by have := HP.out; omega
      have hpn3 : p64 ≤ n3 := by have := HP.out; omega
      have w64 : IntKind.i64.wrap (p64 : Int) = (p64 : Int) := wrap_i64_nat _ (by omega)
      have w0 : IntKind.i64.wrap (p : Int) = (p : Int) := wrap_i64_nat _ (by omega)
      have z0 : (0 : Int) ≤ (p : Int) := by omega
      have z1 : (0 : Int) ≤ (p64 : Int) := by omega
      have z2 : (p : Int) ≤ (p64 : Int) := by omega
      have z3 : (p64 : Int) ≤ (c3 : Int) := by omega
      have HRB := Lib.hid (own_rd8 HO3.out p 64 (by omega))
      have HBL : Hid (((all.drop p).take 64).length = 64 ∧ ∀ y ∈ (all.drop p).take 64, y < 256) := ⟨by simp; omega, fun y hy => HAB.out y (List.mem_of_mem_drop (List.mem_of_mem_take hy))⟩
      obtain ⟨nb, hnb⟩ : ∃ nb, nb = block5 x ((all.drop p).take 64) := ⟨_, rfl⟩
      have HNB := Lib.hid hnb
      have hne : c3 ≠ p := by omega
      have HP64 := Lib.hid hp64
      clear hp64 hnb
      have HSS : Hid (wr.cell? ⟨g4, 0, none⟩ = some (.int .u32 x.a) ∧ wr.cell? ⟨g4, 1, none⟩ = some (.int .u32 x.b) ∧ wr.cell? ⟨g4, 2, none⟩ = some (.int .u32 x.c) ∧ wr.cell? ⟨g4, 3, none⟩ = some (.int .u32 x.d) ∧ wr.cell? ⟨g4, 4, none⟩ = some (.int .u32 x.e)) := ⟨A4.out.cell 0, A4.out.cell 1, A4.out.cell 2, A4.out.cell 3, A4.out.cell 4⟩
      go_upto_region 8 with fail
      refine wp_region_tail (fun W => W.cell? ⟨g4, 0, none⟩ = some (.int .u32 x.a) ∧ W.cell? ⟨g4, 1, none⟩ = some (.int .u32 x.b) ∧ W.cell? ⟨g4, 2, none⟩ = some (.int .u32 x.c) ∧ W.cell? ⟨g4, 3, none⟩ = some (.int .u32 x.d) ∧ W.cell? ⟨g4, 4, none⟩ = some (.int .u32 x.e)) 7 (by kernel_rfl) ?_
      refine wpAnyT_take (i := 0) (v := ?_) rfl (by kernel_rfl) (by kernel_rfl) (by kernel_rfl) (by kernel_rfl) rfl (by kernel_rfl) (fun _ _ _ h => h) (Or.inl ⟨by rfl, ?_⟩) HSS.out ?_
      case refine_2 => (rintro W ⟨c0, c1, c2, c3, c4⟩; go_simp; try (with_reducible rfl))
      refine wpAnyT_take (i := 1) (v := ?_) rfl (by kernel_rfl) (by kernel_rfl) (by kernel_rfl) (by kernel_rfl) rfl (by kernel_rfl) (fun _ _ _ h => h) (Or.inl ⟨by rfl, ?_⟩) HSS.out ?_
      case refine_2 => (rintro W ⟨c0, c1, c2, c3, c4⟩; go_simp; try (with_reducible rfl))
      refine wpAnyT_take (i := 2) (v := ?_) rfl (by kernel_rfl) (by kernel_rfl) (by kernel_rfl) (by kernel_rfl) rfl (by kernel_rfl) (fun _ _ _ h => h) (Or.inl ⟨by rfl, ?_⟩) HSS.out ?_
      case refine_2 => (rintro W ⟨c0, c1, c2, c3, c4⟩; go_simp; try (with_reducible rfl))
      refine wpAnyT_take (i := 3) (v := ?_) rfl (by kernel_rfl) (by kernel_rfl) (by kernel_rfl) (by kernel_rfl) rfl (by kernel_rfl) (fun _ _ _ h => h) (Or.inl ⟨by rfl, ?_⟩) HSS.out ?_
      case refine_2 => (rintro W ⟨c0, c1, c2, c3, c4⟩; go_simp; try (with_reducible rfl))
      refine wpAnyT_take (i := 4) (v := ?_) rfl (by kernel_rfl) (by kernel_rfl) (by kernel_rfl) (by kernel_rfl) rfl (by kernel_rfl) (fun _ _ _ h => h) (Or.inl ⟨by rfl, ?_⟩) HSS.out ?_
      case refine_2 => (rintro W ⟨c0, c1, c2, c3, c4⟩; go_simp; try (with_reducible rfl))
      refine wpAnyT_take (i := 5) (v := ?_) rfl (by kernel_rfl) (by kernel_rfl) (by kernel_rfl) (by kernel_rfl) rfl (by kernel_rfl) (fun _ _ _ h => h) (Or.inl ⟨by rfl, ?_⟩) HSS.out ?_
      case refine_2 => (rintro W ⟨c0, c1, c2, c3, c4⟩; go_simp; try (with_reducible rfl))
      refine wpAnyT_op (i := 6) (by kernel_rfl) rfl (by rfl) (fun K hK => ?_)
      go_simp
      go_at_call 123
      refine (rblock_any x (some ⟨g3, p, none⟩) 64 (c3 - p) ((all.drop p).take 64) _ HBL.out.1 rfl HBL.out.2 (show Rd .u8 wr.drew _ _ from HRB.out)).mono ?_
      rintro e w5 ⟨rfl, hb5⟩
      go_simp
      have A5 : Hid (CB w5 137 g4 x.cells) := CB.below (w := wr.drew) A4.out hb5
      have HO5 : Hid (w5.ownsRow W0.heap.size 5 1 (.slice (some ⟨g3, 0, none⟩) n3 c3) n3 (u8s all)) := (Chg.of_below hb5).owns (show wr.drew.ownsRow _ _ _ _ _ _ from HO3.out) (fun k hk => by have e : g3 = k := Option.some.inj hk; have := (HO3.out.lt g3 rfl).2; have : wr.drew.heap.size = wr.heap.size := rfl; omega)
      have HR5 : Hid (CB w5 50 w.heap.size (u8s (z8 20))) := CB.below (w := wr.drew) HRR.out hb5
      have HB5 : Hid (Below w.heap.size w w5) := HB.out.drew.trans (hb5.mono HB.out.drew.size)
      refine hK _ _ (fun _ => ⟨A5.out.cell 0, A5.out.cell 1, A5.out.cell 2, A5.out.cell 3, A5.out.cell 4⟩) ?_
      clear hK K hb5
      refine wpAnyT_last (i := 7) (by kernel_rfl) rfl (by rfl) (by kernel_rfl) (by kernel_rfl) (fun K hK => ?_)
      refine wp_storec 137 (.tmp 4) (.tmp 30) rfl g4 0 5 rfl (block5 x ((all.drop p).take 64)).cells rfl rfl A5.out (zero_of_info info5).2 (show 0 + 5 ≤ x.cells.length from Nat.le_refl 5) (cells_one _) fun w6 A6 hch hsz => hK _ _ ?_
      clear hK K
      have A6 : CB w6 137 g4 (block5 x ((all.drop p).take 64)).cells := A6
      have hg43 : g4 ≠ g3 := by have := HLT.out; omega
      have hg4w : g4 ≠ w.heap.size := by have := HLT.out; omega
      have A6 := Lib.hid A6
      have HO6 := Lib.hid (hch.owns HO5.out (fun k hk => by have e : g3 = k := Option.some.inj hk; omega))
      have HR6 := Lib.hid (HR5.out.chg hch (fun e => hg4w e.symm))
      have HB6 := Lib.hid (HB5.out.trans (hch.below HB5.out.size (fun k hk => by have := HLT.out; omega)))
      rw [← HNB.out] at A6
      clear hch hsz HSS A5 HO5 HR5 HB5
      go_wp2
      go_roundw
      case rel => exact ⟨p64, k + 1, nb, by go_num, hpn3, by show _ = _; have := HP.out; have := HP64.out; omega, by show _ = _; rw [blocks5, ← HX.out, HNB.out, HP.out], A6.out, HR6.out, HO6.out, HB6.out⟩
      case measure => simp [intOf]; have := HP64.out; omega
    · have hpn3 : p = n3 := by omega
      have hq : decide ((p : Int) < (n3 : Int)) = false := by rw [decide_eq_false_iff_not]; omega
      have HSF : Hid (x = sha5 b) := by show _ = _; rw [HX.out]; exact HALL.out k (by rw [← HP.out, hpn3])
      have hz := (zero_of_info info20).1
      clear hpn3 HX HALL
      go_upto_region 10 with fail
      have HS := Lib.hid (A4.out.alloc (.cells (u8s (z8 20)).toArray 50))
      have HR := Lib.hid (HRR.out.alloc (.cells (u8s (z8 20)).toArray 50))
      have HO := Lib.hid (CB.new wr 50 (u8s (z8 20)))
      have HB := Lib.hid (HB.out.alloc HB.out.size (.cells (u8s (z8 20)).toArray 50))
      have hgb : g4 < wr.heap.size := A4.out.lt
      have hgw : w.heap.size < g4 := by have := HLT.out; omega
      generalize wr.heap.size = g6 at *
      clear A4 HRR HO3 hz
      go_wp2
      go_loopw [7] (fun iv wr => ∃ i : Nat, iv = .int .i64 (i : Nat) ∧ i ≤ 20 ∧ Hid (CB wr 50 g6 (b20 x i)) ∧ Hid (CB wr 50 w.heap.size (u8s (z8 20))) ∧ Hid (CB wr 137 g4 x.cells) ∧ Hid (Below w.heap.size w wr)) (fun iv _ => 20 - (intOf iv).toNat)
      case atStart => exact ⟨0, rfl, by decide, HO.out, HR.out, HS.out, HB.out⟩
      case round =>
        clear HO HR HS HB
        obtain ⟨i, rfl, hi, HO, HR, HS, HB⟩ := hrel
        by_cases h20 : i < 20
        · obtain ⟨q, hq⟩ : ∃ q, q = i / 4 := ⟨_, rfl⟩
          obtain ⟨r, hr⟩ : ∃ r, r = i % 4 := ⟨_, rfl⟩
          obtain ⟨m, hm⟩ : ∃ m, m = 24 - 8 * r := ⟨_, rfl⟩
          have e1 : (i : Int).tdiv 4 = (q : Int) := by rw [Int.tdiv_eq_ediv_of_nonneg (by omega)]; omega
          have e2 : (i : Int).tmod 4 = (r : Int) := by rw [Int.tmod_eq_emod_of_nonneg (by omega)]; omega
          have e3 : (24 : Int) - (r : Int) * 8 = (m : Int) := by omega
          have e4 : (24 : Int) - 8 * (r : Int) = (m : Int) := by omega
          have hq5 : q < 5 := by omega
          have hm32 : m < 32 := by omega
          have hr4 : r < 4 := by omega
          have c1 : wr.cell? ⟨g4, q, none⟩ = some (.int .u32 (x.at q)) := by rw [HS.out.cell, cells_at _ _ hq5]
          have HX : Hid (byteI x i = x.at q / 2 ^ m % 256) := by show _ = _; rw [byteI, hq, hm, hr]
          have f0 := HO.out.free i
          obtain ⟨old, c0⟩ : ∃ old, wr.cell? ⟨g6, i, none⟩ = some (.int .u8 old) := by rw [HO.out.cell]; exact b20_at _ _ h20
          have HN := Lib.hid (b20_next x i h20)
          generalize x.at q = xq at *
          have hgs : g4 ≠ g6 := by omega
          have hgr : w.heap.size ≠ g6 := by omega
          clear hq hr hm
          go_wp2
          go_roundw
          case rel =>
            refine ⟨i + 1, by go_num, by omega, ?_, HR.out.other ⟨g6, i, none⟩ (fun e => hgr e.symm) _, HS.out.other ⟨g6, i, none⟩ (fun e => hgs e.symm) _, HB.out.setCell (p := ⟨g6, i, none⟩) (by show _ ≤ g6; omega) _⟩
            rw [← HN.out, HX.out]
            exact HO.out.set i _
          case measure => simp [intOf]; omega
        · have hi20 : i = 20 := by omega
          have hq : decide ((i : Int) < 20) = false := by rw [decide_eq_false_iff_not]; omega
          rw [hi20, b20_all] at HO
          clear hi20
          have hL : (bcells x).length = 20 := by simp [bcells, bytes20]
          have h1c : ∀ v ∈ bcells x, v.oneCell' = true := by
            intro v hv; obtain ⟨x, _, rfl⟩ := List.mem_map.1 hv; rfl
          obtain ⟨G, hG⟩ : ∃ G, G = bcells x := ⟨_, rfl⟩
          rw [← hG] at HO hL h1c
          have HG := Lib.hid hG
          clear hG
          go_upto_region 14 with fail
          refine wp_region_lit ?_
          refine wpList_plain rfl fun K1 hK1 => wp_loadc 50 (.tmp 6) rfl (g6) 0 20 rfl HO.out _ Tryz.underlying50 rfl (zero_of_info info20).2 (by omega) G (by rw [List.drop_zero]; exact List.take_of_length_le (by omega)) (hK1 _ _ ?_)
          clear hK1 K1
          refine wpList_plain rfl fun K1 hK1 => wp_storec 50 (.tmp 2) (.tmp 47) rfl (w.heap.size) 0 20 rfl G rfl hL HR.out (zero_of_info info20).2 (by simp [u8s, z8]) h1c fun w' hc hch hsz => hK1 _ _ ?_
          clear hK1 K1
          rw [splice_all (by rw [hL]; simp [u8s, z8])] at hc
          go_wp2
          refine bodyPost_ret (ret_row rfl rfl hc _ Tryz.underlying50 rfl (by rw [(zero_of_info info20).2, hL])) rfl ⟨by rw [HG.out, shaC, ← HSF.out], ?_⟩
          exact HB.out.trans (hch.below HB.out.size (fun k hk => by omega))
end Go.Proofs.YtaookoejdnkkoaaGreatDoor
