import Derived.Test.YtpipjkpjpkgmpaaDoorShY0
namespace Go.Proofs.YtpipjkpjpkgmpaaDoor
open Go.RowKit

set_option maxHeartbeats 6000000 in
set_option maxRecDepth 100000 in
theorem cuts_some (p : Addr) (len cap : Nat) (b : List Nat) (i0 k0 : Int) (w : World) (hl : b.length = len) (hbig : len ≤ 16384) (hcap : len ≤ cap) (hb : ∀ x ∈ b, x < 256) (hr : Rd .u8 w (some p) b) (hF : Five w)
    (hi1 : -9223372036854775808 ≤ i0) (hi2 : i0 ≤ 9223372036854775807) (hk1 : -9223372036854775808 ≤ k0) (hk2 : k0 ≤ 9223372036854775807) :
    Calls Tryd.prog 23 #[.slice (some p) len cap, .int .i64 i0, .int .i64 k0] w fun e w' => e = .returned (.bool true) ∧ Below w.heap.size w w' := by
  have hq : decide ((16384 : Int) < (len : Int)) = false := decide_eq_false (by omega)
  have hz := (zero_of_info info20).1
  have HR0 := Lib.hid hr
  have HF0 := Lib.hid hF
  clear hr hF
  obtain ⟨m, hm⟩ : ∃ m, m = len + 1 := ⟨_, rfl⟩
  have em : (len : Int) + 1 = (m : Int) := by omega
  have HM := Lib.hid hm
  clear hm
  go_enter Tryd.func23, Tryd.ntmps23
  go_wp2_with fail
  refine (pickn_any i0 m _ hi1 hi2 (by have := HM.out; omega) (by have := HM.out; omega)).mono ?_
  rintro e wz ⟨m1, rfl, hm1, rfl⟩
  go_wp2_with fail
  refine (pickn_any k0 m _ hk1 hk2 (by have := HM.out; omega) (by have := HM.out; omega)).mono ?_
  rintro e wz ⟨m2, rfl, hm2, rfl⟩
  have hl1 : m1 ≤ len := by have := HM.out; omega
  have hl2 : m2 ≤ len := by have := HM.out; omega
  clear hm1 hm2 em HM
  by_cases hgt : m2 < m1
  · have hd : decide ((m2 : Int) < (m1 : Int)) = true := decide_eq_true (by omega)
    have hik : m2 ≤ m1 := by omega
    go_upto_region 6 with fail
    clear hgt hd
    obtain ⟨X1, hX1⟩ : ∃ X1, X1 = shaC (b.take m2) := ⟨_, rfl⟩
    have HX1E := Lib.hid hX1
    have HX1L : Hid (X1.length = 20) := by show _ = _; rw [hX1]; exact bcells_len _
    have HX1o : Hid (∀ v ∈ X1, v.oneCell' = true) := by show ∀ v ∈ X1, _; rw [hX1]; exact bcells_one _
    have EX1 : ∀ W, (binOp .neq 28 (.agg X1.toArray) (.agg X1.toArray)).run Tryd.prog W = .ok (.bool false) W := fun W => by
      rw [hX1]; exact (neq20 (bytes20 (sha5 (b.take m2))) (bytes20 (sha5 (b.take m2))) (by simp [bytes20]) (by simp [bytes20]) W).trans (by simp)
    have QX1 : ∀ W, (binOp .eql 28 (.agg X1.toArray) (.agg X1.toArray)).run Tryd.prog W = .ok (.bool true) W := fun W => by
      rw [hX1]; exact (eql20 (bytes20 (sha5 (b.take m2))) (bytes20 (sha5 (b.take m2))) (by simp [bytes20]) (by simp [bytes20]) W).trans (by simp)
    clear hX1
    obtain ⟨X2, hX2⟩ : ∃ X2, X2 = shaC (b.take m1) := ⟨_, rfl⟩
    have HX2E := Lib.hid hX2
    have HX2L : Hid (X2.length = 20) := by show _ = _; rw [hX2]; exact bcells_len _
    have HX2o : Hid (∀ v ∈ X2, v.oneCell' = true) := by show ∀ v ∈ X2, _; rw [hX2]; exact bcells_one _
    have EX2 : ∀ W, (binOp .neq 28 (.agg X2.toArray) (.agg X2.toArray)).run Tryd.prog W = .ok (.bool false) W := fun W => by
      rw [hX2]; exact (neq20 (bytes20 (sha5 (b.take m1))) (bytes20 (sha5 (b.take m1))) (by simp [bytes20]) (by simp [bytes20]) W).trans (by simp)
    have QX2 : ∀ W, (binOp .eql 28 (.agg X2.toArray) (.agg X2.toArray)).run Tryd.prog W = .ok (.bool true) W := fun W => by
      rw [hX2]; exact (eql20 (bytes20 (sha5 (b.take m1))) (bytes20 (sha5 (b.take m1))) (by simp [bytes20]) (by simp [bytes20]) W).trans (by simp)
    clear hX2
    obtain ⟨X3, hX3⟩ : ∃ X3, X3 = shaC (b) := ⟨_, rfl⟩
    have HX3E := Lib.hid hX3
    have HX3L : Hid (X3.length = 20) := by show _ = _; rw [hX3]; exact bcells_len _
    have HX3o : Hid (∀ v ∈ X3, v.oneCell' = true) := by show ∀ v ∈ X3, _; rw [hX3]; exact bcells_one _
    have EX3 : ∀ W, (binOp .neq 28 (.agg X3.toArray) (.agg X3.toArray)).run Tryd.prog W = .ok (.bool false) W := fun W => by
      rw [hX3]; exact (neq20 (bytes20 (sha5 (b))) (bytes20 (sha5 (b))) (by simp [bytes20]) (by simp [bytes20]) W).trans (by simp)
    have QX3 : ∀ W, (binOp .eql 28 (.agg X3.toArray) (.agg X3.toArray)).run Tryd.prog W = .ok (.bool true) W := fun W => by
      rw [hX3]; exact (eql20 (bytes20 (sha5 (b))) (bytes20 (sha5 (b))) (by simp [bytes20]) (by simp [bytes20]) W).trans (by simp)
    clear hX3
    obtain ⟨X4, hX4⟩ : ∃ X4, X4 = shaC (b.drop m2) := ⟨_, rfl⟩
    have HX4E := Lib.hid hX4
    have HX4L : Hid (X4.length = 20) := by show _ = _; rw [hX4]; exact bcells_len _
    have HX4o : Hid (∀ v ∈ X4, v.oneCell' = true) := by show ∀ v ∈ X4, _; rw [hX4]; exact bcells_one _
    have EX4 : ∀ W, (binOp .neq 28 (.agg X4.toArray) (.agg X4.toArray)).run Tryd.prog W = .ok (.bool false) W := fun W => by
      rw [hX4]; exact (neq20 (bytes20 (sha5 (b.drop m2))) (bytes20 (sha5 (b.drop m2))) (by simp [bytes20]) (by simp [bytes20]) W).trans (by simp)
    have QX4 : ∀ W, (binOp .eql 28 (.agg X4.toArray) (.agg X4.toArray)).run Tryd.prog W = .ok (.bool true) W := fun W => by
      rw [hX4]; exact (eql20 (bytes20 (sha5 (b.drop m2))) (bytes20 (sha5 (b.drop m2))) (by simp [bytes20]) (by simp [bytes20]) W).trans (by simp)
    clear hX4
    go_upto_region 9 with ((go_at_call 10; refine (new_any _ HF0.out).mono ?_; rintro e w1 ⟨rfl, S1, hb1⟩))
    have HS := Lib.hid S1
    have HB := Lib.hid hb1
    clear S1 hb1
    obtain ⟨A2, hA2⟩ : ∃ A2 : Option Addr, (if cap = m1 then some p else some (p.add m1)) = A2 := ⟨_, rfl⟩
    obtain ⟨A4, hA4⟩ : ∃ A4 : Option Addr, (if cap = m2 then some p else some (p.add m2)) = A4 := ⟨_, rfl⟩
    have HRA2 : Hid (Rd .u8 w A2 ((b.drop m1).take (len - m1))) := by show Rd _ _ _ _; rw [← hA2]; exact rd_cut HR0.out hl hcap _ _ (by omega)
    have HRA4 : Hid (Rd .u8 w A4 ((b.drop m2).take (len - m2))) := by show Rd _ _ _ _; rw [← hA4]; exact rd_cut HR0.out hl hcap _ _ (by omega)
    have HRA6 : Hid (Rd .u8 w A4 ((b.drop m2).take (m1 - m2))) := by show Rd _ _ _ _; rw [← hA4]; exact rd_cut HR0.out hl hcap _ _ (by omega)
    have hu : IntKind.u64.wrap (len : Int) = (len : Int) := by rw [IntKind.wrap_u64]; omega
    have hic : m2 ≤ cap := by omega
    have hkc : m1 ≤ cap := by omega
    go_upto_region 10 with ((go_at_call 16; refine (write_any w.heap.size ([]) (some p) m2 cap (b.take m2) _ HS.out (by simp <;> omega) (by simp <;> omega) (by omega) (fun x hx => hb x (List.mem_of_mem_take hx)) (rd_pre (HR0.out.below HB.out) m2) (fun h0 q hq => Nat.ne_of_lt (cut_block (rd_pre HR0.out m2) (by simp <;> omega) h0 hq))).mono ?_; rintro e w2 ⟨rfl, HSn, hw⟩))
    have hgl := HS.out.lt
    have HB := Lib.hid (HB.out.trans (hw.of_ws HB.out.size (Nat.le_refl _)))
    have HS : Hid (HSt w2 w.heap.size (b.take m2)) := by have h := HSn; show HSt _ _ _; exact h
    clear hw HSn
    refine wp_region_lit ?_
    refine wpList_plain rfl fun K1 hK1 => ?_
    go_simp
    refine hK1 _ _ ?_
    clear hK1 K1
    refine wpList_plain rfl fun K1 hK1 => ?_
    go_simp
    go_at_call 11
    refine (hsum_any w.heap.size _ _ HS.out (by simp; omega)).mono ?_
    rintro e w3 ⟨rfl, hb⟩
    go_simp
    rw [← HX1E.out]
    refine hK1 _ _ ?_
    clear hK1 K1
    have HS := Lib.hid (HS.out.below hb)
    have HB := Lib.hid (HB.out.trans (hb.mono HB.out.size))
    clear hb
    refine wpList_plain rfl fun K1 hK1 => ?_
    go_simp
    refine hK1 _ _ ?_
    clear hK1 K1
    have C5 := CB.new w3 28 (u8s (z8 20))
    have b5 := (Below.refl w3.heap.size w3).alloc (Nat.le_refl _) (.cells (u8s (z8 20)).toArray 28)
    have hg5 : w.heap.size < w3.heap.size := HS.out.lt
    have HS := Lib.hid (HS.out.below b5)
    have HB := Lib.hid (HB.out.trans (b5.mono HB.out.size))
    clear b5
    generalize w3.alloc (.cells (u8s (z8 20)).toArray 28) = Wg8 at *
    generalize w3.heap.size = g8 at *
    refine wpList_plain rfl fun K1 hK1 => wp_storec 28 (.tmp 8) (.tmp 37) rfl g8 0 20 rfl X1 rfl HX1L.out C5 (zero_of_info info20).2 (by simp [u8s, z8]) HX1o.out fun w6g8 C6 hch hsz => hK1 _ _ ?_
    clear hK1 K1
    rw [splice_all (by rw [HX1L.out]; simp [u8s, z8])] at C6
    have HS := Lib.hid (HS.out.chg hch (fun e => by omega))
    have HB := Lib.hid (HB.out.trans (hch.below HB.out.size (fun k hk => by omega)))
    have Hg8 := Lib.hid C6
    clear hch hsz C6 C5
    go_upto_region 12 with ((go_at_call 16; refine (write_any w.heap.size (b.take m2) A4 (m1 - m2) (cap - m2) ((b.drop m2).take (m1 - m2)) _ HS.out (by simp <;> omega) (by simp <;> omega) (by omega) (fun x hx => hb x (List.mem_of_mem_drop (List.mem_of_mem_take hx))) (HRA6.out.below HB.out) (fun h0 q hq => Nat.ne_of_lt (cut_block HRA6.out (by simp <;> omega) h0 hq))).mono ?_; rintro e w4 ⟨rfl, HSn, hw⟩))
    have hgl := HS.out.lt
    have hg8x := Hg8.out.lt
    have HB := Lib.hid (HB.out.trans (hw.of_ws HB.out.size (Nat.le_refl _)))
    have Hg8 := Lib.hid (Hg8.out.chg hw (fun h => by rcases h with h | h <;> omega))
    have HS : Hid (HSt w4 w.heap.size (b.take m1)) := by have h := HSn; show HSt _ _ _; rwa [← List.take_add, show m2 + (m1 - m2) = m1 by omega] at h
    clear hw HSn
    go_upto_region 13 with ((go_at_call 16; refine (write_any w.heap.size (b.take m1) none 0 0 ([]) _ HS.out (by simp <;> omega) (by simp <;> omega) (by omega) (fun x hx => by cases hx) (Rd.nil _ _ _) (fun h0 => absurd h0 (Nat.lt_irrefl 0))).mono ?_; rintro e w5 ⟨rfl, HSn, hw⟩))
    have hgl := HS.out.lt
    have hg8x := Hg8.out.lt
    have HB := Lib.hid (HB.out.trans (hw.of_ws HB.out.size (Nat.le_refl _)))
    have Hg8 := Lib.hid (Hg8.out.chg hw (fun h => by rcases h with h | h <;> omega))
    have HS : Hid (HSt w5 w.heap.size (b.take m1)) := by have h := HSn; show HSt _ _ _; rwa [List.append_nil] at h
    clear hw HSn
    refine wp_region_lit ?_
    refine wpList_plain rfl fun K1 hK1 => ?_
    go_simp
    refine hK1 _ _ ?_
    clear hK1 K1
    refine wpList_plain rfl fun K1 hK1 => ?_
    go_simp
    go_at_call 11
    refine (hsum_any w.heap.size _ _ HS.out (by simp; omega)).mono ?_
    rintro e w6 ⟨rfl, hb⟩
    go_simp
    rw [← HX2E.out]
    refine hK1 _ _ ?_
    clear hK1 K1
    have HS := Lib.hid (HS.out.below hb)
    have HB := Lib.hid (HB.out.trans (hb.mono HB.out.size))
    have Hg8 := Lib.hid (Hg8.out.below hb)
    clear hb
    refine wpList_plain rfl fun K1 hK1 => ?_
    go_simp
    refine hK1 _ _ ?_
    clear hK1 K1
    have C5 := CB.new w6 28 (u8s (z8 20))
    have b5 := (Below.refl w6.heap.size w6).alloc (Nat.le_refl _) (.cells (u8s (z8 20)).toArray 28)
    have hg5 : w.heap.size < w6.heap.size := HS.out.lt
    have hg8x : g8 < w6.heap.size := Hg8.out.lt
    have HS := Lib.hid (HS.out.below b5)
    have HB := Lib.hid (HB.out.trans (b5.mono HB.out.size))
    have Hg8 := Lib.hid (Hg8.out.below b5)
    clear b5
    generalize w6.alloc (.cells (u8s (z8 20)).toArray 28) = Wg9 at *
    generalize w6.heap.size = g9 at *
    refine wpList_plain rfl fun K1 hK1 => wp_storec 28 (.tmp 9) (.tmp 47) rfl g9 0 20 rfl X2 rfl HX2L.out C5 (zero_of_info info20).2 (by simp [u8s, z8]) HX2o.out fun w6g9 C6 hch hsz => hK1 _ _ ?_
    clear hK1 K1
    rw [splice_all (by rw [HX2L.out]; simp [u8s, z8])] at C6
    have HS := Lib.hid (HS.out.chg hch (fun e => by omega))
    have HB := Lib.hid (HB.out.trans (hch.below HB.out.size (fun k hk => by omega)))
    have Hg8 := Lib.hid (Hg8.out.chg hch (fun e => by omega))
    have Hg9 := Lib.hid C6
    clear hch hsz C6 C5
    go_upto_region 15 with ((go_at_call 16; refine (write_any w.heap.size (b.take m1) A2 (len - m1) (cap - m1) ((b.drop m1).take (len - m1)) _ HS.out (by simp <;> omega) (by simp <;> omega) (by omega) (fun x hx => hb x (List.mem_of_mem_drop (List.mem_of_mem_take hx))) (HRA2.out.below HB.out) (fun h0 q hq => Nat.ne_of_lt (cut_block HRA2.out (by simp <;> omega) h0 hq))).mono ?_; rintro e w7 ⟨rfl, HSn, hw⟩))
    have hgl := HS.out.lt
    have hg8x := Hg8.out.lt
    have hg9x := Hg9.out.lt
    have HB := Lib.hid (HB.out.trans (hw.of_ws HB.out.size (Nat.le_refl _)))
    have Hg8 := Lib.hid (Hg8.out.chg hw (fun h => by rcases h with h | h <;> omega))
    have Hg9 := Lib.hid (Hg9.out.chg hw (fun h => by rcases h with h | h <;> omega))
    have HS : Hid (HSt w7 w.heap.size (b)) := by have h := HSn; show HSt _ _ _; rwa [← List.take_add, show m1 + (len - m1) = len by omega, List.take_of_length_le (by omega)] at h
    clear hw HSn
    have HSS : Hid (w7.drew.rangeAt g8 0 X1 ∧ w7.drew.rangeAt g9 0 X2) := ⟨Hg8.out.range0, Hg9.out.range0⟩
    have HS : Hid (HSt w7.drew w.heap.size b) := HS.out
    have HB : Hid (Below w.heap.size w w7.drew) := HB.out.drew
    clear hgl hg8x hg9x
    refine wp_region_held (S := fun W => W.rangeAt g8 0 X1 ∧ W.rangeAt g9 0 X2) (by kernel_rfl) ?_
    change wpAnyH _ _ _ _ _ _ _ _ (World.drew _)
    go_simp
    refine wpAnyH_take (i := 0) (v := .agg X1.toArray) rfl (by kernel_rfl) (by kernel_rfl) (by kernel_rfl) (fun _ _ _ h => h) (yieldsIf_load_mid (by rfl) 28 (.tmp 8) rfl g8 0 (by go_simp) X1 _ (fun W h => h.1) Tryd.underlying28 rfl (by rw [(zero_of_info info20).2, HX1L.out])) HSS.out ?_
    refine wpAnyH_take (i := 1) (v := ?_) rfl (by kernel_rfl) (by kernel_rfl) (by kernel_rfl) (fun _ _ _ h => h) (Or.inl ⟨by rfl, ?_⟩) HSS.out ?_
    case refine_2 => (rintro W ⟨c0, c1⟩; go_simp; try (with_reducible rfl))
    refine wpAnyH_take (i := 2) (v := ?_) rfl (by kernel_rfl) (by kernel_rfl) (by kernel_rfl) (fun _ _ _ h => h) (Or.inl ⟨by rfl, ?_⟩) HSS.out ?_
    case refine_2 => (rintro W ⟨c0, c1⟩; go_simp; try (with_reducible rfl))
    refine wpAnyH_take (i := 3) (v := ?_) rfl (by kernel_rfl) (by kernel_rfl) (by kernel_rfl) (fun _ _ _ h => h) (Or.inl ⟨by rfl, ?_⟩) HSS.out ?_
    case refine_2 => (rintro W ⟨c0, c1⟩; go_simp; try (with_reducible rfl))
    refine wpAnyH_op (i := 4) (by kernel_rfl) rfl (by rfl) (fun K hK => ?_)
    go_simp
    go_at_call 19
    refine (ssum_any (some p) m2 _ (b.take m2) _ (by simp <;> omega) (by omega) (by omega) (fun x hx => hb x (List.mem_of_mem_take hx)) (rd_pre (HR0.out.below HB.out) m2) (HF0.out.below HB.out)).mono ?_
    rintro e w8 ⟨rfl, hb8⟩
    go_simp
    have HS := Lib.hid (HS.out.below hb8)
    have HSS := Lib.hid (And.intro (range_below HSS.out.1 hb8) (range_below HSS.out.2 hb8))
    have HB := Lib.hid (HB.out.trans (hb8.mono HB.out.size))
    rw [← HX1E.out]
    refine hK _ _ HSS.out ?_
    clear hK K hb8
    refine wpAnyH_take (i := 5) (v := ?_) rfl (by kernel_rfl) (by kernel_rfl) (by kernel_rfl) (fun _ _ _ h => h) (Or.inl ⟨by rfl, ?_⟩) HSS.out ?_
    case refine_2 => (rintro W ⟨c0, c1⟩; go_simp; try (with_reducible rfl))
    refine wpAnyH_take (i := 6) (v := ?_) rfl (by kernel_rfl) (by kernel_rfl) (by kernel_rfl) (fun _ _ _ h => h) (Or.inl ⟨by rfl, ?_⟩) HSS.out ?_
    case refine_2 => (rintro W ⟨c0, c1⟩; go_simp; try (with_reducible rfl))
    refine wpAnyH_take (i := 7) (v := .agg X2.toArray) rfl (by kernel_rfl) (by kernel_rfl) (by kernel_rfl) (fun _ _ _ h => h) (yieldsIf_load_mid (by rfl) 28 (.tmp 9) rfl g9 0 (by go_simp) X2 _ (fun W h => h.2) Tryd.underlying28 rfl (by rw [(zero_of_info info20).2, HX2L.out])) HSS.out ?_
    refine wpAnyH_take (i := 8) (v := ?_) rfl (by kernel_rfl) (by kernel_rfl) (by kernel_rfl) (fun _ _ _ h => h) (Or.inl ⟨by rfl, ?_⟩) HSS.out ?_
    case refine_2 => (rintro W ⟨c0, c1⟩; go_simp; try (with_reducible rfl))
    refine wpAnyH_take (i := 9) (v := ?_) rfl (by kernel_rfl) (by kernel_rfl) (by kernel_rfl) (fun _ _ _ h => h) (Or.inl ⟨by rfl, ?_⟩) HSS.out ?_
    case refine_2 => (rintro W ⟨c0, c1⟩; go_simp; try (with_reducible rfl))
    go_simp
    refine wpAnyH_take (i := 10) (v := ?_) rfl (by kernel_rfl) (by kernel_rfl) (by kernel_rfl) (fun _ _ _ h => h) (Or.inl ⟨by rfl, ?_⟩) HSS.out ?_
    case refine_2 => (rintro W ⟨c0, c1⟩; go_simp; try (with_reducible rfl))
    refine wpAnyH_op (i := 11) (by kernel_rfl) rfl (by rfl) (fun K hK => ?_)
    go_simp
    go_at_call 19
    refine (ssum_any (some p) m1 _ (b.take m1) _ (by simp <;> omega) (by omega) (by omega) (fun x hx => hb x (List.mem_of_mem_take hx)) (rd_pre (HR0.out.below HB.out) m1) (HF0.out.below HB.out)).mono ?_
    rintro e w9 ⟨rfl, hb9⟩
    go_simp
    have HS := Lib.hid (HS.out.below hb9)
    have HSS := Lib.hid (And.intro (range_below HSS.out.1 hb9) (range_below HSS.out.2 hb9))
    have HB := Lib.hid (HB.out.trans (hb9.mono HB.out.size))
    rw [← HX2E.out]
    refine hK _ _ HSS.out ?_
    clear hK K hb9
    refine wpAnyH_take (i := 12) (v := ?_) rfl (by kernel_rfl) (by kernel_rfl) (by kernel_rfl) (fun _ _ _ h => h) (Or.inl ⟨by rfl, ?_⟩) HSS.out ?_
    case refine_2 => (rintro W ⟨c0, c1⟩; go_simp; try (with_reducible rfl))
    refine wpAnyH_take (i := 13) (v := ?_) rfl (by kernel_rfl) (by kernel_rfl) (by kernel_rfl) (fun _ _ _ h => h) (Or.inl ⟨by rfl, ?_⟩) HSS.out ?_
    case refine_2 => (rintro W ⟨c0, c1⟩; go_simp; try (with_reducible rfl))
    refine wpAnyH_take (i := 14) (v := ?_) rfl (by kernel_rfl) (by kernel_rfl) (by kernel_rfl) (fun _ _ _ h => h) (Or.inl ⟨by rfl, ?_⟩) HSS.out ?_
    case refine_2 => (rintro W ⟨c0, c1⟩; go_simp; try (with_reducible rfl))
    refine wpAnyH_take (i := 15) (v := ?_) rfl (by kernel_rfl) (by kernel_rfl) (by kernel_rfl) (fun _ _ _ h => h) (Or.inl ⟨by rfl, ?_⟩) HSS.out ?_
    case refine_2 => (rintro W ⟨c0, c1⟩; go_simp; try (with_reducible rfl))
    refine wpAnyH_take (i := 17) (v := ?_) rfl (by kernel_rfl) (by kernel_rfl) (by kernel_rfl) (fun _ _ _ h => h) (Or.inl ⟨by rfl, ?_⟩) HSS.out ?_
    case refine_2 => (rintro W ⟨c0, c1⟩; go_simp; try (with_reducible rfl))
    go_simp
    refine wpAnyH_op (i := 16) (by kernel_rfl) rfl (by rfl) (fun K hK => ?_)
    go_simp
    go_at_call 11
    refine (hsum_any w.heap.size (b) _ HS.out (by omega)).mono ?_
    rintro e w10 ⟨rfl, hb10⟩
    go_simp
    have HS := Lib.hid (HS.out.below hb10)
    have HSS := Lib.hid (And.intro (range_below HSS.out.1 hb10) (range_below HSS.out.2 hb10))
    have HB := Lib.hid (HB.out.trans (hb10.mono HB.out.size))
    rw [← HX3E.out]
    refine hK _ _ HSS.out ?_
    clear hK K hb10
    refine wpAnyH_op (i := 18) (by kernel_rfl) rfl (by rfl) (fun K hK => ?_)
    go_simp
    go_at_call 19
    refine (ssum_any (some p) len _ (b) _ hl (by omega) (by omega) hb (HR0.out.below HB.out) (HF0.out.below HB.out)).mono ?_
    rintro e w11 ⟨rfl, hb11⟩
    go_simp
    have HS := Lib.hid (HS.out.below hb11)
    have HSS := Lib.hid (And.intro (range_below HSS.out.1 hb11) (range_below HSS.out.2 hb11))
    have HB := Lib.hid (HB.out.trans (hb11.mono HB.out.size))
    rw [← HX3E.out]
    refine hK _ _ HSS.out ?_
    clear hK K hb11
    refine wpAnyH_take (i := 19) (v := ?_) rfl (by kernel_rfl) (by kernel_rfl) (by kernel_rfl) (fun _ _ _ h => h) (Or.inl ⟨by rfl, ?_⟩) HSS.out ?_
    case refine_2 => (rintro W ⟨c0, c1⟩; go_simp; try (with_reducible rfl))
    refine wpAnyH_take (i := 20) (v := ?_) rfl (by kernel_rfl) (by kernel_rfl) (by kernel_rfl) (fun _ _ _ h => h) (Or.inl ⟨by rfl, ?_⟩) HSS.out ?_
    case refine_2 => (rintro W ⟨c0, c1⟩; go_simp; try (with_reducible rfl))
    refine wpAnyH_take (i := 21) (v := ?_) rfl (by kernel_rfl) (by kernel_rfl) (by kernel_rfl) (fun _ _ _ h => h) (Or.inl ⟨by rfl, ?_⟩) HSS.out ?_
    case refine_2 => (rintro W ⟨c0, c1⟩; go_simp; try (with_reducible rfl))
    refine wpAnyH_take (i := 22) (v := ?_) rfl (by kernel_rfl) (by kernel_rfl) (by kernel_rfl) (fun _ _ _ h => h) (Or.inl ⟨by rfl, ?_⟩) HSS.out ?_
    case refine_2 => (rintro W ⟨c0, c1⟩; go_simp; try (with_reducible rfl))
    refine wpAnyH_take (i := 24) (v := ?_) rfl (by kernel_rfl) (by kernel_rfl) (by kernel_rfl) (fun _ _ _ h => h) (Or.inl ⟨by rfl, ?_⟩) HSS.out ?_
    case refine_2 => (rintro W ⟨c0, c1⟩; go_simp; try (with_reducible rfl))
    go_simp
    refine wpAnyH_op (i := 23) (by kernel_rfl) rfl (by rfl) (fun K hK => ?_)
    go_simp
    go_at_call 11
    refine (hsum_any w.heap.size (b) _ HS.out (by omega)).mono ?_
    rintro e w12 ⟨rfl, hb12⟩
    go_simp
    have HS := Lib.hid (HS.out.below hb12)
    have HSS := Lib.hid (And.intro (range_below HSS.out.1 hb12) (range_below HSS.out.2 hb12))
    have HB := Lib.hid (HB.out.trans (hb12.mono HB.out.size))
    rw [← HX3E.out]
    refine hK _ _ HSS.out ?_
    clear hK K hb12
    refine wpAnyH_op (i := 25) (by kernel_rfl) rfl (by rfl) (fun K hK => ?_)
    go_simp
    go_at_call 19
    refine (ssum_any (some p) len _ (b) _ hl (by omega) (by omega) hb (HR0.out.below HB.out) (HF0.out.below HB.out)).mono ?_
    rintro e w13 ⟨rfl, hb13⟩
    go_simp
    have HS := Lib.hid (HS.out.below hb13)
    have HSS := Lib.hid (And.intro (range_below HSS.out.1 hb13) (range_below HSS.out.2 hb13))
    have HB := Lib.hid (HB.out.trans (hb13.mono HB.out.size))
    rw [← HX3E.out]
    refine hK _ _ HSS.out ?_
    clear hK K hb13
    refine wpAnyH_take (i := 26) (v := ?_) rfl (by kernel_rfl) (by kernel_rfl) (by kernel_rfl) (fun _ _ _ h => h) (Or.inl ⟨by rfl, ?_⟩) HSS.out ?_
    case refine_2 => (rintro W ⟨c0, c1⟩; go_simp; try (with_reducible rfl))
    refine wpAnyH_take (i := 27) (v := ?_) rfl (by kernel_rfl) (by kernel_rfl) (by kernel_rfl) (fun _ _ _ h => h) (Or.inl ⟨by rfl, ?_⟩) HSS.out ?_
    case refine_2 => (rintro W ⟨c0, c1⟩; go_simp; try (with_reducible rfl))
    refine wpAnyH_take (i := 28) (v := ?_) rfl (by kernel_rfl) (by kernel_rfl) (by kernel_rfl) (fun _ _ _ h => h) (Or.inl ⟨by rfl, ?_⟩) HSS.out ?_
    case refine_2 => (rintro W ⟨c0, c1⟩; go_simp; try (with_reducible rfl))
    go_simp
    refine wpAnyH_take (i := 29) (v := ?_) rfl (by kernel_rfl) (by kernel_rfl) (by kernel_rfl) (fun _ _ _ h => h) (Or.inl ⟨by rfl, ?_⟩) HSS.out ?_
    case refine_2 => (rintro W ⟨c0, c1⟩; go_simp; try (with_reducible rfl))
    refine wpAnyH_take (i := 31) (v := ?_) rfl (by kernel_rfl) (by kernel_rfl) (by kernel_rfl) (fun _ _ _ h => h) (Or.inl ⟨by rfl, ?_⟩) HSS.out ?_
    case refine_2 => (rintro W ⟨c0, c1⟩; go_simp; try (with_reducible rfl))
    refine wpAnyH_take (i := 32) (v := ?_) rfl (by kernel_rfl) (by kernel_rfl) (by kernel_rfl) (fun _ _ _ h => h) (Or.inl ⟨by rfl, ?_⟩) HSS.out ?_
    case refine_2 => (rintro W ⟨c0, c1⟩; go_simp; try (with_reducible rfl))
    refine wpAnyH_take (i := 33) (v := ?_) rfl (by kernel_rfl) (by kernel_rfl) (by kernel_rfl) (fun _ _ _ h => h) (Or.inl ⟨by rfl, ?_⟩) HSS.out ?_
    case refine_2 => (rintro W ⟨c0, c1⟩; go_simp; try (with_reducible rfl))
    go_simp
    refine wpAnyH_op (i := 30) (by kernel_rfl) rfl (by rfl) (fun K hK => ?_)
    go_simp
    go_at_call 18
    refine (len_any w.heap.size b _ HS.out).mono ?_
    rintro e w14 ⟨rfl, rfl⟩
    go_simp
    refine hK _ _ HSS.out ?_
    clear hK K
    refine wpAnyH_take (i := 34) (v := ?_) rfl (by kernel_rfl) (by kernel_rfl) (by kernel_rfl) (fun _ _ _ h => h) (Or.inl ⟨by rfl, ?_⟩) HSS.out ?_
    case refine_2 => (rintro W ⟨c0, c1⟩; go_simp; try (with_reducible rfl))
    refine wpAnyH_take (i := 35) (v := ?_) rfl (by kernel_rfl) (by kernel_rfl) (by kernel_rfl) (fun _ _ _ h => h) (Or.inl ⟨by rfl, ?_⟩) HSS.out ?_
    case refine_2 => (rintro W ⟨c0, c1⟩; go_simp; try (with_reducible rfl))
    refine wpAnyH_done (by kernel_rfl) ?_ _
    go_simp
    clear HSS Hg8 Hg9
    go_upto_region 18 with ((go_at_call 13; refine (reset_any w.heap.size b _ HS.out (HF0.out.below HB.out)).mono ?_; rintro e w15 ⟨rfl, HSn, hw⟩))
    have HB := Lib.hid (HB.out.trans (hw.of_ws HB.out.size (Nat.le_refl _)))
    have HS := Lib.hid HSn
    clear hw HSn
    go_upto_region 19 with ((go_at_call 16; refine (write_any w.heap.size ([]) A4 (len - m2) (cap - m2) ((b.drop m2).take (len - m2)) _ HS.out (by simp <;> omega) (by simp <;> omega) (by omega) (fun x hx => hb x (List.mem_of_mem_drop (List.mem_of_mem_take hx))) (HRA4.out.below HB.out) (fun h0 q hq => Nat.ne_of_lt (cut_block HRA4.out (by simp <;> omega) h0 hq))).mono ?_; rintro e w16 ⟨rfl, HSn, hw⟩))
    have hgl := HS.out.lt
    have HB := Lib.hid (HB.out.trans (hw.of_ws HB.out.size (Nat.le_refl _)))
    have HS : Hid (HSt w16 w.heap.size (b.drop m2)) := by have h := HSn; show HSt _ _ _; rwa [List.nil_append, List.take_of_length_le (by simp <;> omega)] at h
    clear hw HSn
    have HRA5 : Hid (Rd .u8 w A4 (b.drop m2)) := by have h := HRA4.out; show Rd _ _ _ _; rwa [List.take_of_length_le (by simp <;> omega)] at h
    have HSS : Hid True := trivial
    have HS : Hid (HSt w16.drew w.heap.size (b.drop m2)) := HS.out
    have HB : Hid (Below w.heap.size w w16.drew) := HB.out.drew
    refine wp_region_held (S := fun _ => True) (by kernel_rfl) ?_
    change wpAnyH _ _ _ _ _ _ _ _ (World.drew _)
    go_simp
    refine wpAnyH_take (i := 0) (v := ?_) rfl (by kernel_rfl) (by kernel_rfl) (by kernel_rfl) (fun _ _ _ h => h) (Or.inl ⟨by rfl, ?_⟩) HSS.out ?_
    case refine_2 => (rintro W -; go_simp; try (with_reducible rfl))
    refine wpAnyH_take (i := 2) (v := ?_) rfl (by kernel_rfl) (by kernel_rfl) (by kernel_rfl) (fun _ _ _ h => h) (Or.inl ⟨by rfl, ?_⟩) HSS.out ?_
    case refine_2 => (rintro W -; go_simp; try (with_reducible rfl))
    refine wpAnyH_take (i := 3) (v := ?_) rfl (by kernel_rfl) (by kernel_rfl) (by kernel_rfl) (fun _ _ _ h => h) (Or.inl ⟨by rfl, ?_⟩) HSS.out ?_
    case refine_2 => (rintro W -; go_simp; try (with_reducible rfl))
    refine wpAnyH_take (i := 4) (v := ?_) rfl (by kernel_rfl) (by kernel_rfl) (by kernel_rfl) (fun _ _ _ h => h) (Or.inl ⟨by rfl, ?_⟩) HSS.out ?_
    case refine_2 => (rintro W -; go_simp; try (with_reducible rfl))
    go_simp
    refine wpAnyH_op (i := 1) (by kernel_rfl) rfl (by rfl) (fun K hK => ?_)
    go_simp
    go_at_call 11
    refine (hsum_any w.heap.size (b.drop m2) _ HS.out (by simp <;> omega)).mono ?_
    rintro e w17 ⟨rfl, hb17⟩
    go_simp
    rw [← HX4E.out]
    have HB := Lib.hid (HB.out.trans (hb17.mono HB.out.size))
    refine hK _ _ HSS.out ?_
    clear hK K hb17
    refine wpAnyH_op (i := 5) (by kernel_rfl) rfl (by rfl) (fun K hK => ?_)
    go_simp
    go_at_call 19
    refine (ssum_any A4 (len - m2) _ (b.drop m2) _ (by simp <;> omega) (by omega) (by omega) (fun x hx => hb x (List.mem_of_mem_drop hx)) (HRA5.out.below HB.out) (HF0.out.below HB.out)).mono ?_
    rintro e w18 ⟨rfl, hb18⟩
    go_simp
    rw [← HX4E.out]
    have HB := Lib.hid (HB.out.trans (hb18.mono HB.out.size))
    refine hK _ _ HSS.out ?_
    clear hK K hb18
    refine wpAnyH_take (i := 6) (v := ?_) rfl (by kernel_rfl) (by kernel_rfl) (by kernel_rfl) (fun _ _ _ h => h) (Or.inl ⟨by rfl, ?_⟩) HSS.out ?_
    case refine_2 => (rintro W -; go_simp; try (with_reducible rfl))
    refine wpAnyH_take (i := 7) (v := ?_) rfl (by kernel_rfl) (by kernel_rfl) (by kernel_rfl) (fun _ _ _ h => h) (Or.inl ⟨by rfl, ?_⟩) HSS.out ?_
    case refine_2 => (rintro W -; go_simp; try (with_reducible rfl))
    refine wpAnyH_op (i := 8) (by kernel_rfl) rfl (by rfl) (fun K hK => ?_)
    go_simp
    go_at_call 14
    refine (works5_any _ (HF0.out.below HB.out)).mono ?_
    rintro e w19 ⟨rfl, hb19⟩
    go_simp
    have HB := Lib.hid (HB.out.trans (hb19.mono HB.out.size))
    refine hK _ _ HSS.out ?_
    clear hK K hb19
    refine wpAnyH_take (i := 9) (v := ?_) rfl (by kernel_rfl) (by kernel_rfl) (by kernel_rfl) (fun _ _ _ h => h) (Or.inl ⟨by rfl, ?_⟩) HSS.out ?_
    case refine_2 => (rintro W -; go_simp; try (with_reducible rfl))
    refine wpAnyH_take (i := 10) (v := ?_) rfl (by kernel_rfl) (by kernel_rfl) (by kernel_rfl) (fun _ _ _ h => h) (Or.inl ⟨by rfl, ?_⟩) HSS.out ?_
    case refine_2 => (rintro W -; go_simp; try (with_reducible rfl))
    refine wpAnyH_done (by kernel_rfl) ?_ _
    go_simp
    go_wp2
    go_ret
    exact ⟨rfl, HB.out⟩
  · have hd : decide ((m2 : Int) < (m1 : Int)) = false := decide_eq_false (by omega)
    have hik : m1 ≤ m2 := by omega
    go_upto_region 6 with fail
    clear hgt hd
    obtain ⟨X1, hX1⟩ : ∃ X1, X1 = shaC (b.take m1) := ⟨_, rfl⟩
    have HX1E := Lib.hid hX1
    have HX1L : Hid (X1.length = 20) := by show _ = _; rw [hX1]; exact bcells_len _
    have HX1o : Hid (∀ v ∈ X1, v.oneCell' = true) := by show ∀ v ∈ X1, _; rw [hX1]; exact bcells_one _
    have EX1 : ∀ W, (binOp .neq 28 (.agg X1.toArray) (.agg X1.toArray)).run Tryd.prog W = .ok (.bool false) W := fun W => by
      rw [hX1]; exact (neq20 (bytes20 (sha5 (b.take m1))) (bytes20 (sha5 (b.take m1))) (by simp [bytes20]) (by simp [bytes20]) W).trans (by simp)
    have QX1 : ∀ W, (binOp .eql 28 (.agg X1.toArray) (.agg X1.toArray)).run Tryd.prog W = .ok (.bool true) W := fun W => by
      rw [hX1]; exact (eql20 (bytes20 (sha5 (b.take m1))) (bytes20 (sha5 (b.take m1))) (by simp [bytes20]) (by simp [bytes20]) W).trans (by simp)
    clear hX1
    obtain ⟨X2, hX2⟩ : ∃ X2, X2 = shaC (b.take m2) := ⟨_, rfl⟩
    have HX2E := Lib.hid hX2
    have HX2L : Hid (X2.length = 20) := by show _ = _; rw [hX2]; exact bcells_len _
    have HX2o : Hid (∀ v ∈ X2, v.oneCell' = true) := by show ∀ v ∈ X2, _; rw [hX2]; exact bcells_one _
    have EX2 : ∀ W, (binOp .neq 28 (.agg X2.toArray) (.agg X2.toArray)).run Tryd.prog W = .ok (.bool false) W := fun W => by
      rw [hX2]; exact (neq20 (bytes20 (sha5 (b.take m2))) (bytes20 (sha5 (b.take m2))) (by simp [bytes20]) (by simp [bytes20]) W).trans (by simp)
    have QX2 : ∀ W, (binOp .eql 28 (.agg X2.toArray) (.agg X2.toArray)).run Tryd.prog W = .ok (.bool true) W := fun W => by
      rw [hX2]; exact (eql20 (bytes20 (sha5 (b.take m2))) (bytes20 (sha5 (b.take m2))) (by simp [bytes20]) (by simp [bytes20]) W).trans (by simp)
    clear hX2
    obtain ⟨X3, hX3⟩ : ∃ X3, X3 = shaC (b) := ⟨_, rfl⟩
    have HX3E := Lib.hid hX3
    have HX3L : Hid (X3.length = 20) := by show _ = _; rw [hX3]; exact bcells_len _
    have HX3o : Hid (∀ v ∈ X3, v.oneCell' = true) := by show ∀ v ∈ X3, _; rw [hX3]; exact bcells_one _
    have EX3 : ∀ W, (binOp .neq 28 (.agg X3.toArray) (.agg X3.toArray)).run Tryd.prog W = .ok (.bool false) W := fun W => by
      rw [hX3]; exact (neq20 (bytes20 (sha5 (b))) (bytes20 (sha5 (b))) (by simp [bytes20]) (by simp [bytes20]) W).trans (by simp)
    have QX3 : ∀ W, (binOp .eql 28 (.agg X3.toArray) (.agg X3.toArray)).run Tryd.prog W = .ok (.bool true) W := fun W => by
      rw [hX3]; exact (eql20 (bytes20 (sha5 (b))) (bytes20 (sha5 (b))) (by simp [bytes20]) (by simp [bytes20]) W).trans (by simp)
    clear hX3
    obtain ⟨X4, hX4⟩ : ∃ X4, X4 = shaC (b.drop m1) := ⟨_, rfl⟩
    have HX4E := Lib.hid hX4
    have HX4L : Hid (X4.length = 20) := by show _ = _; rw [hX4]; exact bcells_len _
    have HX4o : Hid (∀ v ∈ X4, v.oneCell' = true) := by show ∀ v ∈ X4, _; rw [hX4]; exact bcells_one _
    have EX4 : ∀ W, (binOp .neq 28 (.agg X4.toArray) (.agg X4.toArray)).run Tryd.prog W = .ok (.bool false) W := fun W => by
      rw [hX4]; exact (neq20 (bytes20 (sha5 (b.drop m1))) (bytes20 (sha5 (b.drop m1))) (by simp [bytes20]) (by simp [bytes20]) W).trans (by simp)
    have QX4 : ∀ W, (binOp .eql 28 (.agg X4.toArray) (.agg X4.toArray)).run Tryd.prog W = .ok (.bool true) W := fun W => by
      rw [hX4]; exact (eql20 (bytes20 (sha5 (b.drop m1))) (bytes20 (sha5 (b.drop m1))) (by simp [bytes20]) (by simp [bytes20]) W).trans (by simp)
    clear hX4
    go_upto_region 9 with ((go_at_call 10; refine (new_any _ HF0.out).mono ?_; rintro e w1 ⟨rfl, S1, hb1⟩))
    have HS := Lib.hid S1
    have HB := Lib.hid hb1
    clear S1 hb1
    obtain ⟨A2, hA2⟩ : ∃ A2 : Option Addr, (if cap = m2 then some p else some (p.add m2)) = A2 := ⟨_, rfl⟩
    obtain ⟨A4, hA4⟩ : ∃ A4 : Option Addr, (if cap = m1 then some p else some (p.add m1)) = A4 := ⟨_, rfl⟩
    have HRA2 : Hid (Rd .u8 w A2 ((b.drop m2).take (len - m2))) := by show Rd _ _ _ _; rw [← hA2]; exact rd_cut HR0.out hl hcap _ _ (by omega)
    have HRA4 : Hid (Rd .u8 w A4 ((b.drop m1).take (len - m1))) := by show Rd _ _ _ _; rw [← hA4]; exact rd_cut HR0.out hl hcap _ _ (by omega)
    have HRA6 : Hid (Rd .u8 w A4 ((b.drop m1).take (m2 - m1))) := by show Rd _ _ _ _; rw [← hA4]; exact rd_cut HR0.out hl hcap _ _ (by omega)
    have hu : IntKind.u64.wrap (len : Int) = (len : Int) := by rw [IntKind.wrap_u64]; omega
    have hic : m1 ≤ cap := by omega
    have hkc : m2 ≤ cap := by omega
    go_upto_region 10 with ((go_at_call 16; refine (write_any w.heap.size ([]) (some p) m1 cap (b.take m1) _ HS.out (by simp <;> omega) (by simp <;> omega) (by omega) (fun x hx => hb x (List.mem_of_mem_take hx)) (rd_pre (HR0.out.below HB.out) m1) (fun h0 q hq => Nat.ne_of_lt (cut_block (rd_pre HR0.out m1) (by simp <;> omega) h0 hq))).mono ?_; rintro e w2 ⟨rfl, HSn, hw⟩))
    have hgl := HS.out.lt
    have HB := Lib.hid (HB.out.trans (hw.of_ws HB.out.size (Nat.le_refl _)))
    have HS : Hid (HSt w2 w.heap.size (b.take m1)) := by have h := HSn; show HSt _ _ _; exact h
    clear hw HSn
    refine wp_region_lit ?_
    refine wpList_plain rfl fun K1 hK1 => ?_
    go_simp
    refine hK1 _ _ ?_
    clear hK1 K1
    refine wpList_plain rfl fun K1 hK1 => ?_
    go_simp
    go_at_call 11
    refine (hsum_any w.heap.size _ _ HS.out (by simp; omega)).mono ?_
    rintro e w3 ⟨rfl, hb⟩
    go_simp
    rw [← HX1E.out]
    refine hK1 _ _ ?_
    clear hK1 K1
    have HS := Lib.hid (HS.out.below hb)
    have HB := Lib.hid (HB.out.trans (hb.mono HB.out.size))
    clear hb
    refine wpList_plain rfl fun K1 hK1 => ?_
    go_simp
    refine hK1 _ _ ?_
    clear hK1 K1
    have C5 := CB.new w3 28 (u8s (z8 20))
    have b5 := (Below.refl w3.heap.size w3).alloc (Nat.le_refl _) (.cells (u8s (z8 20)).toArray 28)
    have hg5 : w.heap.size < w3.heap.size := HS.out.lt
    have HS := Lib.hid (HS.out.below b5)
    have HB := Lib.hid (HB.out.trans (b5.mono HB.out.size))
    clear b5
    generalize w3.alloc (.cells (u8s (z8 20)).toArray 28) = Wg8 at *
    generalize w3.heap.size = g8 at *
    refine wpList_plain rfl fun K1 hK1 => wp_storec 28 (.tmp 8) (.tmp 37) rfl g8 0 20 rfl X1 rfl HX1L.out C5 (zero_of_info info20).2 (by simp [u8s, z8]) HX1o.out fun w6g8 C6 hch hsz => hK1 _ _ ?_
    clear hK1 K1
    rw [splice_all (by rw [HX1L.out]; simp [u8s, z8])] at C6
    have HS := Lib.hid (HS.out.chg hch (fun e => by omega))
    have HB := Lib.hid (HB.out.trans (hch.below HB.out.size (fun k hk => by omega)))
    have Hg8 := Lib.hid C6
    clear hch hsz C6 C5
    go_upto_region 12 with ((go_at_call 16; refine (write_any w.heap.size (b.take m1) A4 (m2 - m1) (cap - m1) ((b.drop m1).take (m2 - m1)) _ HS.out (by simp <;> omega) (by simp <;> omega) (by omega) (fun x hx => hb x (List.mem_of_mem_drop (List.mem_of_mem_take hx))) (HRA6.out.below HB.out) (fun h0 q hq => Nat.ne_of_lt (cut_block HRA6.out (by simp <;> omega) h0 hq))).mono ?_; rintro e w4 ⟨rfl, HSn, hw⟩))
    have hgl := HS.out.lt
    have hg8x := Hg8.out.lt
    have HB := Lib.hid (HB.out.trans (hw.of_ws HB.out.size (Nat.le_refl _)))
    have Hg8 := Lib.hid (Hg8.out.chg hw (fun h => by rcases h with h | h <;> omega))
    have HS : Hid (HSt w4 w.heap.size (b.take m2)) := by have h := HSn; show HSt _ _ _; rwa [← List.take_add, show m1 + (m2 - m1) = m2 by omega] at h
    clear hw HSn
    go_upto_region 13 with ((go_at_call 16; refine (write_any w.heap.size (b.take m2) none 0 0 ([]) _ HS.out (by simp <;> omega) (by simp <;> omega) (by omega) (fun x hx => by cases hx) (Rd.nil _ _ _) (fun h0 => absurd h0 (Nat.lt_irrefl 0))).mono ?_; rintro e w5 ⟨rfl, HSn, hw⟩))
    have hgl := HS.out.lt
    have hg8x := Hg8.out.lt
    have HB := Lib.hid (HB.out.trans (hw.of_ws HB.out.size (Nat.le_refl _)))
    have Hg8 := Lib.hid (Hg8.out.chg hw (fun h => by rcases h with h | h <;> omega))
    have HS : Hid (HSt w5 w.heap.size (b.take m2)) := by have h := HSn; show HSt _ _ _; rwa [List.append_nil] at h
    clear hw HSn
    refine wp_region_lit ?_
    refine wpList_plain rfl fun K1 hK1 => ?_
    go_simp
    refine hK1 _ _ ?_
    clear hK1 K1
    refine wpList_plain rfl fun K1 hK1 => ?_
    go_simp
    go_at_call 11
    refine (hsum_any w.heap.size _ _ HS.out (by simp; omega)).mono ?_
    rintro e w6 ⟨rfl, hb⟩
    go_simp
    rw [← HX2E.out]
    refine hK1 _ _ ?_
    clear hK1 K1
    have HS := Lib.hid (HS.out.below hb)
    have HB := Lib.hid (HB.out.trans (hb.mono HB.out.size))
    have Hg8 := Lib.hid (Hg8.out.below hb)
    clear hb
    refine wpList_plain rfl fun K1 hK1 => ?_
    go_simp
    refine hK1 _ _ ?_
    clear hK1 K1
    have C5 := CB.new w6 28 (u8s (z8 20))
    have b5 := (Below.refl w6.heap.size w6).alloc (Nat.le_refl _) (.cells (u8s (z8 20)).toArray 28)
    have hg5 : w.heap.size < w6.heap.size := HS.out.lt
    have hg8x : g8 < w6.heap.size := Hg8.out.lt
    have HS := Lib.hid (HS.out.below b5)
    have HB := Lib.hid (HB.out.trans (b5.mono HB.out.size))
    have Hg8 := Lib.hid (Hg8.out.below b5)
    clear b5
    generalize w6.alloc (.cells (u8s (z8 20)).toArray 28) = Wg9 at *
    generalize w6.heap.size = g9 at *
    refine wpList_plain rfl fun K1 hK1 => wp_storec 28 (.tmp 9) (.tmp 47) rfl g9 0 20 rfl X2 rfl HX2L.out C5 (zero_of_info info20).2 (by simp [u8s, z8]) HX2o.out fun w6g9 C6 hch hsz => hK1 _ _ ?_
    clear hK1 K1
    rw [splice_all (by rw [HX2L.out]; simp [u8s, z8])] at C6
    have HS := Lib.hid (HS.out.chg hch (fun e => by omega))
    have HB := Lib.hid (HB.out.trans (hch.below HB.out.size (fun k hk => by omega)))
    have Hg8 := Lib.hid (Hg8.out.chg hch (fun e => by omega))
    have Hg9 := Lib.hid C6
    clear hch hsz C6 C5
    go_upto_region 15 with ((go_at_call 16; refine (write_any w.heap.size (b.take m2) A2 (len - m2) (cap - m2) ((b.drop m2).take (len - m2)) _ HS.out (by simp <;> omega) (by simp <;> omega) (by omega) (fun x hx => hb x (List.mem_of_mem_drop (List.mem_of_mem_take hx))) (HRA2.out.below HB.out) (fun h0 q hq => Nat.ne_of_lt (cut_block HRA2.out (by simp <;> omega) h0 hq))).mono ?_; rintro e w7 ⟨rfl, HSn, hw⟩))
    have hgl := HS.out.lt
    have hg8x := Hg8.out.lt
    have hg9x := Hg9.out.lt
    have HB := Lib.hid (HB.out.trans (hw.of_ws HB.out.size (Nat.le_refl _)))
    have Hg8 := Lib.hid (Hg8.out.chg hw (fun h => by rcases h with h | h <;> omega))
    have Hg9 := Lib.hid (Hg9.out.chg hw (fun h => by rcases h with h | h <;> omega))
    have HS : Hid (HSt w7 w.heap.size (b)) := by have h := HSn; show HSt _ _ _; rwa [← List.take_add, show m2 + (len - m2) = len by omega, List.take_of_length_le (by omega)] at h
    clear hw HSn
    have HSS : Hid (w7.drew.rangeAt g8 0 X1 ∧ w7.drew.rangeAt g9 0 X2) := ⟨Hg8.out.range0, Hg9.out.range0⟩
    have HS : Hid (HSt w7.drew w.heap.size b) := HS.out
    have HB : Hid (Below w.heap.size w w7.drew) := HB.out.drew
    clear hgl hg8x hg9x
    refine wp_region_held (S := fun W => W.rangeAt g8 0 X1 ∧ W.rangeAt g9 0 X2) (by kernel_rfl) ?_
    change wpAnyH _ _ _ _ _ _ _ _ (World.drew _)
    go_simp
    refine wpAnyH_take (i := 0) (v := .agg X1.toArray) rfl (by kernel_rfl) (by kernel_rfl) (by kernel_rfl) (fun _ _ _ h => h) (yieldsIf_load_mid (by rfl) 28 (.tmp 8) rfl g8 0 (by go_simp) X1 _ (fun W h => h.1) Tryd.underlying28 rfl (by rw [(zero_of_info info20).2, HX1L.out])) HSS.out ?_
    refine wpAnyH_take (i := 1) (v := ?_) rfl (by kernel_rfl) (by kernel_rfl) (by kernel_rfl) (fun _ _ _ h => h) (Or.inl ⟨by rfl, ?_⟩) HSS.out ?_
    case refine_2 => (rintro W ⟨c0, c1⟩; go_simp; try (with_reducible rfl))
    refine wpAnyH_take (i := 2) (v := ?_) rfl (by kernel_rfl) (by kernel_rfl) (by kernel_rfl) (fun _ _ _ h => h) (Or.inl ⟨by rfl, ?_⟩) HSS.out ?_
    case refine_2 => (rintro W ⟨c0, c1⟩; go_simp; try (with_reducible rfl))
    refine wpAnyH_take (i := 3) (v := ?_) rfl (by kernel_rfl) (by kernel_rfl) (by kernel_rfl) (fun _ _ _ h => h) (Or.inl ⟨by rfl, ?_⟩) HSS.out ?_
    case refine_2 => (rintro W ⟨c0, c1⟩; go_simp; try (with_reducible rfl))
    refine wpAnyH_op (i := 4) (by kernel_rfl) rfl (by rfl) (fun K hK => ?_)
    go_simp
    go_at_call 19
    refine (ssum_any (some p) m1 _ (b.take m1) _ (by simp <;> omega) (by omega) (by omega) (fun x hx => hb x (List.mem_of_mem_take hx)) (rd_pre (HR0.out.below HB.out) m1) (HF0.out.below HB.out)).mono ?_
    rintro e w8 ⟨rfl, hb8⟩
    go_simp
    have HS := Lib.hid (HS.out.below hb8)
    have HSS := Lib.hid (And.intro (range_below HSS.out.1 hb8) (range_below HSS.out.2 hb8))
    have HB := Lib.hid (HB.out.trans (hb8.mono HB.out.size))
    rw [← HX1E.out]
    refine hK _ _ HSS.out ?_
    clear hK K hb8
    refine wpAnyH_take (i := 5) (v := ?_) rfl (by kernel_rfl) (by kernel_rfl) (by kernel_rfl) (fun _ _ _ h => h) (Or.inl ⟨by rfl, ?_⟩) HSS.out ?_
    case refine_2 => (rintro W ⟨c0, c1⟩; go_simp; try (with_reducible rfl))
    refine wpAnyH_take (i := 6) (v := ?_) rfl (by kernel_rfl) (by kernel_rfl) (by kernel_rfl) (fun _ _ _ h => h) (Or.inl ⟨by rfl, ?_⟩) HSS.out ?_
    case refine_2 => (rintro W ⟨c0, c1⟩; go_simp; try (with_reducible rfl))
    refine wpAnyH_take (i := 7) (v := .agg X2.toArray) rfl (by kernel_rfl) (by kernel_rfl) (by kernel_rfl) (fun _ _ _ h => h) (yieldsIf_load_mid (by rfl) 28 (.tmp 9) rfl g9 0 (by go_simp) X2 _ (fun W h => h.2) Tryd.underlying28 rfl (by rw [(zero_of_info info20).2, HX2L.out])) HSS.out ?_
    refine wpAnyH_take (i := 8) (v := ?_) rfl (by kernel_rfl) (by kernel_rfl) (by kernel_rfl) (fun _ _ _ h => h) (Or.inl ⟨by rfl, ?_⟩) HSS.out ?_
    case refine_2 => (rintro W ⟨c0, c1⟩; go_simp; try (with_reducible rfl))
    refine wpAnyH_take (i := 9) (v := ?_) rfl (by kernel_rfl) (by kernel_rfl) (by kernel_rfl) (fun _ _ _ h => h) (Or.inl ⟨by rfl, ?_⟩) HSS.out ?_
    case refine_2 => (rintro W ⟨c0, c1⟩; go_simp; try (with_reducible rfl))
    go_simp
    refine wpAnyH_take (i := 10) (v := ?_) rfl (by kernel_rfl) (by kernel_rfl) (by kernel_rfl) (fun _ _ _ h => h) (Or.inl ⟨by rfl, ?_⟩) HSS.out ?_
    case refine_2 => (rintro W ⟨c0, c1⟩; go_simp; try (with_reducible rfl))
    refine wpAnyH_op (i := 11) (by kernel_rfl) rfl (by rfl) (fun K hK => ?_)
    go_simp
    go_at_call 19
    refine (ssum_any (some p) m2 _ (b.take m2) _ (by simp <;> omega) (by omega) (by omega) (fun x hx => hb x (List.mem_of_mem_take hx)) (rd_pre (HR0.out.below HB.out) m2) (HF0.out.below HB.out)).mono ?_
    rintro e w9 ⟨rfl, hb9⟩
    go_simp
    have HS := Lib.hid (HS.out.below hb9)
    have HSS := Lib.hid (And.intro (range_below HSS.out.1 hb9) (range_below HSS.out.2 hb9))
    have HB := Lib.hid (HB.out.trans (hb9.mono HB.out.size))
    rw [← HX2E.out]
    refine hK _ _ HSS.out ?_
    clear hK K hb9
    refine wpAnyH_take (i := 12) (v := ?_) rfl (by kernel_rfl) (by kernel_rfl) (by kernel_rfl) (fun _ _ _ h => h) (Or.inl ⟨by rfl, ?_⟩) HSS.out ?_
    case refine_2 => (rintro W ⟨c0, c1⟩; go_simp; try (with_reducible rfl))
    refine wpAnyH_take (i := 13) (v := ?_) rfl (by kernel_rfl) (by kernel_rfl) (by kernel_rfl) (fun _ _ _ h => h) (Or.inl ⟨by rfl, ?_⟩) HSS.out ?_
    case refine_2 => (rintro W ⟨c0, c1⟩; go_simp; try (with_reducible rfl))
    refine wpAnyH_take (i := 14) (v := ?_) rfl (by kernel_rfl) (by kernel_rfl) (by kernel_rfl) (fun _ _ _ h => h) (Or.inl ⟨by rfl, ?_⟩) HSS.out ?_
    case refine_2 => (rintro W ⟨c0, c1⟩; go_simp; try (with_reducible rfl))
    refine wpAnyH_take (i := 15) (v := ?_) rfl (by kernel_rfl) (by kernel_rfl) (by kernel_rfl) (fun _ _ _ h => h) (Or.inl ⟨by rfl, ?_⟩) HSS.out ?_
    case refine_2 => (rintro W ⟨c0, c1⟩; go_simp; try (with_reducible rfl))
    refine wpAnyH_take (i := 17) (v := ?_) rfl (by kernel_rfl) (by kernel_rfl) (by kernel_rfl) (fun _ _ _ h => h) (Or.inl ⟨by rfl, ?_⟩) HSS.out ?_
    case refine_2 => (rintro W ⟨c0, c1⟩; go_simp; try (with_reducible rfl))
    go_simp
    refine wpAnyH_op (i := 16) (by kernel_rfl) rfl (by rfl) (fun K hK => ?_)
    go_simp
    go_at_call 11
    refine (hsum_any w.heap.size (b) _ HS.out (by omega)).mono ?_
    rintro e w10 ⟨rfl, hb10⟩
    go_simp
    have HS := Lib.hid (HS.out.below hb10)
    have HSS := Lib.hid (And.intro (range_below HSS.out.1 hb10) (range_below HSS.out.2 hb10))
    have HB := Lib.hid (HB.out.trans (hb10.mono HB.out.size))
    rw [← HX3E.out]
    refine hK _ _ HSS.out ?_
    clear hK K hb10
    refine wpAnyH_op (i := 18) (by kernel_rfl) rfl (by rfl) (fun K hK => ?_)
    go_simp
    go_at_call 19
    refine (ssum_any (some p) len _ (b) _ hl (by omega) (by omega) hb (HR0.out.below HB.out) (HF0.out.below HB.out)).mono ?_
    rintro e w11 ⟨rfl, hb11⟩
    go_simp
    have HS := Lib.hid (HS.out.below hb11)
    have HSS := Lib.hid (And.intro (range_below HSS.out.1 hb11) (range_below HSS.out.2 hb11))
    have HB := Lib.hid (HB.out.trans (hb11.mono HB.out.size))
    rw [← HX3E.out]
    refine hK _ _ HSS.out ?_
    clear hK K hb11
    refine wpAnyH_take (i := 19) (v := ?_) rfl (by kernel_rfl) (by kernel_rfl) (by kernel_rfl) (fun _ _ _ h => h) (Or.inl ⟨by rfl, ?_⟩) HSS.out ?_
    case refine_2 => (rintro W ⟨c0, c1⟩; go_simp; try (with_reducible rfl))
    refine wpAnyH_take (i := 20) (v := ?_) rfl (by kernel_rfl) (by kernel_rfl) (by kernel_rfl) (fun _ _ _ h => h) (Or.inl ⟨by rfl, ?_⟩) HSS.out ?_
    case refine_2 => (rintro W ⟨c0, c1⟩; go_simp; try (with_reducible rfl))
    refine wpAnyH_take (i := 21) (v := ?_) rfl (by kernel_rfl) (by kernel_rfl) (by kernel_rfl) (fun _ _ _ h => h) (Or.inl ⟨by rfl, ?_⟩) HSS.out ?_
    case refine_2 => (rintro W ⟨c0, c1⟩; go_simp; try (with_reducible rfl))
    refine wpAnyH_take (i := 22) (v := ?_) rfl (by kernel_rfl) (by kernel_rfl) (by kernel_rfl) (fun _ _ _ h => h) (Or.inl ⟨by rfl, ?_⟩) HSS.out ?_
    case refine_2 => (rintro W ⟨c0, c1⟩; go_simp; try (with_reducible rfl))
    refine wpAnyH_take (i := 24) (v := ?_) rfl (by kernel_rfl) (by kernel_rfl) (by kernel_rfl) (fun _ _ _ h => h) (Or.inl ⟨by rfl, ?_⟩) HSS.out ?_
    case refine_2 => (rintro W ⟨c0, c1⟩; go_simp; try (with_reducible rfl))
    go_simp
    refine wpAnyH_op (i := 23) (by kernel_rfl) rfl (by rfl) (fun K hK => ?_)
    go_simp
    go_at_call 11
    refine (hsum_any w.heap.size (b) _ HS.out (by omega)).mono ?_
    rintro e w12 ⟨rfl, hb12⟩
    go_simp
    have HS := Lib.hid (HS.out.below hb12)
    have HSS := Lib.hid (And.intro (range_below HSS.out.1 hb12) (range_below HSS.out.2 hb12))
    have HB := Lib.hid (HB.out.trans (hb12.mono HB.out.size))
    rw [← HX3E.out]
    refine hK _ _ HSS.out ?_
    clear hK K hb12
    refine wpAnyH_op (i := 25) (by kernel_rfl) rfl (by rfl) (fun K hK => ?_)
    go_simp
    go_at_call 19
    refine (ssum_any (some p) len _ (b) _ hl (by omega) (by omega) hb (HR0.out.below HB.out) (HF0.out.below HB.out)).mono ?_
    rintro e w13 ⟨rfl, hb13⟩
    go_simp
    have HS := Lib.hid (HS.out.below hb13)
    have HSS := Lib.hid (And.intro (range_below HSS.out.1 hb13) (range_below HSS.out.2 hb13))
    have HB := Lib.hid (HB.out.trans (hb13.mono HB.out.size))
    rw [← HX3E.out]
    refine hK _ _ HSS.out ?_
    clear hK K hb13
    refine wpAnyH_take (i := 26) (v := ?_) rfl (by kernel_rfl) (by kernel_rfl) (by kernel_rfl) (fun _ _ _ h => h) (Or.inl ⟨by rfl, ?_⟩) HSS.out ?_
    case refine_2 => (rintro W ⟨c0, c1⟩; go_simp; try (with_reducible rfl))
    refine wpAnyH_take (i := 27) (v := ?_) rfl (by kernel_rfl) (by kernel_rfl) (by kernel_rfl) (fun _ _ _ h => h) (Or.inl ⟨by rfl, ?_⟩) HSS.out ?_
    case refine_2 => (rintro W ⟨c0, c1⟩; go_simp; try (with_reducible rfl))
    refine wpAnyH_take (i := 28) (v := ?_) rfl (by kernel_rfl) (by kernel_rfl) (by kernel_rfl) (fun _ _ _ h => h) (Or.inl ⟨by rfl, ?_⟩) HSS.out ?_
    case refine_2 => (rintro W ⟨c0, c1⟩; go_simp; try (with_reducible rfl))
    go_simp
    refine wpAnyH_take (i := 29) (v := ?_) rfl (by kernel_rfl) (by kernel_rfl) (by kernel_rfl) (fun _ _ _ h => h) (Or.inl ⟨by rfl, ?_⟩) HSS.out ?_
    case refine_2 => (rintro W ⟨c0, c1⟩; go_simp; try (with_reducible rfl))
    refine wpAnyH_take (i := 31) (v := ?_) rfl (by kernel_rfl) (by kernel_rfl) (by kernel_rfl) (fun _ _ _ h => h) (Or.inl ⟨by rfl, ?_⟩) HSS.out ?_
    case refine_2 => (rintro W ⟨c0, c1⟩; go_simp; try (with_reducible rfl))
    refine wpAnyH_take (i := 32) (v := ?_) rfl (by kernel_rfl) (by kernel_rfl) (by kernel_rfl) (fun _ _ _ h => h) (Or.inl ⟨by rfl, ?_⟩) HSS.out ?_
    case refine_2 => (rintro W ⟨c0, c1⟩; go_simp; try (with_reducible rfl))
    refine wpAnyH_take (i := 33) (v := ?_) rfl (by kernel_rfl) (by kernel_rfl) (by kernel_rfl) (fun _ _ _ h => h) (Or.inl ⟨by rfl, ?_⟩) HSS.out ?_
    case refine_2 => (rintro W ⟨c0, c1⟩; go_simp; try (with_reducible rfl))
    go_simp
    refine wpAnyH_op (i := 30) (by kernel_rfl) rfl (by rfl) (fun K hK => ?_)
    go_simp
    go_at_call 18
    refine (len_any w.heap.size b _ HS.out).mono ?_
    rintro e w14 ⟨rfl, rfl⟩
    go_simp
    refine hK _ _ HSS.out ?_
    clear hK K
    refine wpAnyH_take (i := 34) (v := ?_) rfl (by kernel_rfl) (by kernel_rfl) (by kernel_rfl) (fun _ _ _ h => h) (Or.inl ⟨by rfl, ?_⟩) HSS.out ?_
    case refine_2 => (rintro W ⟨c0, c1⟩; go_simp; try (with_reducible rfl))
    refine wpAnyH_take (i := 35) (v := ?_) rfl (by kernel_rfl) (by kernel_rfl) (by kernel_rfl) (fun _ _ _ h => h) (Or.inl ⟨by rfl, ?_⟩) HSS.out ?_
    case refine_2 => (rintro W ⟨c0, c1⟩; go_simp; try (with_reducible rfl))
    refine wpAnyH_done (by kernel_rfl) ?_ _
    go_simp
    clear HSS Hg8 Hg9
    go_upto_region 18 with ((go_at_call 13; refine (reset_any w.heap.size b _ HS.out (HF0.out.below HB.out)).mono ?_; rintro e w15 ⟨rfl, HSn, hw⟩))
    have HB := Lib.hid (HB.out.trans (hw.of_ws HB.out.size (Nat.le_refl _)))
    have HS := Lib.hid HSn
    clear hw HSn
    go_upto_region 19 with ((go_at_call 16; refine (write_any w.heap.size ([]) A4 (len - m1) (cap - m1) ((b.drop m1).take (len - m1)) _ HS.out (by simp <;> omega) (by simp <;> omega) (by omega) (fun x hx => hb x (List.mem_of_mem_drop (List.mem_of_mem_take hx))) (HRA4.out.below HB.out) (fun h0 q hq => Nat.ne_of_lt (cut_block HRA4.out (by simp <;> omega) h0 hq))).mono ?_; rintro e w16 ⟨rfl, HSn, hw⟩))
    have hgl := HS.out.lt
    have HB := Lib.hid (HB.out.trans (hw.of_ws HB.out.size (Nat.le_refl _)))
    have HS : Hid (HSt w16 w.heap.size (b.drop m1)) := by have h := HSn; show HSt _ _ _; rwa [List.nil_append, List.take_of_length_le (by simp <;> omega)] at h
    clear hw HSn
    have HRA5 : Hid (Rd .u8 w A4 (b.drop m1)) := by have h := HRA4.out; show Rd _ _ _ _; rwa [List.take_of_length_le (by simp <;> omega)] at h
    have HSS : Hid True := trivial
    have HS : Hid (HSt w16.drew w.heap.size (b.drop m1)) := HS.out
    have HB : Hid (Below w.heap.size w w16.drew) := HB.out.drew
    refine wp_region_held (S := fun _ => True) (by kernel_rfl) ?_
    change wpAnyH _ _ _ _ _ _ _ _ (World.drew _)
    go_simp
    refine wpAnyH_take (i := 0) (v := ?_) rfl (by kernel_rfl) (by kernel_rfl) (by kernel_rfl) (fun _ _ _ h => h) (Or.inl ⟨by rfl, ?_⟩) HSS.out ?_
    case refine_2 => (rintro W -; go_simp; try (with_reducible rfl))
    refine wpAnyH_take (i := 2) (v := ?_) rfl (by kernel_rfl) (by kernel_rfl) (by kernel_rfl) (fun _ _ _ h => h) (Or.inl ⟨by rfl, ?_⟩) HSS.out ?_
    case refine_2 => (rintro W -; go_simp; try (with_reducible rfl))
    refine wpAnyH_take (i := 3) (v := ?_) rfl (by kernel_rfl) (by kernel_rfl) (by kernel_rfl) (fun _ _ _ h => h) (Or.inl ⟨by rfl, ?_⟩) HSS.out ?_
    case refine_2 => (rintro W -; go_simp; try (with_reducible rfl))
    refine wpAnyH_take (i := 4) (v := ?_) rfl (by kernel_rfl) (by kernel_rfl) (by kernel_rfl) (fun _ _ _ h => h) (Or.inl ⟨by rfl, ?_⟩) HSS.out ?_
    case refine_2 => (rintro W -; go_simp; try (with_reducible rfl))
    go_simp
    refine wpAnyH_op (i := 1) (by kernel_rfl) rfl (by rfl) (fun K hK => ?_)
    go_simp
    go_at_call 11
    refine (hsum_any w.heap.size (b.drop m1) _ HS.out (by simp <;> omega)).mono ?_
    rintro e w17 ⟨rfl, hb17⟩
    go_simp
    rw [← HX4E.out]
    have HB := Lib.hid (HB.out.trans (hb17.mono HB.out.size))
    refine hK _ _ HSS.out ?_
    clear hK K hb17
    refine wpAnyH_op (i := 5) (by kernel_rfl) rfl (by rfl) (fun K hK => ?_)
    go_simp
    go_at_call 19
    refine (ssum_any A4 (len - m1) _ (b.drop m1) _ (by simp <;> omega) (by omega) (by omega) (fun x hx => hb x (List.mem_of_mem_drop hx)) (HRA5.out.below HB.out) (HF0.out.below HB.out)).mono ?_
    rintro e w18 ⟨rfl, hb18⟩
    go_simp
    rw [← HX4E.out]
    have HB := Lib.hid (HB.out.trans (hb18.mono HB.out.size))
    refine hK _ _ HSS.out ?_
    clear hK K hb18
    refine wpAnyH_take (i := 6) (v := ?_) rfl (by kernel_rfl) (by kernel_rfl) (by kernel_rfl) (fun _ _ _ h => h) (Or.inl ⟨by rfl, ?_⟩) HSS.out ?_
    case refine_2 => (rintro W -; go_simp; try (with_reducible rfl))
    refine wpAnyH_take (i := 7) (v := ?_) rfl (by kernel_rfl) (by kernel_rfl) (by kernel_rfl) (fun _ _ _ h => h) (Or.inl ⟨by rfl, ?_⟩) HSS.out ?_
    case refine_2 => (rintro W -; go_simp; try (with_reducible rfl))
    refine wpAnyH_op (i := 8) (by kernel_rfl) rfl (by rfl) (fun K hK => ?_)
    go_simp
    go_at_call 14
    refine (works5_any _ (HF0.out.below HB.out)).mono ?_
    rintro e w19 ⟨rfl, hb19⟩
    go_simp
    have HB := Lib.hid (HB.out.trans (hb19.mono HB.out.size))
    refine hK _ _ HSS.out ?_
    clear hK K hb19
    refine wpAnyH_take (i := 9) (v := ?_) rfl (by kernel_rfl) (by kernel_rfl) (by kernel_rfl) (fun _ _ _ h => h) (Or.inl ⟨by rfl, ?_⟩) HSS.out ?_
    case refine_2 => (rintro W -; go_simp; try (with_reducible rfl))
    refine wpAnyH_take (i := 10) (v := ?_) rfl (by kernel_rfl) (by kernel_rfl) (by kernel_rfl) (fun _ _ _ h => h) (Or.inl ⟨by rfl, ?_⟩) HSS.out ?_
    case refine_2 => (rintro W -; go_simp; try (with_reducible rfl))
    refine wpAnyH_done (by kernel_rfl) ?_ _
    go_simp
    go_wp2
    go_ret
    exact ⟨rfl, HB.out⟩
end Go.Proofs.YtpipjkpjpkgmpaaDoor
