import Derived.Test.YtpipjkpjpkgmpaaDoorShQ
namespace Go.Proofs.YtpipjkpjpkgmpaaDoor
open Go.RowKit

theorem lent_rd {w : World} {B g n c : Nat} {xs : List Nat} {tl : List Value} (h : w.ownsRow B 5 1 (.slice (some ⟨g, 0, none⟩) n c) n (u8s xs ++ tl)) (hn : xs.length ≤ n) : Rd .u8 w (some ⟨g, 0, none⟩) xs := fun _ _ => ⟨g, 0, rfl, fun i hi => by
  rw [Nat.zero_add, World.ownsRow.cellAt h i (by omega), List.getElem?_append_left (by rw [u8s_len]; exact hi), u8s, List.getElem?_map, List.getElem?_eq_getElem hi, List.getD_eq_getElem?_getD, List.getElem?_eq_getElem hi]; rfl⟩

set_option maxHeartbeats 2000000 in
set_option maxRecDepth 100000 in
theorem shaSums_any (a : Option Addr) (len cap : Nat) (b : List Nat) (w : World) (hl : b.length = len) (hcap : len ≤ cap) (hna : a = none → cap = 0) (hmax : len ≤ 9223372036854775807) (hb : ∀ x ∈ b, x < 256) (hr : Rd .u8 w a b) (hF : Five w) :
    Calls Tryd.prog 20 #[.slice a len cap] w fun e w' => e = .returned (.bool true) ∧ Below w.heap.size w w' := by
  by_cases hbig : 16384 < len
  · have hq : decide ((16384 : Int) < (len : Int)) = true := decide_eq_true (by omega)
    clear hr hF
    go_enter Tryd.func20, Tryd.ntmps20
    go_wp2
    go_ret
    exact ⟨rfl, Below.refl _ _⟩
  · have hq : decide ((16384 : Int) < (len : Int)) = false := decide_eq_false (by omega)
    have hz := (zero_of_info info20).1
    have HR := Lib.hid hr
    have HR0 := Lib.hid hr
    have HF := Lib.hid hF
    obtain ⟨X, hX⟩ : ∃ X, X = shaC b := ⟨_, rfl⟩
    have E1 : ∀ W, (binOp .eql 28 (.agg X.toArray) (.agg X.toArray)).run Tryd.prog W = .ok (.bool true) W := fun W => by
      rw [hX]; exact (eql20 (bytes20 (sha5 b)) (bytes20 (sha5 b)) (by simp [bytes20]) (by simp [bytes20]) W).trans (by simp)
    have HXL : Hid (X.length = 20) := by show _ = _; rw [hX]; exact bcells_len _
    have HXo : Hid (∀ v ∈ X, v.oneCell' = true) := by show ∀ v ∈ X, _; rw [hX]; exact bcells_one _
    have HXE := Lib.hid hX
    clear hX hr hF
    go_enter Tryd.func20, Tryd.ntmps20
    go_upto_region 4 with ((go_at_call 15; refine (lentBytes_any a len cap b _ hl (by omega) HR.out).mono ?_; rintro e w1 ⟨g, c1, rfl, hown1, hgw, hb1⟩))
    have HR := Lib.hid (HR.out.below hb1)
    have HF := Lib.hid (HF.out.below hb1)
    have HB := Lib.hid hb1
    have hsz1 : w.heap.size ≤ w1.heap.size := hb1.size
    have hc1 : len ≤ c1 := by
      rcases hown1.2 with ⟨h, _⟩ | ⟨g', c', cur, h, _, _, hn, _⟩
      · cases h
      · cases h; omega
    have HL := Lib.hid hown1
    clear hown1 hb1
    refine wp_region_lit ?_
    refine wpList_plain rfl fun K1 hK1 => ?_
    go_simp
    refine hK1 _ _ ?_
    clear hK1 K1
    refine wpList_plain rfl fun K1 hK1 => ?_
    go_simp
    go_at_call 12
    refine (rsum_any a len cap b _ hl (by omega) hcap hna hb HR.out).mono ?_
    rintro e w2 ⟨rfl, hb2⟩
    go_simp
    rw [← HXE.out]
    refine hK1 _ _ ?_
    clear hK1 K1
    have HL := Lib.hid ((Chg.of_below hb2).owns HL.out (fun k hk => by have e : g = k := Option.some.inj hk; have := (HL.out.lt g rfl).2; omega))
    have HR := Lib.hid (HR.out.below hb2)
    have HF := Lib.hid (HF.out.below hb2)
    have HB := Lib.hid (HB.out.trans (hb2.mono HB.out.size))
    have hsz2 : w1.heap.size ≤ w2.heap.size := hb2.size
    clear hb2
    refine wpList_plain rfl fun K1 hK1 => ?_
    go_simp
    refine hK1 _ _ ?_
    clear hK1 K1
    have b3 := (Below.refl w2.heap.size w2).alloc (Nat.le_refl _) (.cells (u8s (z8 20)).toArray 28)
    have C3 := CB.new w2 28 (u8s (z8 20))
    have hgl := (HL.out.lt g rfl).2
    have hfl := HF.out.lt
    have HL := Lib.hid ((Chg.of_below b3).owns HL.out (fun k hk => by have e : g = k := Option.some.inj hk; omega))
    have HR := Lib.hid (HR.out.below b3)
    have HF := Lib.hid (HF.out.below b3)
    have HB := Lib.hid (HB.out.trans (b3.mono HB.out.size))
    clear b3
    generalize w2.heap.size = g4 at *
    generalize w2.alloc (.cells (u8s (z8 20)).toArray 28) = W3 at *
    refine wpList_plain rfl fun K1 hK1 => wp_storec 28 (.tmp 4) (.tmp 11) rfl g4 0 20 rfl X rfl HXL.out C3 (zero_of_info info20).2 (by simp [u8s, z8]) HXo.out fun w4 C4 hch hsz => hK1 _ _ ?_
    clear hK1 K1
    rw [splice_all (by rw [HXL.out]; simp [u8s, z8])] at C4
    have HL := Lib.hid (hch.owns HL.out (fun k hk => by have e : g = k := Option.some.inj hk; omega))
    have HF := Lib.hid (HF.out.chg hch (fun e => by omega))
    have HB := Lib.hid (HB.out.trans (hch.below HB.out.size (fun k hk => by omega)))
    have HSS := Lib.hid C4.range0
    clear hch hsz C3 C4 hgl hz
    go_upto_region 5 with fail
    have HL : Hid (World.ownsRow w4.drew _ _ _ _ _ _) := HL.out
    have HF : Hid (Five w4.drew) := HF.out
    have HSS : Hid (w4.drew.rangeAt g4 0 X) := HSS.out
    have HB : Hid (Below w.heap.size w w4.drew) := HB.out.drew
    clear HR
    refine wp_region_tail (fun W => W.rangeAt g4 0 X) 18 (by kernel_rfl) ?_
    go_simp
    refine wpAnyT_take (i := 0) (v := ?_) rfl (by kernel_rfl) (by kernel_rfl) (by kernel_rfl) (by kernel_rfl) rfl (by kernel_rfl) (fun _ _ _ h => h) (Or.inl ⟨by rfl, ?_⟩) HSS.out ?_
    case refine_2 => (rintro W c0; go_simp; try (with_reducible rfl))
    refine wpAnyT_take (i := 2) (v := .agg X.toArray) rfl (by kernel_rfl) (by kernel_rfl) (by kernel_rfl) (by kernel_rfl) rfl (by kernel_rfl) (fun _ _ _ h => h) (yieldsIf_load_mid (by rfl) 28 (.tmp 4) rfl g4 0 (by go_simp) X _ (fun W h => h) Tryd.underlying28 rfl (by rw [(zero_of_info info20).2, HXL.out])) HSS.out ?_
    refine wpAnyT_op (i := 1) (by kernel_rfl) rfl (by rfl) (fun K hK => ?_)
    go_simp
    go_at_call 19
    refine (ssum_any (some ⟨g, 0, none⟩) len c1 b _ hl (by omega) hc1 hb (lent_rd HL.out (by omega)) HF.out).mono ?_
    rintro e w5 ⟨rfl, hb5⟩
    go_simp
    have HL := Lib.hid ((Chg.of_below hb5).owns HL.out (fun k hk => by have e : g = k := Option.some.inj hk; have := (HL.out.lt g rfl).2; omega))
    have HF := Lib.hid (HF.out.below hb5)
    have HSS := Lib.hid (range_below HSS.out hb5)
    have HB := Lib.hid (HB.out.trans (hb5.mono HB.out.size))
    rw [← HXE.out]
    refine hK _ _ (fun _ => HSS.out) ?_
    clear hK K hb5
    refine wpAnyT_take (i := 3) (v := ?_) rfl (by kernel_rfl) (by kernel_rfl) (by kernel_rfl) (by kernel_rfl) rfl (by kernel_rfl) (fun _ _ _ h => h) (Or.inl ⟨by rfl, ?_⟩) HSS.out ?_
    case refine_2 => (rintro W c0; go_simp; try (with_reducible rfl))
    refine wpAnyT_take (i := 4) (v := ?_) rfl (by kernel_rfl) (by kernel_rfl) (by kernel_rfl) (by kernel_rfl) rfl (by kernel_rfl) (fun _ _ _ h => h) (Or.inl ⟨by rfl, ?_⟩) HSS.out ?_
    case refine_2 => (rintro W c0; go_simp; try (with_reducible rfl))
    refine wpAnyT_take (i := 5) (v := ?_) rfl (by kernel_rfl) (by kernel_rfl) (by kernel_rfl) (by kernel_rfl) rfl (by kernel_rfl) (fun _ _ _ h => h) (Or.inl ⟨by rfl, ?_⟩) HSS.out ?_
    case refine_2 => (rintro W c0; go_simp; try (with_reducible rfl))
    refine wpAnyT_take (i := 7) (v := .agg X.toArray) rfl (by kernel_rfl) (by kernel_rfl) (by kernel_rfl) (by kernel_rfl) rfl (by kernel_rfl) (fun _ _ _ h => h) (yieldsIf_load_mid (by rfl) 28 (.tmp 4) rfl g4 0 (by go_simp) X _ (fun W h => h) Tryd.underlying28 rfl (by rw [(zero_of_info info20).2, HXL.out])) HSS.out ?_
    refine wpAnyT_op (i := 6) (by kernel_rfl) rfl (by rfl) (fun K hK => ?_)
    go_simp
    go_at_call 19
    refine (ssum_any (some ⟨g, 0, none⟩) len c1 b _ hl (by omega) hc1 hb (lent_rd HL.out (by omega)) HF.out).mono ?_
    rintro e w6 ⟨rfl, hb6⟩
    go_simp
    have HL := Lib.hid ((Chg.of_below hb6).owns HL.out (fun k hk => by have e : g = k := Option.some.inj hk; have := (HL.out.lt g rfl).2; omega))
    have HF := Lib.hid (HF.out.below hb6)
    have HSS := Lib.hid (range_below HSS.out hb6)
    have HB := Lib.hid (HB.out.trans (hb6.mono HB.out.size))
    rw [← HXE.out]
    refine hK _ _ (fun _ => HSS.out) ?_
    clear hK K hb6
    refine wpAnyT_take (i := 8) (v := ?_) rfl (by kernel_rfl) (by kernel_rfl) (by kernel_rfl) (by kernel_rfl) rfl (by kernel_rfl) (fun _ _ _ h => h) (Or.inl ⟨by rfl, ?_⟩) HSS.out ?_
    case refine_2 => (rintro W c0; go_simp; try (with_reducible rfl))
    refine wpAnyT_take (i := 9) (v := ?_) rfl (by kernel_rfl) (by kernel_rfl) (by kernel_rfl) (by kernel_rfl) rfl (by kernel_rfl) (fun _ _ _ h => h) (Or.inl ⟨by rfl, ?_⟩) HSS.out ?_
    case refine_2 => (rintro W c0; go_simp; try (with_reducible rfl))
    refine wpAnyT_take (i := 10) (v := ?_) rfl (by kernel_rfl) (by kernel_rfl) (by kernel_rfl) (by kernel_rfl) rfl (by kernel_rfl) (fun _ _ _ h => h) (Or.inl ⟨by rfl, ?_⟩) HSS.out ?_
    case refine_2 => (rintro W c0; go_simp; try (with_reducible rfl))
    refine wpAnyT_take (i := 11) (v := ?_) rfl (by kernel_rfl) (by kernel_rfl) (by kernel_rfl) (by kernel_rfl) rfl (by kernel_rfl) (fun _ _ _ h => h) (Or.inl ⟨by rfl, ?_⟩) HSS.out ?_
    case refine_2 => (rintro W c0; go_simp; try (with_reducible rfl))
    refine wpAnyT_take (i := 12) (v := ?_) rfl (by kernel_rfl) (by kernel_rfl) (by kernel_rfl) (by kernel_rfl) rfl (by kernel_rfl) (fun _ _ _ h => h) (Or.inl ⟨by rfl, ?_⟩) HSS.out ?_
    case refine_2 => (rintro W c0; go_simp; try (with_reducible rfl))
    go_simp
    refine wpAnyT_op (i := 13) (by kernel_rfl) rfl (by rfl) (fun K hK => ?_)
    go_simp
    go_at_call 17
    refine (keptBytes_any a w.heap.size g len cap c1 b _ hl (by omega) (HR0.out.below HB.out) HL.out).mono ?_
    rintro e w7 ⟨rfl, rfl⟩
    go_simp
    refine hK _ _ (fun _ => HSS.out) ?_
    clear hK K
    refine wpAnyT_take (i := 14) (v := ?_) rfl (by kernel_rfl) (by kernel_rfl) (by kernel_rfl) (by kernel_rfl) rfl (by kernel_rfl) (fun _ _ _ h => h) (Or.inl ⟨by rfl, ?_⟩) HSS.out ?_
    case refine_2 => (rintro W c0; go_simp; try (with_reducible rfl))
    refine wpAnyT_take (i := 15) (v := ?_) rfl (by kernel_rfl) (by kernel_rfl) (by kernel_rfl) (by kernel_rfl) rfl (by kernel_rfl) (fun _ _ _ h => h) (Or.inl ⟨by rfl, ?_⟩) HSS.out ?_
    case refine_2 => (rintro W c0; go_simp; try (with_reducible rfl))
    refine wpAnyT_op (i := 16) (by kernel_rfl) rfl (by rfl) (fun K hK => ?_)
    go_simp
    go_at_call 14
    refine (works5_any _ HF.out).mono ?_
    rintro e w8 ⟨rfl, hb8⟩
    go_simp
    have HSS := Lib.hid (range_below HSS.out hb8)
    have HB := Lib.hid (HB.out.trans (hb8.mono HB.out.size))
    refine hK _ _ (fun _ => HSS.out) ?_
    clear hK K hb8
    refine wpAnyT_take (i := 17) (v := ?_) rfl (by kernel_rfl) (by kernel_rfl) (by kernel_rfl) (by kernel_rfl) rfl (by kernel_rfl) (fun _ _ _ h => h) (Or.inl ⟨by rfl, ?_⟩) HSS.out ?_
    case refine_2 => (rintro W c0; go_simp; try (with_reducible rfl))
    refine wpAnyT_last (i := 18) (by kernel_rfl) rfl (by rfl) (by kernel_rfl) (by kernel_rfl) (fun K hK => ?_)
    go_simp
    refine hK _ _ ?_
    clear hK K
    go_wp2
    go_ret
    exact ⟨rfl, HB.out⟩
end Go.Proofs.YtpipjkpjpkgmpaaDoor
