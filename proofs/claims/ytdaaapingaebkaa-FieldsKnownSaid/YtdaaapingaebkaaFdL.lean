import Derived.Test.YtdaaapingaebkaaFdW
namespace Go.Proofs.Ytdaaapingaebkaa
open Go.RowKit

/-! FieldsFinds, FieldsSplits. -/
set_option maxHeartbeats 1000000 in
set_option maxRecDepth 100000 in
theorem d_FieldsFinds (s : ByteArray) (k : Nat) (hk : k < 256) (w : World) : Calls Try.prog 4 #[.string s, .int .u8 (k : Nat)] w fun e w' => e = .returned (.bool true) ∧ Below w.heap.size w w' := by
  obtain ⟨n, hn⟩ : ∃ n, s.size = n := ⟨_, rfl⟩
  obtain ⟨r, hr⟩ : ∃ r, (splitR (bsN s)).fin n = r := ⟨_, rfl⟩
  obtain ⟨t, b, c, hv⟩ : ∃ t b c, findV s r k = (t, b, c) := ⟨_, _, _, rfl⟩
  obtain ⟨t2, c2, hv2⟩ : ∃ t c, signV s r = (t, c) := ⟨_, _, rfl⟩
  have HRF := Lib.hid (fun W => r_Find s n k W hk hn r hr t b c hv)
  have HFF := Lib.hid (fun W => f_Find s n k W hn r hr t b c hv)
  have HRS := Lib.hid (fun W => r_Signed s n W hn r hr t2 c2 hv2)
  have HFS := Lib.hid (fun W => f_Signed s n W hn r hr t2 c2 hv2)
  clear hr hv hv2
  go_enter Try.func4, Try.ntmps4
  go_wp2_with (first | (go_at_call 15; refine (HRF.out _).mono ?_; rintro e w1 ⟨rfl, hb1⟩; have HB1 := Lib.hid hb1; clear hb1) | (go_at_call 16; refine (HFF.out _).mono ?_; rintro e w2 ⟨rfl, hb2⟩; have HB2 := Lib.hid (bel_next HB1.out hb2); clear hb2) | (go_at_call 17; refine (HRS.out _).mono ?_; rintro e w3 ⟨rfl, hb3⟩; have HB3 := Lib.hid (bel_next HB2.out hb3); clear hb3) | (go_at_call 18; refine (HFS.out _).mono ?_; rintro e w4 ⟨rfl, hb4⟩; have HB4 := Lib.hid (bel_next HB3.out hb4); clear hb4) | (go_at_call 14; refine (f_works _).mono ?_; rintro e w5 ⟨rfl, hb5⟩; have HB5 := Lib.hid (bel_next HB4.out hb5); clear hb5))
  go_ret
  exact ⟨rfl, HB5.out⟩
theorem own_there {w : World} {B n cap g : Nat} {xs : List Value} (h : w.ownsRow B 28 4 (.slice (some ⟨g, 0, none⟩) n cap) n xs) {i : Nat} (hi : i < n) : w.there g (i * 4) 4 := fun j hj => by
  refine ⟨?_, h.frozenAt _⟩
  have hl := h.1
  rw [h.cellAt (i * 4 + j) (by omega), List.getElem?_eq_getElem (by omega)]
  rfl
theorem own_setCells {B n cap g : Nat} : ∀ (vs : List Value) {w : World} {xs : List Value} (o : Nat), w.ownsRow B 28 4 (.slice (some ⟨g, 0, none⟩) n cap) n xs → ∃ ys, (w.setCells g o vs).ownsRow B 28 4 (.slice (some ⟨g, 0, none⟩) n cap) n ys
  | [], _, xs, _, h => ⟨xs, h⟩
  | v :: r, _, _, o, h => own_setCells r (o + 1) (h.stored o v).1
theorem frow_nil (w : World) : FRow w (.slice none 0 0) [] := ⟨none, 0, rfl, fun h => absurd h (Nat.not_lt_zero _)⟩
theorem FRow.chg {w w' : World} {v : Value} {fs : List Fd} {B : Nat} (h : FRow w v fs) (hb : Below B w w') (hB : w.heap.size ≤ B) : FRow w' v fs := by
  refine h.below ?_
  exact ⟨hb.os, hb.tape, hb.output, hb.size, fun k hk => hb.block k (by omega)⟩
set_option maxHeartbeats 2000000 in
set_option maxRecDepth 100000 in
theorem d_FieldsSplits (s : ByteArray) (w : World) : Calls Try.prog 3 #[.string s] w fun e w' => e = .returned (.bool true) ∧ Below w.heap.size w w' := by
  obtain ⟨n, hn⟩ : ∃ n, s.size = n := ⟨_, rfl⟩
  obtain ⟨r, hr⟩ : ∃ r, (splitR (bsN s)).fin n = r := ⟨_, rfl⟩
  have HRS := Lib.hid (fun W => r_Split s n W hn r hr)
  have HFS := Lib.hid (fun W => f_Split s n W hn r hr)
  clear hr
  go_enter Try.func3, Try.ntmps3
  go_wp2_with fail
  refine (HRS.out _).mono ?_
  rintro e w1 ⟨⟨i1, c1, rfl, h2, rfl⟩ | ⟨fs, a, cap, rfl, h2, h3, rfl, h5⟩, hb⟩
  · have HB1 := Lib.hid hb
    clear h2 hb
    go_wp2_with fail
    refine (HFS.out _).mono ?_
    rintro e w2 ⟨⟨i1', c1', hr, h2, rfl⟩ | ⟨fs, a, cap, hr, h2, h3, rfl, h5⟩, hb⟩
    · injection hr with e1 e2
      subst e1 e2
      have HB2 := Lib.hid (bel_next HB1.out hb)
      have HSM := Lib.hid (fun W => r_Same (.slice none 0 0) (.slice none 0 0) [] W (by decide) (frow_nil W) (frow_nil W))
      clear h2 hb
      go_wp2_with (go_at_call 13; refine (HSM.out _).mono ?_; rintro e w3 ⟨rfl, hb3⟩; have HB3 := Lib.hid (bel_next HB2.out hb3); clear hb3)
      go_loopw [9] (fun iv wr => iv = .int .i64 0 ∧ wr = w3) (fun _ _ => 0)
      case atStart => exact ⟨rfl, rfl⟩
      case round =>
        obtain ⟨rfl, rfl⟩ := hrel
        go_wp2_with fail
        refine (HFS.out _).mono ?_
        rintro e w4 ⟨⟨i1', c1', hr, h2, rfl⟩ | ⟨fs, a, cap, hr, h2, h3, rfl, h5⟩, hb⟩
        · injection hr with e1 e2
          subst e1 e2
          have HB4 := Lib.hid (bel_next HB3.out hb)
          clear h2 hb
          go_wp2_with (first | (go_at_call 13; refine (HSM.out _).mono ?_; rintro e w5 ⟨rfl, hb5⟩; have HB5 := Lib.hid (bel_next HB4.out hb5); clear hb5) | (go_at_call 14; refine (f_works _).mono ?_; rintro e w6 ⟨rfl, hb6⟩; have HB6 := Lib.hid (bel_next HB5.out hb6); clear hb6))
          go_ret
          exact ⟨rfl, HB6.out⟩
        · cases hr
    · cases hr
  · have HB1 := Lib.hid hb
    have HR1 := Lib.hid (own_frow h5)
    clear h2 h3 h5 hb
    go_wp2_with fail
    refine (HFS.out _).mono ?_
    rintro e w2 ⟨⟨i1', c1', hr, h2, rfl⟩ | ⟨fs', a', cap', hr, h2, h3, rfl, h5⟩, hb⟩
    · cases hr
    · injection hr with e1
      subst e1
      have HB2 := Lib.hid (bel_next HB1.out hb)
      have HR12 := Lib.hid (HR1.out.below hb)
      have HR2 := Lib.hid (own_frow h5)
      have HH3 := Lib.hid h3
      have HB12 := Lib.hid hb
      obtain ⟨g, rfl, hg, -⟩ := own_fd h5 rfl h2
      have HO2 := Lib.hid h5
      obtain ⟨len, hl⟩ : ∃ len, fs.length = len := ⟨_, rfl⟩
      have HSM := Lib.hid (fun W (h : FRow W (.slice (some ⟨g, 0, none⟩) fs.length cap') fs) (h' : FRow W (.slice a fs.length cap) fs) => r_Same _ _ fs W h3 h h')
      rw [hl] at HSM HO2 HR2 HR12 HR1 ⊢
      clear h2 h5 hb
      have h3' : len ≤ 65536 := by rw [← hl]; exact h3
      have HL := Lib.hid hl
      clear h3 hl
      go_wp2_with (go_at_call 13; refine (HSM.out _ HR2.out HR12.out).mono ?_; rintro e w3 ⟨rfl, hb3⟩; have HB3 := Lib.hid hb3; clear hb3)
      go_loopw [9] (fun iv wr => ∃ i : Nat, i ≤ len ∧ iv = .int .i64 (i : Nat) ∧ Hid (∃ xs, wr.ownsRow w1.heap.size 28 4 (.slice (some ⟨g, 0, none⟩) len cap') len xs) ∧ Hid (Below w1.heap.size w1 wr)) (fun iv _ => len - (intOf iv).toNat)
      case atStart => exact ⟨0, Nat.zero_le _, rfl, ⟨_, (Chg.of_below HB3.out).ownsS HO2.out fun k hk => by have := World.ownsRow.lt HO2.out k hk; omega⟩, bel_next HB12.out HB3.out⟩
      case round =>
        obtain ⟨i, hi, rfl, HO, HB⟩ := hrel
        by_cases hin : i < len
        · obtain ⟨xs, hx⟩ := HO.out
          have hth := own_there hx hin
          have HTH := Lib.hid hth
          have HO4 := Lib.hid (own_setCells [.int .u8 77, .int .i64 0, .int .i64 0, .int .i64 0] (i * 4) hx)
          have HB4 : Hid (Below w1.heap.size w1 (wr.setCells g (i * 4) [.int .u8 77, .int .i64 0, .int .i64 0, .int .i64 0])) := HB.out.trans ((Chg.setCells (S := fun k => k = g) rfl _ (Chg.refl _ wr) _).below HB.out.size fun k hk => by omega)
          clear hx hth
          go_wp2_with (refine wpList_store_mid rfl 28 _ _ rfl g (i * 4) #[.int .u8 77, .int .i64 0, .int .i64 0, .int .i64 0] ?_ ?_ ?_ ?_ ?_ ?_; rfl; rfl; exact HTH.out; exact infoF; exact all_oneCell_toArray (cs := [.int .u8 77, .int .i64 0, .int .i64 0, .int .i64 0]) (all_one (by rfl)); skip)
          go_roundw
          case rel => exact ⟨i + 1, by omega, by go_num, HO4.out, HB4.out⟩
          case measure => simp [intOf]; omega
        · obtain rfl : i = len := by omega
          go_wp2_with fail
          refine (HFS.out _).mono ?_
          rintro e w4 ⟨⟨i1', c1', hr, h2, rfl⟩ | ⟨fs', a', cap', hr, h2, h3, rfl, h5⟩, hb⟩
          · cases hr
          · injection hr with e1
            subst e1
            have HB4 := Lib.hid (HB1.out.trans ((HB.out.trans (hb.mono HB.out.size)).mono HB1.out.size))
            have HR4 := Lib.hid (own_frow h5)
            have HR14 := Lib.hid (HR1.out.below (HB.out.trans (hb.mono HB.out.size)))
            have HSM4 := Lib.hid (fun W (h : FRow W (.slice a' fs.length cap') fs) (h' : FRow W (.slice a i cap) fs) => r_Same _ _ fs W HH3.out h h')
            clear h2 h3 h5 hb
            rw [HL.out] at HR4 HSM4 ⊢
            go_wp2_with (first | (go_at_call 13; refine (HSM4.out _ HR4.out HR14.out).mono ?_; rintro e w5 ⟨rfl, hb5⟩; have HB5 := Lib.hid (bel_next HB4.out hb5); clear hb5) | (go_at_call 14; refine (f_works _).mono ?_; rintro e w6 ⟨rfl, hb6⟩; have HB6 := Lib.hid (bel_next HB5.out hb6); clear hb6))
            go_ret
            exact ⟨rfl, HB6.out⟩
end Go.Proofs.Ytdaaapingaebkaa
