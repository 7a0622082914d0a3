import Derived.Test.YtpipjkpjpkgmpaaDoorCoG
import Derived.Test.YtpipjkpjpkgmpaaDoorShY0
namespace Go.Proofs.YtpipjkpjpkgmpaaDoor
open Go.RowKit

theorem b64L_step (xs : List Nat) (j n : Nat) (hj : j % 3 = 0) (hjl : j ≤ xs.length) : b64L (xs.take (j + n)) = b64L (xs.take j) ++ b64L ((xs.drop j).take n) := by
  rw [List.take_add, b64L_app _ _ (by rw [List.length_take, Nat.min_eq_left hjl]; exact hj)]

set_option maxHeartbeats 2000000 in
set_option maxRecDepth 100000 in
theorem base64_any (a : Option Addr) (len cap : Nat) (xs : List Nat) (w : World) (hl : xs.length = len) (hbig : len ≤ 1099511627776) (hcap : len ≤ cap) (hcm : cap ≤ 9223372036854775807) (hna : a = none → cap = 0) (hr : Rd .u8 w a xs) (h8 : B8 xs) :
    Calls Tryd.prog 26 #[.slice a len cap] w fun e w' => e = .returned (.string (strN (b64L xs))) ∧ Below w.heap.size w w' := by
  have HR := Lib.hid hr
  have HL := Lib.hid hl
  have H8 := Lib.hid h8
  have HNA := Lib.hid hna
  clear hr hl h8 hna
  go_enter Tryd.func26, Tryd.ntmps26
  go_wp2_with (at_make; refine wpl_room8 rfl _ _ rfl w.heap.size _ _ _ ((len + 2) / 3 * 4) rfl rfl (by omega) (by omega) (Nat.le_refl _) ?_; intro w1 hown0 hb0 hlt0)
  have HO0 := Lib.hid hown0
  have HB0 := Lib.hid hb0
  clear hown0 hb0 hlt0
  go_loopw [0, 3] (fun bv v wr => ∃ (a' : Option Addr) (j m c : Nat) (ys T : List Nat), bv = .slice a' m c ∧ j + m = len ∧ j + c = cap ∧ Hid (j % 3 = 0 ∨ m = 0) ∧ Hid (ys = xs.drop j) ∧ Hid (T = b64L (xs.take j)) ∧ Hid (a' = none → c = 0) ∧ Hid (Rd .u8 w a' ys) ∧
    Hid (wr.ownsRow w.heap.size 5 1 v T.length (u8s T)) ∧ Hid (Below w.heap.size w wr)) (fun bv _ _ => match bv with | .slice _ m _ => m | _ => 0)
  case atStart => exact ⟨a, 0, len, cap, xs, [], rfl, by omega, by omega, .inl rfl, rfl, rfl, HNA.out, HR.out, HO0.out, HB0.out⟩
  case round =>
    obtain ⟨a', j, m, c, ys, T, rfl, hjm, hjc, HJ, HYS, HT, HN, HRY, HO, HB⟩ := hrel
    by_cases hm : 0 < m
    · obtain ⟨n, hn⟩ : ∃ n, n = min 3 m := ⟨_, rfl⟩
      have hmin : min (3 : Int) (m : Int) = (n : Int) := by omega
      have hn1 : 1 ≤ n := by omega
      have hn3 : n ≤ 3 := by omega
      have hnm : n ≤ m := by omega
      have hmc : m ≤ c := by omega
      have hnc : n ≤ c := by omega
      have hj3 : j % 3 = 0 := by rcases HJ.out with h | h <;> omega
      have hyl : ys.length = m := by rw [HYS.out, List.length_drop, HL.out]; omega
      have hsp := b64L_step xs j n hj3 (by rw [HL.out]; omega)
      rw [← HT.out, ← HYS.out] at hsp
      have h8y : B8 (ys.take n) := by rw [HYS.out]; exact (H8.out.drop j).take n
      have hj3' : (j + n) % 3 = 0 ∨ m - n = 0 := by omega
      have hys' : ys.drop n = xs.drop (j + n) := by rw [HYS.out, List.drop_drop]
      have htl : T.length ≤ 2 * len + 4 := by rw [HT.out, b64L_len, List.length_take, HL.out]; omega
      have hfl : (ys.take n).length = n := by rw [List.length_take, hyl]; omega
      have HJ3 := Lib.hid hj3'
      have HSP := Lib.hid hsp
      have HYL := Lib.hid hyl
      have H8Y := Lib.hid h8y
      have HYS2 := Lib.hid hys'
      have HFL := Lib.hid hfl
      have hwB := HB.out.size
      have hz4 := (zero_of_info infoA4).1
      clear hn hj3 hsp hyl h8y hj3' hys' hfl
      go_upto_region 4 with fail
      clear hmin
      refine wp_region_lit ?_
      iterate 3
        refine wpList_plain rfl fun K1 hK1 => ?_
        go_simp
        refine hK1 _ _ ?_
        clear hK1 K1
      refine wpList_plain rfl fun K1 hK1 => ?_
      go_simp
      go_at_call 43
      refine (four_any a' n c (ys.take n) _ HFL.out hn1 hn3 hnc (rd_pre (HRY.out.below HB.out) n) H8Y.out).mono ?_
      rintro e w2 ⟨rfl, hb2⟩
      go_simp
      have HX4 : Hid ((u8s (b64L (ys.take n))).length = 4) := by show _ = _; rw [u8s_len, b64L_len, HFL.out]; omega
      have HX5 : Hid ((b64L (ys.take n)).length = 4) := by have := HX4.out; rwa [u8s_len] at this
      have HX1 := Lib.hid (u8s_one8 (b64L (ys.take n)))
      obtain ⟨Y, hY⟩ : ∃ Y, Y = b64L (ys.take n) := ⟨_, rfl⟩
      rw [← hY] at HX4 HX1 HX5
      have HY := Lib.hid hY
      rw [← hY]
      clear hY
      refine hK1 _ _ ?_
      clear hK1 K1
      have HO := Lib.hid ((Chg.of_below hb2).owns HO.out (fun k hk => by have := (World.ownsRow.lt HO.out k hk).2; omega))
      have hgG : Hid (∀ k, u3.ownBlock = some k → k < w2.heap.size) := fun k hk => (World.ownsRow.lt HO.out k hk).2
      have HB := Lib.hid (HB.out.trans (hb2.mono hwB))
      have hwB2 : w.heap.size ≤ w2.heap.size := by have := hb2.size; omega
      clear hb2
      refine wpList_plain rfl fun K1 hK1 => ?_
      go_simp
      refine hK1 _ _ ?_
      clear hK1 K1 hz4
      have C5 := CB.new w2 65 (u8s (z8 4))
      have HO := Lib.hid (HO.out.alloc (.cells (u8s (z8 4)).toArray 65))
      have HB := Lib.hid (HB.out.alloc hwB2 (.cells (u8s (z8 4)).toArray 65))
      obtain ⟨G, hG⟩ : ∃ G, G = w2.heap.size := ⟨_, rfl⟩
      rw [← hG] at C5 hgG hwB2 ⊢
      clear hG
      generalize w2.alloc (.cells (u8s (z8 4)).toArray 65) = W3 at *
      refine wpList_plain rfl fun K1 hK1 => wp_storec 65 (.tmp 5) (.tmp 21) rfl G 0 4 rfl (u8s Y) rfl HX4.out C5 (zero_of_info infoA4).2 (by simp [u8s, z8]) HX1.out fun w4 C4 hch hsz => hK1 _ _ ?_
      clear hK1 K1
      rw [splice_all (by rw [HX4.out]; simp [u8s, z8])] at C4
      have HO := Lib.hid (hch.owns HO.out (fun k hk e => by have := hgG.out k hk; omega))
      have HB := Lib.hid (HB.out.trans (hch.below HB.out.size (fun k hk => by omega)))
      have hwB4 := HB.out.size
      have hnews : 0 < 4 → ∃ p, some (⟨G, 0, none⟩ : Addr) = some p ∧ ∀ (j : Nat) u, (u8s Y)[j]? = some u → w4.cell? (p.add j) = some u := fun _ => ⟨_, rfl, fun j u hj => by
        have e2 : (⟨G, 0, none⟩ : Addr).add j = ⟨G, j, none⟩ := by unfold Addr.add; split <;> simp_all
        rw [e2, C4.cell]; exact hj⟩
      have HNEWS := Lib.hid hnews
      clear hnews hch hsz C4 C5 hgG
      have hfin : Hid (T ++ Y = b64L (xs.take (j + n)) ∧ (T ++ Y).length = T.length + 4) := ⟨by rw [HSP.out, HY.out], by rw [List.length_append, HX5.out]⟩
      rcases Nat.eq_or_lt_of_le hnc with hcn | hcn
      · have hmn : m = n := by omega
        subst hcn
        subst hmn
        go_wp2_with (at_builtin; refine wpl_appN 25 5 Tryd.underlying25 info8 rfl (by decide) rfl _ _ rfl w.heap.size u3 T.length (u8s T) rfl HO.out (some ⟨G, 0, none⟩) 4 4 rfl (u8s Y) HX4.out HNEWS.out (fun h => by cases h) HX1.out (by omega) hwB4 ?_; intro v5 w5 hown5 hg5 _ _)
        have hO5 : w5.ownsRow w.heap.size 5 1 v5 (T ++ Y).length (u8s (T ++ Y)) := by rw [hfin.out.2, show u8s (T ++ Y) = u8s T ++ u8s Y by simp [u8s]]; exact hown5
        have hB5 : Below w.heap.size w w5 := HB.out.grown hg5 hwB4 (fun j hj => (World.ownsRow.lt HO.out j hj).1)
        have HO5 := Lib.hid hO5
        have HB5 := Lib.hid hB5
        clear hO5 hB5 hg5 hown5
        go_roundw
        case rel =>
          refine ⟨a', j + m, 0, 0, ys.drop m, T ++ Y, rfl, by omega, by omega, .inr rfl, HYS2.out, hfin.out.1, fun _ => rfl, (fun i hi => ?_), HO5.out, HB5.out⟩
          have := HYL.out
          simp at hi
          omega
        case measure => show (0 : Nat) < m; omega
      · have hcn2 : ¬ c = n := by omega
        have hcn3 : ¬ n = c := by omega
        obtain ⟨ba, oa, hap⟩ := HRY.out.isAt (by rw [HYL.out]; exact hm)
        subst hap
        have e2 : (⟨ba, oa, none⟩ : Addr).add n = ⟨ba, oa + n, none⟩ := by unfold Addr.add; split <;> simp_all
        have hR5 := rd_add HRY.out HYL.out n (m - n) (by omega)
        rw [List.take_of_length_le (by rw [List.length_drop, HYL.out]; exact Nat.le_refl _), e2] at hR5
        have HR5 := Lib.hid hR5
        clear hR5
        go_wp2_with (at_builtin; refine wpl_appN 25 5 Tryd.underlying25 info8 rfl (by decide) rfl _ _ rfl w.heap.size u3 T.length (u8s T) rfl HO.out (some ⟨G, 0, none⟩) 4 4 rfl (u8s Y) HX4.out HNEWS.out (fun h => by cases h) HX1.out (by omega) hwB4 ?_; intro v5 w5 hown5 hg5 _ _)
        have hO5 : w5.ownsRow w.heap.size 5 1 v5 (T ++ Y).length (u8s (T ++ Y)) := by rw [hfin.out.2, show u8s (T ++ Y) = u8s T ++ u8s Y by simp [u8s]]; exact hown5
        have hB5 : Below w.heap.size w w5 := HB.out.grown hg5 hwB4 (fun j hj => (World.ownsRow.lt HO.out j hj).1)
        have HO5 := Lib.hid hO5
        have HB5 := Lib.hid hB5
        clear hO5 hB5 hg5 hown5
        go_roundw
        case rel => exact ⟨some ⟨ba, oa + n, none⟩, j + n, m - n, c - n, ys.drop n, T ++ Y, rfl, by omega, by omega, HJ3.out, HYS2.out, hfin.out.1, (fun h => by cases h), HR5.out, HO5.out, HB5.out⟩
        case measure => show m - n < m; omega
    · obtain rfl : m = 0 := by omega
      obtain rfl : j = len := by omega
      have hT := HT.out
      rw [List.take_of_length_le (by rw [HL.out]; exact Nat.le_refl _)] at hT
      have ht := own_text HO.out rfl
      have HTT := Lib.hid hT
      clear hT
      go_wp2
      go_ret
      exact ⟨by rw [HTT.out]; rfl, HB.out⟩
end Go.Proofs.YtpipjkpjpkgmpaaDoor
