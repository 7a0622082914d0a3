import Derived.Test.YtaookoejdnkkoaaGreatDoorQ12
import Derived.Test.YtaookoejdnkkoaaGreatDoorQ08
import Derived.Laws.StructEq
import Derived.Test.YtaookoejdnkkoaaGreatDoorQ11
import Derived.Test.YtaookoejdnkkoaaGreatDoorQ03
namespace Go.Proofs.YtaookoejdnkkoaaGreatDoor
open Go.RowKit

theorem b64L_step (xs : List Nat) (j n : Nat) (hj : j % 3 = 0) (hjl : j ≤ xs.length) : b64L (xs.take (j + n)) = b64L (xs.take j) ++ b64L ((xs.drop j).take n) := by
  rw [List.take_add, b64L_app _ _ (by rw [List.length_take, Nat.min_eq_left hjl]; exact hj)]

set_option maxHeartbeats 2000000 in
set_option maxRecDepth 100000 in
theorem base64_any (a : Option Addr) (len cap : Nat) (xs : List Nat) (w : World) (hl : xs.length = len) (hbig : len ≤ 1099511627776) (hcap : len ≤ cap) (hcm : cap ≤ 9223372036854775807) (hna : a = none → cap = 0) (hr : Rd .u8 w a xs) (h8 : B8 xs) :
    Calls Tryz.prog 103 #[.slice a len cap] w fun e w' => e = .returned (.string (strN (b64L xs))) ∧ Below w.heap.size w w' := by
  have HR := Lib.hid hr
  have HL := Lib.hid hl
  have H8 := Lib.hid h8
  have HNA := Lib.hid hna
  clear hr hl h8 hna
  go_enter Tryz.func103, Tryz.ntmps103
  go_wp2_with (at_make; refine wpl_room8 rfl _ _ rfl w.heap.size _ _ _ ((len + 2) / 3 * 4) rfl rfl (by omega) (by omega) (Nat.le_refl _) ?_; intro w1 hown0 hb0 hlt0)
  have HO0 := Lib.hid hown0
  have HB0 := Lib.hid hb0
  clear hown0 hb0 hlt0
  go_loopw [0, 3] (fun bv v wr => ∃ (a' : Option Addr) (j m c : Nat) (ys T : List Nat), bv = .slice a' m c ∧ j + m = len ∧ j + c = cap ∧ Hid (j % 3 = 0 ∨ m = 0) ∧ Hid (ys = xs.drop j) ∧ Hid (T = b64L (xs.take j)) ∧ Hid (a' = none → c = 0) ∧ Hid (Rd .u8 w a' ys) ∧
    Hid (wr.ownsRow w.heap.size 5 1 v T.length (u8s T)) ∧ Hid (Below w.heap.size w wr)) (fun bv _ _ => match bv with | .slice _ m _ => m | _ => 0)
  case atStart => exact ⟨a, 0, len, cap, xs, [], rfl, by omega, by omega, .inl rfl, rfl, rfl, HNA.out, HR.out, HO0.out, HB0.out⟩
  case round =>
    obtain ⟨a', j, m, c, ys, T, rfl, hjm, hjc, HJ, HYS, HT, HN, HRY, HO, HB⟩ := hrel
    by_cases hm : 0 < m
    · obtain ⟨n, hn⟩ : ∃ n, n = min 3 m := ⟨_, rfl⟩
      have hmin : min (3 : Int) (m : Int) = (n : Int) := by omega
      have hn1 : 1 ≤ n := by omega
      have hn3 : n ≤ 3 := by omega
      have hnm : n ≤ m := by omega
      have hmc : m ≤ c := by omega
      have hnc : n ≤ c := by omega
      have hj3 : j % 3 = 0 := by rcases HJ.out with h | h <;> omega
      have hyl : ys.length = m := by rw [HYS.out, List.length_drop, HL.out]; omega
      have hsp := b64L_step xs j n hj3 (by rw [HL.out]; omega)
      rw [← HT.out, ← HYS.out] at hsp
      have h8y : B8 (ys.take n) := by rw [HYS.out]; exact (H8.out.drop j).take n
      have hj3' : (j + n) % 3 = 0 ∨ m - n = 0 := by omega
      have hys' : ys.drop n = xs.drop (j + n) := by rw [HYS.out, List.drop_drop]
      have htl : T.length ≤ 2 * len + 4 := by rw [HT.out, b64L_len, List.length_take, HL.out]; omega
      have hfl : (ys.take n).length = n := by rw [List.length_take, hyl]; omega
      have HJ3 := Lib.hid hj3'
      have HSP := Lib.hid hsp
      have HYL := Lib.hid hyl
      have H8Y := Lib.hid h8y
      have HYS2 := Lib.hid hys'
      have HFL := Lib.hid hfl
      have hwB := HB.out.size
      have hz4 := (zero_of_info infoA4).1
      clear hn hj3 hsp hyl h8y hj3' hys' hfl
      go_upto_region 4 with fail
      clear hmin
      refine wp_region_lit ?_
      iterate 3
        refine wpList_plain rfl fun K1 hK1 => ?_
        go_simp
        refine hK1 _ _ ?_
        clear hK1 K1
      refine wpList_plain rfl fun K1 hK1 => ?_
      go_simp
      go_at_call 153
      refine (four_any a' n c (ys.take n) _ HFL.out hn1 hn3 hnc (rd_pre (HRY.out.below HB.out) n) H8Y.out).mono ?_
      rintro e w2 ⟨rfl, hb2⟩
      go_simp
      have HX4 : Hid ((u8s (b64L (ys.take n))).length = 4) := by show _ = _; rw [u8s_len, b64L_len, HFL.out]; omega
      have HX5 : Hid ((b64L (ys.take n)).length = 4) := by have := HX4.out; rwa [u8s_len] at this
      have HX1 := Lib.hid (u8s_one8 (b64L (ys.take n)))
      obtain ⟨Y, hY⟩ : ∃ Y, Y = b64L (ys.take n) := ⟨_, rfl⟩
      rw [← hY] at HX4 HX1 HX5
      have HY := Lib.hid hY
      rw [← hY]
      clear hY
      refine hK1 _ _ ?_
      clear hK1 K1
      have HO := Lib.hid ((Chg.of_below hb2).owns HO.out (fun k hk => by have := (World.ownsRow.lt HO.out k hk).2; omega))
      have hgG : Hid (∀ k, u3.ownBlock = some k → k < w2.heap.size) := fun k hk => (World.ownsRow.lt HO.out k hk).2
      have HB := Lib.hid (HB.out.trans (hb2.mono hwB))
      have hwB2 : w.heap.size ≤ w2.heap.size := by have := hb2.size; omega
      clear hb2
      refine wpList_plain rfl fun K1 hK1 => ?_
      go_simp
      refine hK1 _ _ ?_
      clear hK1 K1 hz4
      have C5 := CB.new w2 156 (u8s (z8 4))
      have HO := Lib.hid (HO.out.alloc (.cells (u8s (z8 4)).toArray 156))
      have HB := Lib.hid (HB.out.alloc hwB2 (.cells (u8s (z8 4)).toArray 156))
      obtain ⟨G, hG⟩ : ∃ G, G = w2.heap.size := ⟨_, rfl⟩
      rw [← hG] at C5 hgG hwB2 ⊢
      clear hG
      generalize w2.alloc (.cells (u8s (z8 4)).toArray 156) = W3 at *
      refine wpList_plain rfl fun K1 hK1 => wp_storec 156 (.tmp 5) (.tmp 21) rfl G 0 4 rfl (u8s Y) rfl HX4.out C5 (zero_of_info infoA4).2 (by simp [u8s, z8]) HX1.out fun w4 C4 hch hsz => hK1 _ _ ?_
      clear hK1 K1
      rw [splice_all (by rw [HX4.out]; simp [u8s, z8])] at C4
      have HO := Lib.hid (hch.owns HO.out (fun k hk e => by have := hgG.out k hk; omega))
      have HB := Lib.hid (HB.out.trans (hch.below HB.out.size (fun k hk => by omega)))
      have hwB4 := HB.out.size
      have hnews : 0 < 4 → ∃ p, some (⟨G, 0, none⟩ : Addr) = some p ∧ ∀ (j : Nat) u, (u8s Y)[j]? = some u → w4.cell? (p.add j) = some u := fun _ => ⟨_, rfl, fun j u hj => by
        have e2 : (⟨G, 0, none⟩ : Addr).add j = ⟨G, j, none⟩ := by unfold Addr.add; split <;> simp_all
        rw [e2, C4.cell]; exact hj⟩
      have HNEWS := Lib.hid hnews
      clear hnews hch hsz C4 C5 hgG
      have hfin : Hid (T ++ Y = b64L (xs.take (j + n)) ∧ (T ++ Y).length = T.length + 4) := ⟨by rw [HSP.out, HY.out], by rw [List.length_append, HX5.out]⟩
      rcases Nat.eq_or_lt_of_le hnc with hcn | hcn
      · have hmn : m = n := by omega
        subst hcn
        subst hmn
        go_wp2_with (at_builtin; refine wpl_appN 40 5 Tryz.underlying40 info8 rfl (by decide) rfl _ _ rfl w.heap.size u3 T.length (u8s T) rfl HO.out (some ⟨G, 0, none⟩) 4 4 rfl (u8s Y) HX4.out HNEWS.out (fun h => by cases h) HX1.out (by omega) hwB4 ?_; intro v5 w5 hown5 hg5 _ _)
        have hO5 : w5.ownsRow w.heap.size 5 1 v5 (T ++ Y).length (u8s (T ++ Y)) := by rw [hfin.out.2, show u8s (T ++ Y) = u8s T ++ u8s Y by simp [u8s]]; exact hown5
        have hB5 : Below w.heap.size w w5 := HB.out.grown hg5 hwB4 (fun j hj => (World.ownsRow.lt HO.out j hj).1)
        have HO5 := Lib.hid hO5
        have HB5 := Lib.hid hB5
        clear hO5 hB5 hg5 hown5
        go_roundw
        case rel =>
          refine ⟨a', j + m, 0, 0, ys.drop m, T ++ Y, rfl, by omega, by omega, .inr rfl, HYS2.out, hfin.out.1, fun _ => rfl, (fun i hi => ?_), HO5.out, HB5.out⟩
          have := HYL.out
          simp at hi
          omega
        case measure => show (0 : Nat) < m; omega
      · have hcn2 : ¬ c = n := by omega
        have hcn3 : ¬ n = c := by omega
        obtain ⟨ba, oa, hap⟩ := HRY.out.isAt (by rw [HYL.out]; exact hm)
        subst hap
        have e2 : (⟨ba, oa, none⟩ : Addr).add n = ⟨ba, oa + n, none⟩ := by unfold Addr.add; split <;> simp_all
        have hR5 := rd_add HRY.out HYL.out n (m - n) (by omega)
        rw [List.take_of_length_le (by rw [List.length_drop, HYL.out]; exact Nat.le_refl _), e2] at hR5
        have HR5 := Lib.hid hR5
        clear hR5
        go_wp2_with (at_builtin; refine wpl_appN 40 5 Tryz.underlying40 info8 rfl (by decide) rfl _ _ rfl w.heap.size u3 T.length (u8s T) rfl HO.out (some ⟨G, 0, none⟩) 4 4 rfl (u8s Y) HX4.out HNEWS.out (fun h => by cases h) HX1.out (by omega) hwB4 ?_; intro v5 w5 hown5 hg5 _ _)
        have hO5 : w5.ownsRow w.heap.size 5 1 v5 (T ++ Y).length (u8s (T ++ Y)) := by rw [hfin.out.2, show u8s (T ++ Y) = u8s T ++ u8s Y by simp [u8s]]; exact hown5
        have hB5 : Below w.heap.size w w5 := HB.out.grown hg5 hwB4 (fun j hj => (World.ownsRow.lt HO.out j hj).1)
        have HO5 := Lib.hid hO5
        have HB5 := Lib.hid hB5
        clear hO5 hB5 hg5 hown5
        go_roundw
        case rel => exact ⟨some ⟨ba, oa + n, none⟩, j + n, m - n, c - n, ys.drop n, T ++ Y, rfl, by omega, by omega, HJ3.out, HYS2.out, hfin.out.1, (fun h => by cases h), HR5.out, HO5.out, HB5.out⟩
        case measure => show m - n < m; omega
    · obtain rfl : m = 0 := by omega
      obtain rfl : j = len := by omega
      have hT := HT.out
      rw [List.take_of_length_le (by rw [HL.out]; exact Nat.le_refl _)] at hT
      have ht := own_text HO.out rfl
      have HTT := Lib.hid hT
      clear hT
      go_wp2
      go_ret
      exact ⟨by rw [HTT.out]; rfl, HB.out⟩

theorem i64_join (x y k : Nat) (hk : k ≤ 32) (hy : y < 2 ^ k) (hx : x * 2 ^ k < 9223372036854775808) : bits BinOp.or IntKind.i64 ((x * 2 ^ k : Nat) : Int) (y : Int) = ((x * 2 ^ k + y : Nat) : Int) := by
  have h2 : (2 : Nat) ^ k ≤ 2 ^ 32 := Nat.pow_le_pow_right (by decide) hk
  rw [i64_or_natural _ _ hx (by omega), nat_join k _ _ (Nat.mul_mod_left _ _) hy]
theorem len_snoc (l : List Nat) (x : Nat) : (l ++ [x]).length = l.length + 1 := by simp
/-- The number of a piece's bytes. -/
def xk (ys : List Nat) : Nat → Nat
  | 0 => 0
  | k + 1 => xk ys k * 256 + at0 ys k
theorem xk_lt {ys : List Nat} (h : B8 ys) : ∀ k, xk ys k < 256 ^ k
  | 0 => by simp [xk]
  | k + 1 => by
    have h1 := xk_lt h k
    have h2 := h.at0 k
    rw [xk, Nat.pow_succ]
    omega
theorem laid4_piece {ys : List Nat} {n : Nat} (h8 : B8 ys) (hn : n = min 3 ys.length) (h1 : 1 ≤ n) : laid4 (xk ys 3) (n + 1) = b64L (ys.take n) := by
  have hl : (ys.take n).length = n := by rw [List.length_take]; omega
  have e : ∀ j, j < 3 → at0 (ys.take n) j = at0 ys j := fun j hj => by
    by_cases h : j < n
    · exact at0_take h
    · rw [at0_out (by omega), at0_out (by omega)]
  have := laid4_all (h8.take n) (by omega) (by omega)
  rw [hl, e 0 (by omega), e 1 (by omega), e 2 (by omega)] at this
  have ex : xk ys 3 = at0 ys 0 * 65536 + at0 ys 1 * 256 + at0 ys 2 := by
    show ((0 * 256 + at0 ys 0) * 256 + at0 ys 1) * 256 + at0 ys 2 = _
    omega
  rw [ex, this]

set_option maxHeartbeats 4000000 in
set_option maxRecDepth 100000 in
theorem rbase64_any (a : Option Addr) (len cap : Nat) (xs : List Nat) (w : World) (hl : xs.length = len) (hbig : len ≤ 1099511627776) (hr : Rd .u8 w a xs) (h8 : B8 xs) :
    Calls Tryz.prog 51 #[.slice a len cap] w fun e w' => e = .returned (.string (strN (b64L xs))) ∧ Below w.heap.size w w' := by
  have HR := Lib.hid hr
  have HL := Lib.hid hl
  have H8 := Lib.hid h8
  clear hr hl h8
  go_enter Tryz.func51, Tryz.ntmps51
  go_wp2
  go_loopw [3, 4] (fun v iv wr => ∃ (i : Nat) (T : List Nat), i ≤ len + 2 ∧ iv = .int .i64 (i : Nat) ∧ Hid (i % 3 = 0) ∧ Hid (T = b64L (xs.take i)) ∧
    Hid (wr.ownsRow w.heap.size 5 1 v T.length (u8s T)) ∧ Hid (Below w.heap.size w wr)) (fun _ iv _ => len + 3 - (intOf iv).toNat)
  case atStart => exact ⟨0, [], by omega, rfl, rfl, rfl, World.ownsRow_nil _ _ _ _, Below.refl _ _⟩
  case round =>
    obtain ⟨i, T, hi, rfl, H3, HT, HO, HB⟩ := hrel
    by_cases hlt : i < len
    · obtain ⟨ys, hys⟩ : ∃ ys, ys = xs.drop i := ⟨_, rfl⟩
      have hyl : ys.length = len - i := by rw [hys, List.length_drop, HL.out]
      have hy8 : B8 ys := by rw [hys]; exact H8.out.drop i
      obtain ⟨n, hn⟩ : ∃ n, n = min 3 (len - i) := ⟨_, rfl⟩
      have hsub : (len : Int) - (i : Int) = ((len - i : Nat) : Int) := by omega
      have hmin : min (3 : Int) ((len : Int) - (i : Int)) = (n : Int) := by omega
      have hn1 : 1 ≤ n := by omega
      have hn3 : n ≤ 3 := by omega
      have hni : i + n ≤ len := by omega
      have HP : Hid (b64L (xs.take (i + 3)) = T ++ laid4 (xk ys 3) (n + 1)) := by
        show _ = _
        have h := b64L_step xs i n H3.out (by rw [HL.out]; omega)
        rw [laid4_piece hy8 (by rw [hyl]; exact hn) hn1, HT.out, hys, ← h]
        by_cases h4 : i + 3 ≤ len
        · rw [show n = 3 by omega]
        · rw [List.take_of_length_le (by rw [HL.out]; omega), List.take_of_length_le (by rw [HL.out]; omega)]
      have hTl : T.length ≤ 2 * len + 4 := by rw [HT.out, b64L_len, List.length_take, HL.out]; omega
      have HYS := Lib.hid hys
      have HY8 := Lib.hid hy8
      have HN := Lib.hid hn
      clear hys hyl hy8 hn hsub
      go_wp2
      go_loopw [5, 7] (fun x kv wr => ∃ k : Nat, k ≤ 3 ∧ kv = .int .i64 (k : Nat) ∧ x = .int .i64 (xk ys k : Nat) ∧ Hid (wr.ownsRow w.heap.size 5 1 u3 T.length (u8s T)) ∧ Hid (Below w.heap.size w wr)) (fun _ kv _ => 3 - (intOf kv).toNat)
      case atStart => exact ⟨0, by omega, rfl, rfl, HO.out, HB.out⟩
      case round =>
        clear hmin
        obtain ⟨k, hk, rfl, rfl, HO, HB⟩ := hrel
        by_cases hk3 : k < 3
        · have hxl := xk_lt HY8.out k
          have hxl2 : xk ys k < 65536 := Nat.lt_of_lt_of_le hxl (by rcases k with _ | _ | _ | k <;> first | decide | omega)
          have hn' := HN.out
          obtain ⟨t, ht⟩ : ∃ t, t = at0 ys k := ⟨_, rfl⟩
          have ht8 : t < 256 := by rw [ht]; exact HY8.out.at0 k
          have HXN : Hid (xk ys (k + 1) = xk ys k * 256 + t) := by show _ = _; rw [xk, ht]
          have HTT : Hid (n ≤ k → t = 0) := fun h => by rw [ht]; exact at0_out (by rw [HYS.out, List.length_drop, HL.out]; omega)
          have hgt : at0 xs (i + k) = t := by rw [ht, HYS.out, at0_drop]
          generalize xk ys k = x at *
          clear hxl ht
          by_cases hkn : k < n
          · obtain ⟨ba, oa, rfl⟩ := HR.out.isAt (by rw [HL.out]; omega)
            have hcell : wr.cell? ⟨ba, oa + (i + k), none⟩ = some (.int .u8 (t : Nat)) := by
              have := below_cell HB.out _ _ (HR.out.cell (i := i + k) (by rw [HL.out]; omega))
              rwa [hgt] at this
            have ho : bits BinOp.or IntKind.i64 ((x : Int) * 256) (t : Int) = ((x * 256 + t : Nat) : Int) := i64_join x t 8 (by decide) (by omega) (by omega)
            obtain ⟨y, hy⟩ : ∃ y, y = x * 256 + t := ⟨_, rfl⟩
            rw [← hy] at ho HXN
            clear hgt hn' hy
            go_wp2
            go_roundw
            case rel => exact ⟨k + 1, by omega, by go_num, by rw [HXN.out], HO.out, HB.out⟩
            case measure => simp [intOf]; omega
          · have ht0 := HTT.out (by omega)
            have hge : n ≤ k := by omega
            rw [ht0] at HXN
            clear hgt hn' ht0 hkn
            go_wp2
            go_roundw
            case rel => exact ⟨k + 1, by omega, by go_num, by rw [HXN.out]; go_num, HO.out, HB.out⟩
            case measure => simp [intOf]; omega
        · obtain rfl : k = 3 := by omega
          have hNb := xk_lt HY8.out 3
          generalize xk ys 3 = N at *
          have hk4 : ¬ ((3 : Nat) : Int) < 3 := by omega
          go_wp2
          have HL4 := laid4_len N (n + 1)
          go_loopw [3, 8] (fun v3 kv wr => ∃ (k : Nat) (TK : List Nat), k ≤ 4 ∧ kv = .int .i64 (k : Nat) ∧ Hid (TK = T ++ (laid4 N (n + 1)).take k) ∧ Hid (wr.ownsRow w.heap.size 5 1 v3 TK.length (u8s TK)) ∧ Hid (Below w.heap.size w wr)) (fun _ kv _ => 4 - (intOf kv).toNat)
          case atStart => exact ⟨0, T, by omega, rfl, by show _ = _; simp, HO.out, HB.out⟩
          case round =>
            clear HO HB hk4 hk hk3
            obtain ⟨k, TK, hk, rfl, HTK, HO, HB⟩ := hrel
            have hwB := HB.out.size
            have htkl : TK.length ≤ T.length + 4 := by rw [HTK.out, List.length_append, List.length_take]; omega
            by_cases hk4 : k < 4
            · have hnx : ∀ y, at0 (laid4 N (n + 1)) k = y → Hid (TK ++ [y] = T ++ (laid4 N (n + 1)).take (k + 1)) := fun y hy => by
                show _ = _
                rw [HTK.out, take_succ_at0 (by omega), hy, List.append_assoc]
              have hat : at0 (laid4 N (n + 1)) k = if k < n + 1 then b64D (dig4 N k) else 61 := by
                rw [at0_getElem (by omega)]
                simp [laid4]
              clear HL4
              by_cases hkn : k ≤ n
              · rw [if_pos (by omega)] at hat
                obtain ⟨q, hq⟩ : ∃ q, q = 18 - 6 * k := ⟨_, rfl⟩
                have e1 : (18 : Int) - 6 * (k : Int) = (q : Int) := by omega
                obtain ⟨d, hd⟩ : ∃ d, d = dig4 N k := ⟨_, rfl⟩
                obtain ⟨F, hF⟩ : ∃ F, F = N / 2 ^ q := ⟨_, rfl⟩
                have e2 : (N : Int) / 2 ^ q = (F : Int) := by rw [hF]; simp
                have e3 : (F : Int) % 64 = (d : Int) := by rw [hd, dig4, ← hq, ← hF]; omega
                have hd64 : d < 64 := by rw [hd, dig4]; exact Nat.mod_lt _ (by decide)
                have i1 : ∀ W, (Instr.index 9 (.string ⟨#[65, 66, 67, 68, 69, 70, 71, 72, 73, 74, 75, 76, 77, 78, 79, 80, 81, 82, 83, 84, 85, 86, 87, 88, 89, 90, 97, 98, 99, 100, 101, 102, 103, 104, 105, 106, 107, 108, 109, 110, 111, 112, 113, 114, 115, 116, 117, 118, 119, 120, 121, 122, 48, 49, 50, 51, 52, 53, 54, 55, 56, 57, 43, 47]⟩) (.int .i64 (d : Int))).run Tryz.prog W = .ok (.int .u8 (b64D d : Nat)) W := idx_b64 9 Tryz.underlying9 .i64 d hd64
                obtain ⟨y, hy⟩ : ∃ y, y = b64D d := ⟨_, rfl⟩
                rw [← hy] at i1
                have HNX := hnx y (by rw [hat, hy, hd])
                have hq64 : q ≤ 18 := by omega
                have hm : min q 64 = q := by omega
                clear hnx hat hq hd hF hy hd64 hNb
                go_wp2_with (at_builtin; refine wpl_app 40 5 Tryz.underlying40 info8 rfl (by decide) rfl _ _ rfl w.heap.size _ TK.length (u8s TK) rfl (HO.out.alloc _) wr.heap.size _ rfl (World.cell?_alloc_at _ _ _ _ rfl) rfl (by omega) (by simp; omega) ?_; intro g cap' w1 hown1 hg1 hBg _ _)
                have hown2 : w1.ownsRow w.heap.size 5 1 (.slice (some ⟨g, 0, none⟩) (TK.length + 1) cap') (TK ++ [y]).length (u8s (TK ++ [y])) := by rw [show u8s (TK ++ [y]) = u8s TK ++ [.int .u8 (y : Nat)] by simp [u8s], show (TK ++ [y]).length = TK.length + 1 by simp]; exact hown1
                have hb2 : Below w.heap.size w w1 := (HB.out.alloc hwB _).grown hg1 (by simp; omega) (fun j hj => (World.ownsRow.lt HO.out j hj).1)
                have HO2 := Lib.hid hown2
                have HB2 := Lib.hid hb2
                clear hown1 hown2 hb2 hg1
                go_roundw
                case rel => exact ⟨k + 1, TK ++ [y], by omega, by go_num, HNX.out, HO2.out, HB2.out⟩
                case measure => simp [intOf]; omega
              · rw [if_neg (by omega)] at hat
                have hkn2 : n < k := by omega
                obtain ⟨y, hy⟩ : ∃ y, y = 61 := ⟨_, rfl⟩
                have HNX := hnx y (by rw [hat, hy])
                clear hnx hat hkn hNb
                subst hy
                go_wp2_with (at_builtin; refine wpl_app 40 5 Tryz.underlying40 info8 rfl (by decide) rfl _ _ rfl w.heap.size _ TK.length (u8s TK) rfl (HO.out.alloc _) wr.heap.size _ rfl (World.cell?_alloc_at _ _ _ _ rfl) rfl (by omega) (by simp; omega) ?_; intro g cap' w1 hown1 hg1 hBg _ _)
                have hown2 : w1.ownsRow w.heap.size 5 1 (.slice (some ⟨g, 0, none⟩) (TK.length + 1) cap') (TK ++ [61]).length (u8s (TK ++ [61])) := by rw [show u8s (TK ++ [61]) = u8s TK ++ [.int .u8 61] by simp [u8s], len_snoc TK 61]; exact hown1
                have hb2 : Below w.heap.size w w1 := (HB.out.alloc hwB _).grown hg1 (by simp; omega) (fun j hj => (World.ownsRow.lt HO.out j hj).1)
                have HO2 := Lib.hid hown2
                have HB2 := Lib.hid hb2
                clear hown1 hown2 hb2 hg1
                go_roundw
                case rel => exact ⟨k + 1, TK ++ [61], by omega, by go_num, HNX.out, HO2.out, HB2.out⟩
                case measure => simp [intOf]; omega
            · obtain rfl : k = 4 := by omega
              have HT4 : Hid (TK = b64L (xs.take (i + 3))) := by
                show _ = _
                rw [HP.out, HTK.out, List.take_of_length_le (by omega)]
              have h4 : ¬ ((4 : Nat) : Int) < 4 := by omega
              have h3' := H3.out
              clear hNb HL4
              go_wp2
              go_roundw
              case rel => exact ⟨i + 3, TK, by omega, by go_num, by show _ = _; omega, HT4.out, HO.out, HB.out⟩
              case measure => simp [intOf]; omega
    · have hT := HT.out
      rw [List.take_of_length_le (by rw [HL.out]; omega)] at hT
      have ht := own_text HO.out rfl
      have HTT := Lib.hid hT
      clear hT
      go_wp2
      go_ret
      exact ⟨by rw [HTT.out]; rfl, HB.out⟩

def D64 (l : List Nat) : Prop := ∀ x ∈ l, x < 64
theorem D64.snoc {ds : List Nat} {d : Nat} (h : D64 ds) (hd : d < 64) : D64 (ds ++ [d]) := fun x hx => by
  rcases List.mem_append.1 hx with h1 | h1
  · exact h x h1
  · simp at h1; omega
/-- What letters' worths tell: the bytes, and the bits that are left. -/
def dec : List Nat → List Nat × Nat
  | [] => ([], 0)
  | [a] => ([], a)
  | [a, b] => ([a * 4 + b / 16], b % 16)
  | [a, b, c] => ([a * 4 + b / 16, b % 16 * 16 + c / 4], c % 4)
  | a :: b :: c :: d :: t => ((a * 4 + b / 16) :: (b % 16 * 16 + c / 4) :: (c % 4 * 64 + d) :: (dec t).1, (dec t).2)
/-- The worths of bytes' letters. -/
def encW : List Nat → List Nat
  | [] => []
  | [a] => [a / 4, a % 4 * 16]
  | [a, b] => [a / 4, a % 4 * 16 + b / 16, b % 16 * 4]
  | a :: b :: c :: t => (a / 4) :: (a % 4 * 16 + b / 16) :: (b % 16 * 4 + c / 64) :: (c % 64) :: encW t
def fillN (c : List Nat) : Nat := (3 - c.length % 3) % 3
theorem encW_64 : ∀ c : List Nat, B8 c → D64 (encW c)
  | [], _ => fun x hx => by cases hx
  | [a], h => fun x hx => by
    have := h.head
    simp [encW] at hx; omega
  | [a, b], h => fun x hx => by
    have := h.head
    have := h.tail.head
    simp [encW] at hx; omega
  | a :: b :: c :: t, h => fun x hx => by
    have := h.head
    have := h.tail.head
    have := h.tail.tail.head
    simp only [encW, List.mem_cons] at hx
    rcases hx with rfl | rfl | rfl | rfl | hx
    · omega
    · omega
    · omega
    · omega
    · exact encW_64 t h.tail.tail.tail x hx
theorem b64L_enc : ∀ c : List Nat, b64L c = (encW c).map b64D ++ List.replicate (fillN c) 61
  | [] => rfl
  | [_] => rfl
  | [_, _] => rfl
  | a :: b :: c :: t => by
    have e : fillN (a :: b :: c :: t) = fillN t := by unfold fillN; simp only [List.length_cons]; omega
    rw [e]
    simp only [b64L, encW, List.map_cons, List.cons_append, b64L_enc t]
theorem dec_encW : ∀ c : List Nat, B8 c → dec (encW c) = (c, 0)
  | [], _ => rfl
  | [a], h => by
    have := h.head
    simp only [encW, dec]
    rw [show a / 4 * 4 + a % 4 * 16 / 16 = a by omega, show a % 4 * 16 % 16 = 0 by omega]
  | [a, b], h => by
    have := h.head
    have := h.tail.head
    simp only [encW, dec]
    rw [show a / 4 * 4 + (a % 4 * 16 + b / 16) / 16 = a by omega, show (a % 4 * 16 + b / 16) % 16 * 16 + b % 16 * 4 / 4 = b by omega, show b % 16 * 4 % 4 = 0 by omega]
  | a :: b :: c :: t, h => by
    have := h.head
    have := h.tail.head
    have := h.tail.tail.head
    simp only [encW, dec, dec_encW t h.tail.tail.tail]
    rw [show a / 4 * 4 + (a % 4 * 16 + b / 16) / 16 = a by omega, show (a % 4 * 16 + b / 16) % 16 * 16 + (b % 16 * 4 + c / 64) / 4 = b by omega, show (b % 16 * 4 + c / 64) % 4 * 64 + c % 64 = c by omega]
theorem dec_8 : ∀ ws : List Nat, D64 ws → B8 (dec ws).1
  | [], _ => fun x hx => by cases hx
  | [a], _ => fun x hx => by cases hx
  | [a, b], h => fun x hx => by
    have h1 := h a (by simp)
    have h2 := h b (by simp)
    simp [dec] at hx; omega
  | [a, b, c], h => fun x hx => by
    have h1 := h a (by simp)
    have h2 := h b (by simp)
    have h3 := h c (by simp)
    simp [dec] at hx; omega
  | a :: b :: c :: d :: t, h => fun x hx => by
    have h1 := h a (by simp)
    have h2 := h b (by simp)
    have h3 := h c (by simp)
    have h4 := h d (by simp)
    simp only [dec, List.mem_cons] at hx
    rcases hx with rfl | rfl | rfl | hx
    · omega
    · omega
    · omega
    · exact dec_8 t (fun y hy => h y (by simp [hy])) x hx
theorem dec_len : ∀ ws : List Nat, (dec ws).1.length = ws.length * 6 / 8
  | [] => rfl
  | [_] => by simp [dec]
  | [_, _] => by simp [dec]
  | [_, _, _] => by simp [dec]
  | a :: b :: c :: d :: t => by simp only [dec, List.length_cons, dec_len t]; omega
/-- One letter more. -/
theorem dec_snoc : ∀ (ws : List Nat) (w : Nat), D64 ws → w < 64 →
    (ws.length % 4 = 0 ∧ (dec ws).2 = 0 ∧ dec (ws ++ [w]) = ((dec ws).1, w)) ∨
    (ws.length % 4 = 1 ∧ (dec ws).2 < 64 ∧ dec (ws ++ [w]) = ((dec ws).1 ++ [((dec ws).2 * 64 + w) / 16], ((dec ws).2 * 64 + w) % 16)) ∨
    (ws.length % 4 = 2 ∧ (dec ws).2 < 16 ∧ dec (ws ++ [w]) = ((dec ws).1 ++ [((dec ws).2 * 64 + w) / 4], ((dec ws).2 * 64 + w) % 4)) ∨
    (ws.length % 4 = 3 ∧ (dec ws).2 < 4 ∧ dec (ws ++ [w]) = ((dec ws).1 ++ [(dec ws).2 * 64 + w], 0))
  | [], w, _, _ => .inl ⟨rfl, rfl, rfl⟩
  | [a], w, h, hw => .inr (.inl ⟨rfl, h a (by simp), by
    have := h a (by simp)
    simp only [List.cons_append, List.nil_append, dec]
    rw [show (a * 64 + w) / 16 = a * 4 + w / 16 by omega, show (a * 64 + w) % 16 = w % 16 by omega]⟩)
  | [a, b], w, h, hw => .inr (.inr (.inl ⟨rfl, by simp only [dec]; omega, by
    have := h b (by simp)
    simp only [List.cons_append, List.nil_append, dec]
    rw [show (b % 16 * 64 + w) / 4 = b % 16 * 16 + w / 4 by omega, show (b % 16 * 64 + w) % 4 = w % 4 by omega]⟩))
  | [a, b, c], w, h, hw => .inr (.inr (.inr ⟨rfl, by simp only [dec]; omega, by
    simp only [List.cons_append, List.nil_append, dec]⟩))
  | a :: b :: c :: d :: t, w, h, hw => by
    have hl : (a :: b :: c :: d :: t).length % 4 = t.length % 4 := by simp only [List.length_cons]; omega
    rw [hl]
    have e1 : (dec (a :: b :: c :: d :: t)).1 = (a * 4 + b / 16) :: (b % 16 * 16 + c / 4) :: (c % 4 * 64 + d) :: (dec t).1 := rfl
    have e2 : (dec (a :: b :: c :: d :: t)).2 = (dec t).2 := rfl
    have e3 : dec (a :: b :: c :: d :: t ++ [w]) = ((a * 4 + b / 16) :: (b % 16 * 16 + c / 4) :: (c % 4 * 64 + d) :: (dec (t ++ [w])).1, (dec (t ++ [w])).2) := rfl
    rw [e1, e2, e3]
    rcases dec_snoc t w (fun y hy => h y (by simp [hy])) hw with ⟨g1, g2, g3⟩ | ⟨g1, g2, g3⟩ | ⟨g1, g2, g3⟩ | ⟨g1, g2, g3⟩
    · exact .inl ⟨g1, g2, by rw [g3]⟩
    · exact .inr (.inl ⟨g1, g2, by rw [g3]; rfl⟩)
    · exact .inr (.inr (.inl ⟨g1, g2, by rw [g3]; rfl⟩))
    · exact .inr (.inr (.inr ⟨g1, g2, by rw [g3]; rfl⟩))
/-- Letters that are whole tell their text. -/
theorem dec_text : ∀ (ws : List Nat) (f : Nat), D64 ws → f ≤ 2 → (ws.length + f) % 4 = 0 → (dec ws).2 = 0 → b64L (dec ws).1 = ws.map b64D ++ List.replicate f 61
  | [], f, _, hf, hl, _ => by
    obtain rfl : f = 0 := by simp at hl; omega
    rfl
  | [_], f, _, hf, hl, _ => by simp at hl; omega
  | [a, b], f, h, hf, hl, hb => by
    obtain rfl : f = 2 := by simp at hl; omega
    have h1 := h a (by simp)
    have h2 := h b (by simp)
    have hb : b % 16 = 0 := hb
    simp only [dec, b64L]
    rw [show (a * 4 + b / 16) / 4 = a by omega, show (a * 4 + b / 16) % 4 * 16 = b by omega]
    rfl
  | [a, b, c], f, h, hf, hl, hb => by
    obtain rfl : f = 1 := by simp at hl; omega
    have h1 := h a (by simp)
    have h2 := h b (by simp)
    have h3 := h c (by simp)
    have hb : c % 4 = 0 := hb
    simp only [dec, b64L]
    rw [show (a * 4 + b / 16) / 4 = a by omega, show (a * 4 + b / 16) % 4 * 16 + (b % 16 * 16 + c / 4) / 16 = b by omega, show (b % 16 * 16 + c / 4) % 16 * 4 = c by omega]
    rfl
  | a :: b :: c :: d :: t, f, h, hf, hl, hb => by
    have h1 := h a (by simp)
    have h2 := h b (by simp)
    have h3 := h c (by simp)
    have h4 := h d (by simp)
    have ih := dec_text t f (fun y hy => h y (by simp [hy])) hf (by simp only [List.length_cons] at hl; omega) hb
    simp only [dec, b64L, List.map_cons, List.cons_append, ih]
    rw [show (a * 4 + b / 16) / 4 = a by omega, show (a * 4 + b / 16) % 4 * 16 + (b % 16 * 16 + c / 4) / 16 = b by omega, show (b % 16 * 16 + c / 4) % 16 * 4 + (c % 4 * 64 + d) / 64 = c by omega, show (c % 4 * 64 + d) % 64 = d by omega]
theorem map64_inj : ∀ (a b : List Nat), D64 a → D64 b → a.map b64D = b.map b64D → a = b
  | [], [], _, _, _ => rfl
  | [], _ :: _, _, _, h => by simp at h
  | _ :: _, [], _, _, h => by simp at h
  | x :: a, y :: b, ha, hb, h => by
    simp only [List.map_cons, List.cons.injEq] at h
    rw [b64D_inj (ha x (by simp)) (hb y (by simp)) h.1, map64_inj a b (fun z hz => ha z (by simp [hz])) (fun z hz => hb z (by simp [hz])) h.2]
/-- A text, and what is left of it without its fills. -/
def Unf (l u : List Nat) : Prop := ∃ f, f ≤ 2 ∧ l = u ++ List.replicate f 61 ∧ (f < 2 → u.getLast? ≠ some 61)
theorem Unf.of_enc {l u : List Nat} (h : Unf l u) {c : List Nat} (hc : B8 c) (he : b64L c = l) : u = (encW c).map b64D := by
  obtain ⟨f, hf, hl, hn⟩ := h
  rw [b64L_enc] at he
  have hg : fillN c ≤ 2 := by unfold fillN; omega
  have hd : ∀ x ∈ (encW c).map b64D, x ≠ 61 := fun x hx => by
    obtain ⟨y, hy, rfl⟩ := List.mem_map.1 hx
    exact (b64D_lt (encW_64 c hc y hy)).2
  generalize (encW c).map b64D = v at *
  generalize fillN c = g at *
  have key : v ++ List.replicate g 61 = u ++ List.replicate f 61 := he.trans hl
  rcases Nat.lt_trichotomy f g with h | h | h
  · exfalso
    obtain ⟨k, rfl⟩ : ∃ k, g = k + 1 + f := ⟨g - f - 1, by omega⟩
    rw [← List.replicate_append_replicate, ← List.append_assoc] at key
    have := List.append_cancel_right key
    rw [List.replicate_succ', ← List.append_assoc] at this
    refine hn (by omega) ?_
    rw [← this]
    simp
  · subst h
    exact (List.append_cancel_right key).symm
  · exfalso
    obtain ⟨k, rfl⟩ : ∃ k, f = k + 1 + g := ⟨f - g - 1, by omega⟩
    rw [← List.replicate_append_replicate, ← List.append_assoc] at key
    have := List.append_cancel_right key
    exact hd 61 (by rw [this]; simp [List.replicate_succ]) rfl
theorem un64_len {l : List Nat} (h : l.length % 4 ≠ 0) : Un64Tells l 61 [] := .inr ⟨rfl, rfl, fun c _ he => by
  have := congrArg List.length he
  rw [b64L_len] at this
  omega⟩
theorem un64_no {l u : List Nat} (h : Unf l u) {i : Nat} (hi : i < u.length) (hn : ∀ d, d < 64 → b64D d ≠ at0 u i) : Un64Tells l 61 [] := .inr ⟨rfl, rfl, fun c hc he => by
  have e := h.of_enc hc he
  have h1 : at0 u i ∈ u := by rw [at0_getElem hi]; exact List.getElem_mem hi
  rw [e] at h1
  obtain ⟨y, hy, h2⟩ := List.mem_map.1 h1
  rw [← e] at h2
  exact hn y (encW_64 c hc y hy) h2⟩
theorem un64_high {l u : List Nat} (h : Unf l u) {i : Nat} (hi : i < u.length) (hn : 128 ≤ at0 u i) : Un64Tells l 61 [] := un64_no h hi fun d hd e => by
  have := (b64D_lt hd).1
  omega
theorem un64_bits {l u ws : List Nat} (h : Unf l u) (hd : D64 ws) (hm : ws.map b64D = u) (hb : (dec ws).2 ≠ 0) : Un64Tells l 61 [] := .inr ⟨rfl, rfl, fun c hc he => by
  have e := h.of_enc hc he
  rw [← hm] at e
  have e2 := map64_inj _ _ hd (encW_64 c hc) e
  rw [e2, dec_encW c hc] at hb
  exact hb rfl⟩
theorem un64_yes {l u ws : List Nat} (h : Unf l u) (hl : l.length % 4 = 0) (hd : D64 ws) (hm : ws.map b64D = u) (hb : (dec ws).2 = 0) : Un64Tells l 0 (dec ws).1 := .inl ⟨rfl, dec_8 ws hd, by
  obtain ⟨f, hf, he, _⟩ := h
  have hwl : ws.length = u.length := by rw [← hm]; simp
  rw [dec_text ws f hd hf (by rw [he] at hl; simpa [hwl] using hl) hb, hm, he]⟩
end Go.Proofs.YtaookoejdnkkoaaGreatDoor
