import Derived.Test.YtpipjkpjpkgmpaaDoorCoH
namespace Go.Proofs.YtpipjkpjpkgmpaaDoor
open Go.RowKit

theorem i64_or_natural (a b : Nat) (ha : a < 9223372036854775808) (hb : b < 9223372036854775808) : bits BinOp.or IntKind.i64 (a : Int) (b : Int) = ((a ||| b : Nat) : Int) := by
  have h1 : (BitVec.ofInt 64 (a : Int)).toNat = a := by
    rw [BitVec.ofInt_natCast, BitVec.toNat_ofNat]; exact Nat.mod_eq_of_lt (by omega)
  have h2 : (BitVec.ofInt 64 (b : Int)).toNat = b := by
    rw [BitVec.ofInt_natCast, BitVec.toNat_ofNat]; exact Nat.mod_eq_of_lt (by omega)
  show IntKind.i64.wrap ((BitVec.ofInt 64 (a : Int) ||| BitVec.ofInt 64 (b : Int)).toNat : Int) = _
  rw [BitVec.toNat_or, h1, h2]
  have h3 : a ||| b < 2 ^ 63 := Nat.or_lt_two_pow (by omega) (by omega)
  exact wrap_i64_nat _ (by omega)
theorem i64_join (x y k : Nat) (hk : k ≤ 32) (hy : y < 2 ^ k) (hx : x * 2 ^ k < 9223372036854775808) : bits BinOp.or IntKind.i64 ((x * 2 ^ k : Nat) : Int) (y : Int) = ((x * 2 ^ k + y : Nat) : Int) := by
  have h2 : (2 : Nat) ^ k ≤ 2 ^ 32 := Nat.pow_le_pow_right (by decide) hk
  rw [i64_or_natural _ _ hx (by omega), nat_join k _ _ (Nat.mul_mod_left _ _) hy]
theorem len_snoc (l : List Nat) (x : Nat) : (l ++ [x]).length = l.length + 1 := by simp
/-- The number of a piece's bytes. -/
def xk (ys : List Nat) : Nat → Nat
  | 0 => 0
  | k + 1 => xk ys k * 256 + at0 ys k
theorem xk_lt {ys : List Nat} (h : B8 ys) : ∀ k, xk ys k < 256 ^ k
  | 0 => by simp [xk]
  | k + 1 => by
    have h1 := xk_lt h k
    have h2 := h.at0 k
    rw [xk, Nat.pow_succ]
    omega
theorem laid4_piece {ys : List Nat} {n : Nat} (h8 : B8 ys) (hn : n = min 3 ys.length) (h1 : 1 ≤ n) : laid4 (xk ys 3) (n + 1) = b64L (ys.take n) := by
  have hl : (ys.take n).length = n := by rw [List.length_take]; omega
  have e : ∀ j, j < 3 → at0 (ys.take n) j = at0 ys j := fun j hj => by
    by_cases h : j < n
    · exact at0_take h
    · rw [at0_out (by omega), at0_out (by omega)]
  have := laid4_all (h8.take n) (by omega) (by omega)
  rw [hl, e 0 (by omega), e 1 (by omega), e 2 (by omega)] at this
  have ex : xk ys 3 = at0 ys 0 * 65536 + at0 ys 1 * 256 + at0 ys 2 := by
    show ((0 * 256 + at0 ys 0) * 256 + at0 ys 1) * 256 + at0 ys 2 = _
    omega
  rw [ex, this]

set_option maxHeartbeats 4000000 in
set_option maxRecDepth 100000 in
theorem rbase64_any (a : Option Addr) (len cap : Nat) (xs : List Nat) (w : World) (hl : xs.length = len) (hbig : len ≤ 1099511627776) (hr : Rd .u8 w a xs) (h8 : B8 xs) :
    Calls Tryd.prog 27 #[.slice a len cap] w fun e w' => e = .returned (.string (strN (b64L xs))) ∧ Below w.heap.size w w' := by
  have HR := Lib.hid hr
  have HL := Lib.hid hl
  have H8 := Lib.hid h8
  clear hr hl h8
  go_enter Tryd.func27, Tryd.ntmps27
  go_wp2
  go_loopw [3, 4] (fun v iv wr => ∃ (i : Nat) (T : List Nat), i ≤ len + 2 ∧ iv = .int .i64 (i : Nat) ∧ Hid (i % 3 = 0) ∧ Hid (T = b64L (xs.take i)) ∧
    Hid (wr.ownsRow w.heap.size 5 1 v T.length (u8s T)) ∧ Hid (Below w.heap.size w wr)) (fun _ iv _ => len + 3 - (intOf iv).toNat)
  case atStart => exact ⟨0, [], by omega, rfl, rfl, rfl, World.ownsRow_nil _ _ _ _, Below.refl _ _⟩
  case round =>
    obtain ⟨i, T, hi, rfl, H3, HT, HO, HB⟩ := hrel
    by_cases hlt : i < len
    · obtain ⟨ys, hys⟩ : ∃ ys, ys = xs.drop i := ⟨_, rfl⟩
      have hyl : ys.length = len - i := by rw [hys, List.length_drop, HL.out]
      have hy8 : B8 ys := by rw [hys]; exact H8.out.drop i
      obtain ⟨n, hn⟩ : ∃ n, n = min 3 (len - i) := ⟨_, rfl⟩
      have hsub : (len : Int) - (i : Int) = ((len - i : Nat) : Int) := by omega
      have hmin : min (3 : Int) ((len : Int) - (i : Int)) = (n : Int) := by omega
      have hn1 : 1 ≤ n := by omega
      have hn3 : n ≤ 3 := by omega
      have hni : i + n ≤ len := by omega
      have HP : Hid (b64L (xs.take (i + 3)) = T ++ laid4 (xk ys 3) (n + 1)) := by
        show _ = _
        have h := b64L_step xs i n H3.out (by rw [HL.out]; omega)
        rw [laid4_piece hy8 (by rw [hyl]; exact hn) hn1, HT.out, hys, ← h]
        by_cases h4 : i + 3 ≤ len
        · rw [show n = 3 by omega]
        · rw [List.take_of_length_le (by rw [HL.out]; omega), List.take_of_length_le (by rw [HL.out]; omega)]
      have hTl : T.length ≤ 2 * len + 4 := by rw [HT.out, b64L_len, List.length_take, HL.out]; omega
      have HYS := Lib.hid hys
      have HY8 := Lib.hid hy8
      have HN := Lib.hid hn
      clear hys hyl hy8 hn hsub
      go_wp2
      go_loopw [5, 7] (fun x kv wr => ∃ k : Nat, k ≤ 3 ∧ kv = .int .i64 (k : Nat) ∧ x = .int .i64 (xk ys k : Nat) ∧ Hid (wr.ownsRow w.heap.size 5 1 u3 T.length (u8s T)) ∧ Hid (Below w.heap.size w wr)) (fun _ kv _ => 3 - (intOf kv).toNat)
      case atStart => exact ⟨0, by omega, rfl, rfl, HO.out, HB.out⟩
      case round =>
        clear hmin
        obtain ⟨k, hk, rfl, rfl, HO, HB⟩ := hrel
        by_cases hk3 : k < 3
        · have hxl := xk_lt HY8.out k
          have hxl2 : xk ys k < 65536 := Nat.lt_of_lt_of_le hxl (by rcases k with _ | _ | _ | k <;> first | decide | omega)
          have hn' := HN.out
          obtain ⟨t, ht⟩ : ∃ t, t = at0 ys k := ⟨_, rfl⟩
          have ht8 : t < 256 := by rw [ht]; exact HY8.out.at0 k
          have HXN : Hid (xk ys (k + 1) = xk ys k * 256 + t) := by show _ = _; rw [xk, ht]
          have HTT : Hid (n ≤ k → t = 0) := fun h => by rw [ht]; exact at0_out (by rw [HYS.out, List.length_drop, HL.out]; omega)
          have hgt : at0 xs (i + k) = t := by rw [ht, HYS.out, at0_drop]
          generalize xk ys k = x at *
          clear hxl ht
          by_cases hkn : k < n
          · obtain ⟨ba, oa, rfl⟩ := HR.out.isAt (by rw [HL.out]; omega)
            have hcell : wr.cell? ⟨ba, oa + (i + k), none⟩ = some (.int .u8 (t : Nat)) := by
              have := below_cell HB.out _ _ (HR.out.cell (i := i + k) (by rw [HL.out]; omega))
              rwa [hgt] at this
            have ho : bits BinOp.or IntKind.i64 ((x : Int) * 256) (t : Int) = ((x * 256 + t : Nat) : Int) := i64_join x t 8 (by decide) (by omega) (by omega)
            obtain ⟨y, hy⟩ : ∃ y, y = x * 256 + t := ⟨_, rfl⟩
            rw [← hy] at ho HXN
            clear hgt hn' hy
            go_wp2
            go_roundw
            case rel => exact ⟨k + 1, by omega, by go_num, by rw [HXN.out], HO.out, HB.out⟩
            case measure => simp [intOf]; omega
          · have ht0 := HTT.out (by omega)
            have hge : n ≤ k := by omega
            rw [ht0] at HXN
            clear hgt hn' ht0 hkn
            go_wp2
            go_roundw
            case rel => exact ⟨k + 1, by omega, by go_num, by rw [HXN.out]; go_num, HO.out, HB.out⟩
            case measure => simp [intOf]; omega
        · obtain rfl : k = 3 := by omega
          have hNb := xk_lt HY8.out 3
          generalize xk ys 3 = N at *
          have hk4 : ¬ ((3 : Nat) : Int) < 3 := by omega
          go_wp2
          have HL4 := laid4_len N (n + 1)
          go_loopw [3, 8] (fun v3 kv wr => ∃ (k : Nat) (TK : List Nat), k ≤ 4 ∧ kv = .int .i64 (k : Nat) ∧ Hid (TK = T ++ (laid4 N (n + 1)).take k) ∧ Hid (wr.ownsRow w.heap.size 5 1 v3 TK.length (u8s TK)) ∧ Hid (Below w.heap.size w wr)) (fun _ kv _ => 4 - (intOf kv).toNat)
          case atStart => exact ⟨0, T, by omega, rfl, by show _ = _; simp, HO.out, HB.out⟩
          case round =>
            clear HO HB hk4 hk hk3
            obtain ⟨k, TK, hk, rfl, HTK, HO, HB⟩ := hrel
            have hwB := HB.out.size
            have htkl : TK.length ≤ T.length + 4 := by rw [HTK.out, List.length_append, List.length_take]; omega
            by_cases hk4 : k < 4
            · have hnx : ∀ y, at0 (laid4 N (n + 1)) k = y → Hid (TK ++ [y] = T ++ (laid4 N (n + 1)).take (k + 1)) := fun y hy => by
                show _ = _
                rw [HTK.out, take_succ_at0 (by omega), hy, List.append_assoc]
              have hat : at0 (laid4 N (n + 1)) k = if k < n + 1 then b64D (dig4 N k) else 61 := by
                rw [at0_getElem (by omega)]
                simp [laid4]
              clear HL4
              by_cases hkn : k ≤ n
              · rw [if_pos (by omega)] at hat
                obtain ⟨q, hq⟩ : ∃ q, q = 18 - 6 * k := ⟨_, rfl⟩
                have e1 : (18 : Int) - 6 * (k : Int) = (q : Int) := by omega
                obtain ⟨d, hd⟩ : ∃ d, d = dig4 N k := ⟨_, rfl⟩
                obtain ⟨F, hF⟩ : ∃ F, F = N / 2 ^ q := ⟨_, rfl⟩
                have e2 : (N : Int) / 2 ^ q = (F : Int) := by rw [hF]; simp
                have e3 : (F : Int) % 64 = (d : Int) := by rw [hd, dig4, ← hq, ← hF]; omega
                have hd64 : d < 64 := by rw [hd, dig4]; exact Nat.mod_lt _ (by decide)
                have i1 : ∀ W, (Instr.index 9 (.string ⟨#[65, 66, 67, 68, 69, 70, 71, 72, 73, 74, 75, 76, 77, 78, 79, 80, 81, 82, 83, 84, 85, 86, 87, 88, 89, 90, 97, 98, 99, 100, 101, 102, 103, 104, 105, 106, 107, 108, 109, 110, 111, 112, 113, 114, 115, 116, 117, 118, 119, 120, 121, 122, 48, 49, 50, 51, 52, 53, 54, 55, 56, 57, 43, 47]⟩) (.int .i64 (d : Int))).run Tryd.prog W = .ok (.int .u8 (b64D d : Nat)) W := idx_b64 9 Tryd.underlying9 .i64 d hd64
                obtain ⟨y, hy⟩ : ∃ y, y = b64D d := ⟨_, rfl⟩
                rw [← hy] at i1
                have HNX := hnx y (by rw [hat, hy, hd])
                have hq64 : q ≤ 18 := by omega
                have hm : min q 64 = q := by omega
                clear hnx hat hq hd hF hy hd64 hNb
                go_wp2_with (at_builtin; refine wpl_app 25 5 Tryd.underlying25 info8 rfl (by decide) rfl _ _ rfl w.heap.size _ TK.length (u8s TK) rfl (HO.out.alloc _) wr.heap.size _ rfl (World.cell?_alloc_at _ _ _ _ rfl) rfl (by omega) (by simp; omega) ?_; intro g cap' w1 hown1 hg1 hBg _ _)
                have hown2 : w1.ownsRow w.heap.size 5 1 (.slice (some ⟨g, 0, none⟩) (TK.length + 1) cap') (TK ++ [y]).length (u8s (TK ++ [y])) := by rw [show u8s (TK ++ [y]) = u8s TK ++ [.int .u8 (y : Nat)] by simp [u8s], show (TK ++ [y]).length = TK.length + 1 by simp]; exact hown1
                have hb2 : Below w.heap.size w w1 := (HB.out.alloc hwB _).grown hg1 (by simp; omega) (fun j hj => (World.ownsRow.lt HO.out j hj).1)
                have HO2 := Lib.hid hown2
                have HB2 := Lib.hid hb2
                clear hown1 hown2 hb2 hg1
                go_roundw
                case rel => exact ⟨k + 1, TK ++ [y], by omega, by go_num, HNX.out, HO2.out, HB2.out⟩
                case measure => simp [intOf]; omega
              · rw [if_neg (by omega)] at hat
                have hkn2 : n < k := by omega
                obtain ⟨y, hy⟩ : ∃ y, y = 61 := ⟨_, rfl⟩
                have HNX := hnx y (by rw [hat, hy])
                clear hnx hat hkn hNb
                subst hy
                go_wp2_with (at_builtin; refine wpl_app 25 5 Tryd.underlying25 info8 rfl (by decide) rfl _ _ rfl w.heap.size _ TK.length (u8s TK) rfl (HO.out.alloc _) wr.heap.size _ rfl (World.cell?_alloc_at _ _ _ _ rfl) rfl (by omega) (by simp; omega) ?_; intro g cap' w1 hown1 hg1 hBg _ _)
                have hown2 : w1.ownsRow w.heap.size 5 1 (.slice (some ⟨g, 0, none⟩) (TK.length + 1) cap') (TK ++ [61]).length (u8s (TK ++ [61])) := by rw [show u8s (TK ++ [61]) = u8s TK ++ [.int .u8 61] by simp [u8s], len_snoc TK 61]; exact hown1
                have hb2 : Below w.heap.size w w1 := (HB.out.alloc hwB _).grown hg1 (by simp; omega) (fun j hj => (World.ownsRow.lt HO.out j hj).1)
                have HO2 := Lib.hid hown2
                have HB2 := Lib.hid hb2
                clear hown1 hown2 hb2 hg1
                go_roundw
                case rel => exact ⟨k + 1, TK ++ [61], by omega, by go_num, HNX.out, HO2.out, HB2.out⟩
                case measure => simp [intOf]; omega
            · obtain rfl : k = 4 := by omega
              have HT4 : Hid (TK = b64L (xs.take (i + 3))) := by
                show _ = _
                rw [HP.out, HTK.out, List.take_of_length_le (by omega)]
              have h4 : ¬ ((4 : Nat) : Int) < 4 := by omega
              have h3' := H3.out
              clear hNb HL4
              go_wp2
              go_roundw
              case rel => exact ⟨i + 3, TK, by omega, by go_num, by show _ = _; omega, HT4.out, HO.out, HB.out⟩
              case measure => simp [intOf]; omega
    · have hT := HT.out
      rw [List.take_of_length_le (by rw [HL.out]; omega)] at hT
      have ht := own_text HO.out rfl
      have HTT := Lib.hid hT
      clear hT
      go_wp2
      go_ret
      exact ⟨by rw [HTT.out]; rfl, HB.out⟩
end Go.Proofs.YtpipjkpjpkgmpaaDoor
