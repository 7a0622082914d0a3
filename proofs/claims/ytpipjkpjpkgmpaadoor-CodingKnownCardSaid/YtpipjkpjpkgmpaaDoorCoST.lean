import Derived.Test.YtpipjkpjpkgmpaaDoorCoQ
import Derived.Test.YtpipjkpjpkgmpaaDoorShY0
namespace Go.Proofs.YtpipjkpjpkgmpaaDoor
open Go.RowKit

def up (c : Nat) : Nat := if 97 ≤ c then c - 32 else c
theorem low_hexD {d : Nat} (h : d < 16) : low (hexD d) = hexD d := by
  unfold low hexD; split <;> split <;> omega
theorem low_up {d : Nat} (h : d < 16) : low (up (hexD d)) = hexD d := by
  unfold low up hexD; split <;> split <;> split <;> omega
theorem up_8 {c : Nat} (h : c < 256) : up c < 256 := by unfold up; split <;> omega
theorem hexL_low {b : List Nat} (h : B8 b) : (hexL b).map low = hexL b := by
  refine (List.map_congr_left fun x hx => ?_).trans (List.map_id _)
  obtain ⟨d, hd, rfl⟩ := hexL_mem b h x hx
  exact low_hexD hd
theorem hexL_up {b : List Nat} (h : B8 b) : ((hexL b).map up).map low = hexL b := by
  rw [List.map_map]
  refine (List.map_congr_left fun x hx => ?_).trans (List.map_id _)
  obtain ⟨d, hd, rfl⟩ := hexL_mem b h x hx
  exact low_up hd
theorem hex_back {b : List Nat} (h : B8 b) : UnhexTells (hexL b) 0 b := .inl ⟨rfl, h, (hexL_low h).symm⟩
theorem hex_great {b : List Nat} (h : B8 b) : UnhexTells ((hexL b).map up) 0 b := .inl ⟨rfl, h, (hexL_up h).symm⟩
theorem b64_back {b : List Nat} (h : B8 b) : Un64Tells (b64L b) 0 b := .inl ⟨rfl, h, rfl⟩
theorem b64L_cut (b : List Nat) (q : Nat) (h : 4 * q ≤ (b64L b).length) : (b64L b).take (4 * q) = b64L (b.take (3 * q)) := by
  by_cases h3 : 3 * q ≤ b.length
  · have e : b64L b = b64L (b.take (3 * q)) ++ b64L (b.drop (3 * q)) := by
      rw [← b64L_app _ _ (by rw [List.length_take]; omega), List.take_append_drop]
    rw [e, List.take_append_of_le_length (by rw [b64L_len, List.length_take]; omega), List.take_of_length_le (by rw [b64L_len, List.length_take]; omega)]
  · rw [b64L_len] at h
    rw [List.take_of_length_le (by rw [b64L_len]; omega), List.take_of_length_le (by omega)]
theorem cut_yes {b : List Nat} (h8 : B8 b) (m : Nat) (hm : m % 4 = 0) (hl : m ≤ (b64L b).length) : Un64Tells ((b64L b).take m) 0 (b.take (m / 4 * 3)) := .inl ⟨rfl, h8.take _, by
  have := b64L_cut b (m / 4) (by omega)
  rw [show 4 * (m / 4) = m by omega] at this
  rw [this, Nat.mul_comm]⟩
theorem cut_no {b : List Nat} (m : Nat) (hm : m % 4 ≠ 0) (hl : m ≤ (b64L b).length) : Un64Tells ((b64L b).take m) 61 [] := un64_len (by rw [List.length_take]; omega)
theorem bsN_append (A B : ByteArray) : bsN (A ++ B) = bsN A ++ bsN B := by
  unfold bsN
  rw [ByteArray.data_append, Array.toList_append, List.map_append]
theorem strN_append (A B : List Nat) : strN A ++ strN B = strN (A ++ B) := by
  apply ByteArray.ext
  rw [ByteArray.data_append]
  simp [strN]
theorem strN_extract (A : List Nat) (m : Nat) : (strN A).extract 0 m = strN (A.take m) := by
  unfold strN
  rw [ByteArray.extract_mk]
  simp [List.map_take]
theorem conv_lit1 (w : World) (T : TypeId) (x : Nat) : ∀ dst, Tryd.prog.underlying dst = some .string → (convert 25 dst (.slice (some ⟨w.heap.size, 0, none⟩) 1 1)).run Tryd.prog (w.alloc (.cells #[.int .u8 (x : Nat)] T)) = .ok (.string (strN [x])) (w.alloc (.cells #[.int .u8 (x : Nat)] T)) := by
  intro dst hd
  have := run_convert_bytes_arg (P := Tryd.prog) (w.alloc (.cells #[.int .u8 (x : Nat)] T)) 25 5 Tryd.underlying25 Tryd.underlying5 w.heap.size 0 1 1 [(x : Int)] rfl (fun i hi => by
    obtain rfl : i = 0 := by omega
    rw [World.cell?_alloc_at _ _ _ _ rfl]; rfl) dst hd
  rw [this]
  simp [strOfNums, strN]

theorem hexL_8B {b : List Nat} (h : B8 b) : B8 (hexL b) := fun x hx => Nat.lt_trans (hexL_lt h x hx) (by decide)

set_option maxHeartbeats 4000000 in
set_option maxRecDepth 100000 in
theorem codingBack_any (a : Option Addr) (len cap : Nat) (b : List Nat) (cut : Int) (w : World) (hl : b.length = len) (hcap : len ≤ cap) (hcm : cap ≤ 9223372036854775807) (hna : a = none → cap = 0) (h8 : B8 b) (hr : Rd .u8 w a b)
    (hz1 : -9223372036854775808 ≤ cut) (hz2 : cut ≤ 9223372036854775807) (hH : HT w) (hB : BT w) :
    Calls Tryd.prog 7 #[.slice a len cap, .int .i64 cut] w fun e w' => e = .returned (.bool true) ∧ Below w.heap.size w w' := by
  by_cases hbig : 4096 < len
  · have hq : decide ((4096 : Int) < (len : Int)) = true := decide_eq_true (by omega)
    clear hr hH hB
    go_enter Tryd.func7, Tryd.ntmps7
    go_wp2
    go_ret
    exact ⟨rfl, Below.refl _ _⟩
  · have hq : decide ((4096 : Int) < (len : Int)) = false := decide_eq_false (by omega)
    have HR := Lib.hid hr
    have HH := Lib.hid hH
    have HB := Lib.hid hB
    have H8 := Lib.hid h8
    have HL := Lib.hid hl
    have HNA := Lib.hid hna
    have HW := Lib.hid (Below.refl w.heap.size w)
    obtain ⟨X, hX⟩ : ∃ X, X = strN (hexL b) := ⟨_, rfl⟩
    obtain ⟨Y, hY⟩ : ∃ Y, Y = strN (b64L b) := ⟨_, rfl⟩
    obtain ⟨n4, hn4⟩ : ∃ n4, n4 = (len + 2) / 3 * 4 := ⟨_, rfl⟩
    have hXs : X.size = 2 * len := by rw [hX, strN_size, hexL_len, hl]
    have hYs : Y.size = n4 := by rw [hY, strN_size, b64L_len, hl, hn4]
    have HXB : Hid (bsN X = hexL b) := by show _ = _; rw [hX, bsN_strN (hexL_8B h8)]
    have HYB : Hid (bsN Y = b64L b) := by show _ = _; rw [hY, bsN_strN (b64L_8 h8)]
    have HX := Lib.hid hX
    have HY := Lib.hid hY
    have HXS := Lib.hid hXs
    have HYS := Lib.hid hYs
    have HN4 := Lib.hid hn4
    have hn4b : n4 ≤ 8192 := by omega
    have hn44 : Hid (n4 % 4 = 0) := by show _ = _; omega
    have hq4 : ((len : Int) + 2) / 3 * 4 = (n4 : Int) := by omega
    have hne1 : ((n4 : Int) != (n4 : Int)) = false := by simp
    have hne2 : ((2 * (len : Int)) != 2 * (len : Int)) = false := by simp
    clear hr hH hB h8 hX hY hl hna hn4
    go_enter Tryd.func7, Tryd.ntmps7
    go_wp2_with fail
    refine (hex_any a len cap b _ HL.out (by omega) HR.out H8.out).mono ?_
    rintro e w1 ⟨rfl, hb1⟩
    rw [← HX.out]
    have HR := Lib.hid (HR.out.below hb1)
    have HH := Lib.hid (HH.out.below hb1)
    have HB := Lib.hid (HB.out.below hb1)
    have HW := Lib.hid (HW.out.trans (hb1.mono HW.out.size))
    clear hb1
    go_wp2_with fail
    refine (base64_any a len cap b _ HL.out (by omega) hcap hcm HNA.out HR.out H8.out).mono ?_
    rintro e w2 ⟨rfl, hb1⟩
    rw [← HY.out]
    have HR := Lib.hid (HR.out.below hb1)
    have HH := Lib.hid (HH.out.below hb1)
    have HB := Lib.hid (HB.out.below hb1)
    have HW := Lib.hid (HW.out.trans (hb1.mono HW.out.size))
    clear hb1
    have HS := Lib.hid (Sep.nil w2 w.heap.size)
    go_wp2_with fail
    refine (unhex_any X (2 * len) _ HXS.out (by omega) HH.out).mono ?_
    intro e w3 hp
    obtain ⟨a3, c3, k3, b3, rfl, hb3, ho3, ht3, -, -, -, -, -⟩ := hp.opens
    rw [HXB.out] at ht3
    obtain ⟨rfl, hbb⟩ := ht3.one (hex_back H8.out)
    obtain rfl : b = b3 := hbb.symm
    have HS := Lib.hid (HS.out.new HW.out.size hb3 ho3)
    have HR := Lib.hid (HR.out.below hb3)
    have HH := Lib.hid (HH.out.below hb3)
    have HB := Lib.hid (HB.out.below hb3)
    have HW := Lib.hid (HW.out.trans (hb3.mono HW.out.size))
    clear hp hb3 ho3 ht3
    go_wp2_with fail
    refine (un64_any Y n4 _ HYS.out (by omega) HB.out).mono ?_
    intro e w4 hp
    obtain ⟨a4, c4, k4, b4, rfl, hb3, ho3, ht3, -, -, -, -, -⟩ := hp.opens
    rw [HYB.out] at ht3
    obtain ⟨rfl, hbb⟩ := ht3.one (b64_back H8.out)
    obtain rfl : b = b4 := hbb.symm
    have HS := Lib.hid (HS.out.new HW.out.size hb3 ho3)
    have HR := Lib.hid (HR.out.below hb3)
    have HH := Lib.hid (HH.out.below hb3)
    have HB := Lib.hid (HB.out.below hb3)
    have HW := Lib.hid (HW.out.trans (hb3.mono HW.out.size))
    clear hp hb3 ho3 ht3
    rw [HL.out] at HS ⊢
    go_wp2_with fail
    refine (bytes_same a3 a len c3 cap b _ HL.out (by omega) (HS.out.rdb (n := len) (c := c3) (by simp)) HR.out).mono ?_
    rintro e w5 ⟨rfl, nq, hw⟩
    have hb7 : Below w4.heap.size w4 w5 := by rw [hw]; exact Below.drewM (Below.refl _ _) nq
    clear hw
    have HS := Lib.hid (HS.out.belowS hb7)
    have HR := Lib.hid (HR.out.below hb7)
    have HH := Lib.hid (HH.out.below hb7)
    have HB := Lib.hid (HB.out.below hb7)
    have HW := Lib.hid (HW.out.trans (hb7.mono HW.out.size))
    clear hb7
    go_wp2_with fail
    refine (bytes_same a4 a len c4 cap b _ HL.out (by omega) (HS.out.rdb (n := len) (c := c4) (by simp)) HR.out).mono ?_
    rintro e w6 ⟨rfl, nq, hw⟩
    have hb7 : Below w5.heap.size w5 w6 := by rw [hw]; exact Below.drewM (Below.refl _ _) nq
    clear hw
    have HS := Lib.hid (HS.out.belowS hb7)
    have HR := Lib.hid (HR.out.below hb7)
    have HH := Lib.hid (HH.out.below hb7)
    have HB := Lib.hid (HB.out.below hb7)
    have HW := Lib.hid (HW.out.trans (hb7.mono HW.out.size))
    clear hb7
    have hW6 := HW.out.size
    go_wp2
    go_loopw [11, 12] (fun gv iv wr => ∃ (i : Nat) (G : ByteArray), i ≤ 2 * len ∧ iv = .int .i64 (i : Nat) ∧ gv = .string G ∧ Hid (G = strN (((hexL b).take i).map up)) ∧ Hid (Below w6.heap.size w6 wr)) (fun _ iv _ => 2 * len - (intOf iv).toNat)
    case atStart => exact ⟨0, ⟨#[]⟩, Nat.zero_le _, rfl, rfl, rfl, Below.refl _ _⟩
    case round =>
      obtain ⟨i, G, hi, rfl, rfl, HG, HBR⟩ := hrel
      by_cases hin : i < 2 * len
      · obtain ⟨c, hc⟩ : ∃ c, c = at0 (hexL b) i := ⟨_, rfl⟩
        obtain ⟨u, hu⟩ : ∃ u, u = up c := ⟨_, rfl⟩
        have hhl : i < (hexL b).length := by rw [hexL_len, HL.out]; exact hin
        have hc8 : c < 128 := by rw [hc, at0_getElem hhl]; exact hexL_lt H8.out _ (List.getElem_mem hhl)
        have x1 : ∀ W, (Instr.index 9 (.string X) (.int .i64 (i : Int))).run Tryd.prog W = .ok (.int .u8 (c : Nat)) W := idx_str 9 Tryd.underlying9 X i c (by omega) (by rw [HXB.out, hc])
        have HC1 := Lib.hid (conv_lit1 wr 5 u)
        obtain ⟨C, hC⟩ : ∃ C, C = strN [u] := ⟨_, rfl⟩
        rw [← hC] at HC1
        have hc1 := HC1.out
        have HG2 : Hid (G ++ C = strN (((hexL b).take (i + 1)).map up)) := by
          show _ = _
          rw [HG.out, hC, strN_append, take_succ_at0 hhl, ← hc, List.map_append, hu]
          rfl
        have hwr := HBR.out.size
        have hup : (97 ≤ c ∧ (c : Int) - 97 + 65 = (u : Int)) ∨ (c < 97 ∧ u = c) := by
          rw [hu, up]; split
          · exact .inl ⟨by omega, by omega⟩
          · exact .inr ⟨by omega, rfl⟩
        have hgs : G.size ≤ 16384 := by rw [HG.out, strN_size, List.length_map, List.length_take]; omega
        have hcs : C.size ≤ 1 := by rw [hC, strN_size]; exact Nat.le_refl _
        clear hc hu hhl hC HC1
        rcases hup with ⟨u1, u2⟩ | ⟨u1, u2⟩
        · go_wp2
          go_roundw
          case rel => exact ⟨i + 1, G ++ C, by omega, by go_num, rfl, HG2.out, HBR.out.alloc hwr _⟩
          case measure => simp [intOf]; omega
        · subst u2
          go_wp2
          go_roundw
          case rel => exact ⟨i + 1, G ++ C, by omega, by go_num, rfl, HG2.out, HBR.out.alloc hwr _⟩
          case measure => simp [intOf]; omega
      · obtain rfl : i = 2 * len := by omega
        have HS := Lib.hid (HS.out.belowS HBR.out)
        have HR := Lib.hid (HR.out.below HBR.out)
        have HH := Lib.hid (HH.out.below HBR.out)
        have HB := Lib.hid (HB.out.below HBR.out)
        have HW := Lib.hid (HW.out.trans (HBR.out.mono HW.out.size))
        have hG := HG.out
        rw [List.take_of_length_le (by rw [hexL_len, HL.out]; exact Nat.le_refl _)] at hG
        have hGB : bsN G = (hexL b).map up := by
          rw [hG, bsN_strN (fun x hx => by obtain ⟨y, hy, rfl⟩ := List.mem_map.1 hx; exact up_8 (hexL_8B H8.out y hy))]
        have hGS : G.size = 2 * len := by rw [hG, strN_size, List.length_map, hexL_len, HL.out]
        have HGB := Lib.hid hGB
        have HGS := Lib.hid hGS
        obtain ⟨Y2, hY2⟩ : ∃ Y2, Y ++ (⟨#[61]⟩ : ByteArray) = Y2 := ⟨_, rfl⟩
        have hY2s : Y2.size = n4 + 1 := by rw [← hY2, ByteArray.size_append, HYS.out]; rfl
        obtain ⟨X2, hX2⟩ : ∃ X2, X ++ (⟨#[48]⟩ : ByteArray) = X2 := ⟨_, rfl⟩
        have hX2s : X2.size = 2 * len + 1 := by rw [← hX2, ByteArray.size_append, HXS.out]; rfl
        have HY2 : Hid (Un64Tells (bsN Y2) 61 []) := un64_len (by rw [bsN_len, hY2s]; have := hn44.out; omega)
        have HX2 : Hid (UnhexTells (bsN X2) 60 []) := unhex_odd (by rw [bsN_len, hX2s]; omega)
        have HY2S := Lib.hid hY2s
        have HX2S := Lib.hid hX2s
        clear hG hGB hGS hX2s hY2s
        go_wp2_with fail
        refine (unhex_any G (2 * len) _ HGS.out (by omega) HH.out).mono ?_
        intro e w7 hp
        obtain ⟨a7, c7, k7, b7, rfl, hb3, ho3, ht3, -, -, -, -, -⟩ := hp.opens
        rw [HGB.out] at ht3
        obtain ⟨rfl, hbb⟩ := ht3.one (hex_great H8.out)
        obtain rfl : b = b7 := hbb.symm
        have HS := Lib.hid (HS.out.new HW.out.size hb3 ho3)
        have HR := Lib.hid (HR.out.below hb3)
        have HH := Lib.hid (HH.out.below hb3)
        have HB := Lib.hid (HB.out.below hb3)
        have HW := Lib.hid (HW.out.trans (hb3.mono HW.out.size))
        clear hp hb3 ho3 ht3
        rw [HL.out] at HS ⊢
        go_wp2_with fail
        refine (un64_any Y2 (n4 + 1) _ HY2S.out (by omega) HB.out).mono ?_
        intro e w8 hp
        obtain ⟨a8, c8, k8, b8, rfl, hb3, -, ht3, -, -, -, -, -⟩ := hp.opens
        obtain ⟨rfl, rfl⟩ := ht3.one HY2.out
        have HS := Lib.hid (HS.out.belowS hb3)
        have HR := Lib.hid (HR.out.below hb3)
        have HH := Lib.hid (HH.out.below hb3)
        have HB := Lib.hid (HB.out.below hb3)
        have HW := Lib.hid (HW.out.trans (hb3.mono HW.out.size))
        clear hp hb3 ht3
        go_wp2_with fail
        refine (unhex_any X2 (2 * len + 1) _ HX2S.out (by omega) HH.out).mono ?_
        intro e w9 hp
        obtain ⟨a9, c9, k9, b9, rfl, hb3, -, ht3, -, -, -, -, -⟩ := hp.opens
        obtain ⟨rfl, rfl⟩ := ht3.one HX2.out
        have HS := Lib.hid (HS.out.belowS hb3)
        have HR := Lib.hid (HR.out.below hb3)
        have HH := Lib.hid (HH.out.below hb3)
        have HB := Lib.hid (HB.out.below hb3)
        have HW := Lib.hid (HW.out.trans (hb3.mono HW.out.size))
        clear hp hb3 ht3 hX2 hY2
        go_wp2_with fail
        refine (bytes_same a7 a len c7 cap b _ HL.out (by omega) (HS.out.rdb (n := len) (c := c7) (by simp)) HR.out).mono ?_
        rintro e w10 ⟨rfl, nq, hw⟩
        have hb7 : Below w9.heap.size w9 w10 := by rw [hw]; exact Below.drewM (Below.refl _ _) nq
        clear hw
        have HS := Lib.hid (HS.out.belowS hb7)
        have HR := Lib.hid (HR.out.below hb7)
        have HH := Lib.hid (HH.out.below hb7)
        have HB := Lib.hid (HB.out.below hb7)
        have HW := Lib.hid (HW.out.trans (hb7.mono HW.out.size))
        clear hb7
        go_wp2_with fail
        have hpk := pickn_any cut (n4 + 1) w10 hz1 hz2 (by omega) (by omega)
        rw [show ((n4 + 1 : Nat) : Int) = (n4 : Int) + 1 by omega] at hpk
        refine hpk.mono ?_
        clear hpk
        rintro e w11 ⟨m, rfl, hm, rfl⟩
        have hmY : m ≤ n4 := by omega
        obtain ⟨Z, hZ⟩ : ∃ Z, Y.extract 0 m = Z := ⟨_, rfl⟩
        have hZe : Z = strN ((b64L b).take m) := by rw [← hZ, HY.out, strN_extract]
        have hbl : (b64L b).length = n4 := by rw [b64L_len, HL.out, HN4.out]
        have HZB : Hid (bsN Z = (b64L b).take m) := by show _ = _; rw [hZe, bsN_strN ((b64L_8 H8.out).take m)]
        have HZS : Hid (Z.size = m) := by show _ = _; rw [hZe, strN_size, List.length_take, hbl]; omega
        have HBL := Lib.hid hbl
        clear hZe hbl hm
        go_wp2_with fail
        refine (un64_any Z m _ HZS.out (by omega) HB.out).mono ?_
        intro e w12 hp
        obtain ⟨a12, c12, k12, b12, rfl, hb3, ho3, ht3, -, -, -, -, -⟩ := hp.opens
        rw [HZB.out] at ht3
        have HS := Lib.hid (HS.out.new HW.out.size hb3 ho3)
        have HR := Lib.hid (HR.out.below hb3)
        have HH := Lib.hid (HH.out.below hb3)
        have HB := Lib.hid (HB.out.below hb3)
        have HW := Lib.hid (HW.out.trans (hb3.mono HW.out.size))
        clear hp hb3 ho3 hZ
        by_cases hm4 : m % 4 = 0
        · obtain ⟨rfl, rfl⟩ := ht3.one (cut_yes H8.out m hm4 (by rw [HBL.out]; exact hmY))
          obtain ⟨r, hr⟩ : ∃ r, r = min len (m / 4 * 3) := ⟨_, rfl⟩
          have hmin : min (len : Int) ((m : Int) / 4 * 3) = (r : Int) := by omega
          have hlr : (b.take (m / 4 * 3)).length = r := by rw [List.length_take, HL.out, hr]; exact Nat.min_comm _ _
          have htk : b.take (m / 4 * 3) = b.take r := by
            rw [hr]
            by_cases h : m / 4 * 3 ≤ len
            · rw [Nat.min_eq_right h]
            · rw [Nat.min_eq_left (by omega), List.take_of_length_le (by rw [HL.out]; omega), List.take_of_length_le (by rw [HL.out]; exact Nat.le_refl _)]
          have hq9 : ((m : Int) % 4 == 0) = true := by simp; omega
          have hrc : r ≤ cap := by omega
          have hrl : r ≤ len := by omega
          rw [htk] at HS hlr ⊢
          rw [hlr]
          rw [hlr] at HS
          have HLR := Lib.hid hlr
          clear ht3 hr hlr htk
          go_wp2_with fail
          refine (bytes_same a12 a r c12 cap (b.take r) _ HLR.out (by omega) (HS.out.rdb (n := r) (c := c12) (by simp)) (rd_pre HR.out r)).mono ?_
          rintro e w13 ⟨rfl, nq, hw⟩
          have hb7 : Below w12.heap.size w12 w13 := by rw [hw]; exact Below.drewM (Below.refl _ _) nq
          clear hw
          have HR := Lib.hid (HR.out.below hb7)
          have HH := Lib.hid (HH.out.below hb7)
          have HB := Lib.hid (HB.out.below hb7)
          have HW := Lib.hid (HW.out.trans (hb7.mono HW.out.size))
          clear hb7
          go_wp2_with fail
          refine (works6_any _ HH.out HB.out).mono ?_
          rintro e w14 ⟨rfl, hb6⟩
          have HW := Lib.hid (HW.out.trans (hb6.mono HW.out.size))
          clear hb6
          go_wp2
          go_ret
          exact ⟨rfl, HW.out⟩
        · obtain ⟨rfl, rfl⟩ := ht3.one (cut_no m hm4 (by rw [HBL.out]; exact hmY))
          have hq9 : ((m : Int) % 4 == 0) = false := by simp; omega
          clear ht3
          go_wp2_with fail
          refine (works6_any _ HH.out HB.out).mono ?_
          rintro e w14 ⟨rfl, hb6⟩
          have HW := Lib.hid (HW.out.trans (hb6.mono HW.out.size))
          clear hb6
          go_wp2
          go_ret
          exact ⟨rfl, HW.out⟩
end Go.Proofs.YtpipjkpjpkgmpaaDoor
