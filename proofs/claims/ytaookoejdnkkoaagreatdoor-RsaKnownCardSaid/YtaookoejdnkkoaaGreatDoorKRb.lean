import Derived.Test.YtaookoejdnkkoaaGreatDoorKHv
namespace Go.Proofs.YtaookoejdnkkoaaGreatDoor
open Go.RowKit

theorem byte_step_r {U x j : Nat} (hj : j < 8) : 256 * (U * 256 ^ j + x / 2 ^ (64 - 8 * j)) + x / 2 ^ (56 - 8 * j) % 256 = U * 256 ^ (j + 1) + x / 2 ^ (64 - 8 * (j + 1)) := by
  rw [show 64 - 8 * (j + 1) = 56 - 8 * j by omega, show 64 - 8 * j = (56 - 8 * j) + 8 by omega, Nat.pow_add 2, ← Nat.div_div_eq_div_mul, show (2 : Nat) ^ 8 = 256 from rfl]
  generalize x / 2 ^ (56 - 8 * j) = y
  rw [Nat.mul_add, Nat.pow_succ, show 256 * (U * 256 ^ j) = U * (256 ^ j * 256) by rw [Nat.mul_comm, Nat.mul_assoc]]
  omega
theorem u8s_snoc2 (xs : List Nat) (z : Nat) : u8s xs ++ [.int .u8 (z : Int)] = u8s (xs ++ [z]) := by simp [u8s]
set_option maxHeartbeats 1000000 in
set_option maxRecDepth 100000 in
theorem rbytes_any (a : Option Addr) (len cap : Nat) (xs : List Nat) (w : World) (hl : xs.length = len) (hbig : len ≤ 1048576) (hr : Rd .u64 w a xs) (bx : Bd xs) :
    Calls Tryz.prog 125 #[.slice a len cap] w (Told8 (BytesTells xs) w) := by
  go_enter Tryz.func125, Tryz.ntmps125
  go_wp2_with fail
  refine (rfits_any a len cap xs _ hl hbig hr bx).mono ?_
  rintro e w1 ⟨rfl, hb1⟩
  by_cases hfit : fl xs ≤ 128
  · have hq : decide (fl xs ≤ 128) = true := by simp; omega
    have hr1 := hr.below hb1
    have HF := Lib.hid hfit
    have HB1 := Lib.hid hb1
    clear hfit hb1 hr
    go_wp2_with fail
    refine (rform_any a len cap xs _ hl hbig hr1 bx).mono ?_
    rintro e w2 ⟨v, zs, rfl, hown, hnum, hb2⟩
    have hlz : zs.length ≤ 128 := by
      have : zs = fm xs := Num.unique hnum (num_fm bx)
      rw [this, fm_length]; exact HF.out
    obtain ⟨az, cz, rfl, hrz⟩ := own64.form hown
    have HN := Lib.hid hnum
    have HO := Lib.hid hown
    have HB2 := Lib.hid (HB1.out.trans (hb2.mono HB1.out.size))
    clear hown hnum hb2 HB1 hr1
    go_wp2
    go_loopw [5, 6] (fun v5 v6 wr => ∃ (m : Nat) (bs : List Nat), m ≤ zs.length ∧ v6 = .int .i64 ((m : Int) - 1) ∧ Hid (BNum bs (val (zs.drop m))) ∧ Hid (bs.length ≤ 8 * (zs.length - m)) ∧ Hid (own8 wr w2.heap.size v5 bs) ∧ Hid (Below w2.heap.size w2 wr)) (fun _ v6 _ => (intOf v6 + 1).toNat)
    case atStart => exact ⟨zs.length, [], Nat.le_refl _, rfl, by show BNum _ _; rw [List.drop_length]; exact BNum.nil, Nat.zero_le _, World.ownsRow_nil _ _ _ _, Below.refl _ _⟩
    case round =>
      obtain ⟨m, bs, hm, rfl, HBN, HLB, HOB, hbl⟩ := hrel
      by_cases hm0 : m = 0
      · subst hm0
        obtain ⟨ab, cb, rfl⟩ := owns_form HOB.out
        have hnum := HBN.out
        rw [List.drop_zero, HN.out.vl] at hnum
        have hl8 := HLB.out
        clear HBN HLB
        have HNU := Lib.hid hnum
        clear hnum
        go_wp2
        go_ret2
        have h1 := HB2.out.size
        exact ⟨HB2.out.trans (hbl.out.mono h1), ab, cb, 0, bs, rfl, owns_base HOB.out h1, by omega, .inr ⟨HF.out, rfl, HNU.out⟩⟩
      · obtain ⟨i, rfl⟩ : ∃ i, m = i + 1 := ⟨m - 1, by omega⟩
        obtain ⟨gz, cz', rz, hBg, hgl⟩ := own64.isAt HO.out (by omega)
        obtain ⟨rfl, rfl⟩ : az = some ⟨gz, 0, none⟩ ∧ cz = cz' := by simpa using rz
        clear rz
        have ri : ((i + 1 : Nat) : Int) - 1 = (i : Int) := by omega
        rw [ri]
        have hx64 := HN.out.bd.at0 i
        have hc0 := HO.out.cell (j := i) (by omega)
        obtain ⟨x, hx⟩ : ∃ x, at0 zs i = x := ⟨_, rfl⟩
        rw [hx] at hc0 hx64
        have HC := Lib.hid hc0
        have HVD : Hid (val (zs.drop i) = x + 18446744073709551616 * val (zs.drop (i + 1))) := by show _ = _; rw [drop_val (by omega), hx]
        clear hc0 hx
        obtain ⟨U, hU⟩ : ∃ U, U = val (zs.drop (i + 1)) := ⟨_, rfl⟩
        rw [← hU] at HVD HBN
        clear hU
        have him : i < zs.length := by omega
        have h0i : (0 : Int) ≤ (i : Int) := by omega
        go_wp2
        go_loopw [5, 7] (fun v5 v8 wr => ∃ (j : Nat) (bs : List Nat), j ≤ 8 ∧ v8 = .int .i64 (56 - 8 * (j : Int)) ∧ Hid (BNum bs (U * 256 ^ j + x / 2 ^ (64 - 8 * j))) ∧ Hid (bs.length ≤ 8 * (zs.length - (i + 1)) + j) ∧ Hid (own8 wr w2.heap.size v5 bs) ∧ Hid (Below w2.heap.size w2 wr)) (fun _ v8 _ => (intOf v8 + 8).toNat)
        case atStart => exact ⟨0, bs, by omega, rfl, by show BNum _ _; rw [Nat.pow_zero, Nat.mul_one, Nat.div_eq_of_lt hx64, Nat.add_zero]; exact HBN.out, HLB.out, HOB.out, hbl.out⟩
        case round =>
          clear HBN HLB HOB hbl bs
          obtain ⟨j, bs, hj, rfl, HBN, HLB, HOB, hbl⟩ := hrel
          have hsz := hbl.out.size
          by_cases hj8 : j < 8
          · have hc1 := below_cell hbl.out _ _ HC.out
            obtain ⟨t, ht⟩ : ∃ t, t = 56 - 8 * j := ⟨_, rfl⟩
            have rt : (56 : Int) - 8 * (j : Int) = (t : Int) := by omega
            rw [rt]
            obtain ⟨c, hc⟩ : ∃ c, c = x / 2 ^ t % 256 := ⟨_, rfl⟩
            have ew : IntKind.u8.wrap ((x : Int) / 2 ^ t) = (c : Int) := by
              have := byte_of_word x t
              rw [← hc] at this
              rw [← this]; simp
            have hst := byte_step_r (U := U) (x := x) hj8
            rw [← ht, ← hc] at hst
            have hc8 : c < 256 := by omega
            have hst2 : Hid ((64 : Nat) - 8 * j ≤ 64) := by show _ ≤ _; omega
            obtain ⟨ab, cb, rfl⟩ := owns_form HOB.out
            have HST := Lib.hid hst
            have HT := Lib.hid ht
            have h0t : (0 : Int) ≤ (t : Int) := by omega
            have ht56 : t ≤ 56 := by omega
            have hlb := HLB.out
            have rstep : (t : Int) - 8 = 56 - 8 * ((j + 1 : Nat) : Int) := by omega
            have RS := Lib.hid rstep
            clear hst ht hc rstep rt
            by_cases hskip : c = 0 ∧ bs.length = 0
            · obtain ⟨rfl, hbs⟩ := hskip
              have e0 : bs = [] := List.eq_nil_of_length_eq_zero hbs
              subst e0
              have hnum : Hid (BNum [] (U * 256 ^ (j + 1) + x / 2 ^ (64 - 8 * (j + 1)))) := by
                show BNum _ _
                rw [← HST.out, ← HBN.out.vl]; exact BNum.nil
              go_wp2
              go_roundw
              case rel => exact ⟨j + 1, [], by omega, by rw [← RS.out], hnum, by show _ ≤ _; simp, HOB.out, hbl.out⟩
              case measure => simp [intOf]; omega
            · have hnum : Hid (BNum (bs ++ [c]) (U * 256 ^ (j + 1) + x / 2 ^ (64 - 8 * (j + 1)))) := by
                show BNum _ _
                rw [← HST.out]; exact HBN.out.snoc hc8 (by omega)
              have hown := HOB.out
              obtain ⟨lb, hlb2⟩ : ∃ lb, lb = bs.length := ⟨_, rfl⟩
              have hown2 : wr.ownsRow w2.heap.size 5 1 (.slice ab lb cb) lb (u8s bs) := by rw [hlb2]; exact hown
              have HLB2 := Lib.hid hlb2
              rw [← hlb2] at hskip hlb ⊢
              clear hown hlb2
              have hdec : c ≠ 0 ∨ (c = 0 ∧ 0 < lb) := by omega
              clear hskip
              have fin : ∀ g cap' w1, w1.ownsRow w2.heap.size 5 1 (.slice (some ⟨g, 0, none⟩) (lb + 1) cap') (lb + 1) (u8s bs ++ [.int .u8 (c : Int)]) → (wr.alloc (.cells #[.int .u8 (c : Int)] 5)).grownBy w1 (Value.slice ab lb cb).ownBlock →
                  ∃ (j' : Nat) (bs' : List Nat), j' ≤ 8 ∧ Value.int .i64 ((t : Int) - 8) = .int .i64 (56 - 8 * (j' : Int)) ∧ Hid (BNum bs' (U * 256 ^ j' + x / 2 ^ (64 - 8 * j'))) ∧ Hid (bs'.length ≤ 8 * (zs.length - (i + 1)) + j') ∧ Hid (own8 w1 w2.heap.size (.slice (some ⟨g, 0, none⟩) (lb + 1) cap') bs') ∧ Hid (Below w2.heap.size w2 w1) := by
                intro g cap' w1 ho hg
                have hl2 := HLB2.out
                refine ⟨j + 1, bs ++ [c], by omega, by rw [RS.out], hnum, by show _ ≤ _; simp; omega, ?_, (hbl.out.alloc hsz _).grown hg (by simp; omega) (fun q hq => (hown2.lt q hq).1)⟩
                show World.ownsRow _ _ _ _ _ _ _
                rw [List.length_append, List.length_singleton, ← hl2, ← u8s_snoc2]
                exact ho
              have FIN := Lib.hid fin
              clear fin
              rcases hdec with hc0 | ⟨rfl, hlp⟩
              · have hq1 : ((c : Int) != 0) = true := by rw [bne_iff_ne]; omega
                go_wp2_with (at_builtin; refine wpl_app 40 5 Tryz.underlying40 info8 rfl (by decide) rfl _ _ rfl w2.heap.size _ lb (u8s bs) rfl (hown2.alloc _) wr.heap.size _ rfl (World.cell?_alloc_at _ _ _ _ rfl) rfl (by omega) (by simp; omega) ?_)
                intro g cap' w1 hown1 hg1 hBg1 hgl1 _
                have G := Lib.hid (FIN.out g cap' w1 hown1 hg1)
                clear FIN hown1 hg1 hown2
                go_wp2
                go_roundw
                case rel => exact G.out
                case measure => simp [intOf]; omega
              · have hq1 : decide ((0 : Int) < (lb : Int)) = true := by rw [decide_eq_true_iff]; omega
                go_wp2_with (at_builtin; refine wpl_app 40 5 Tryz.underlying40 info8 rfl (by decide) rfl _ _ rfl w2.heap.size _ lb (u8s bs) rfl (hown2.alloc _) wr.heap.size _ rfl (World.cell?_alloc_at _ _ _ _ rfl) rfl (by omega) (by simp; omega) ?_)
                intro g cap' w1 hown1 hg1 hBg1 hgl1 _
                have G := Lib.hid (FIN.out g cap' w1 hown1 hg1)
                clear FIN hown1 hg1 hown2
                go_wp2
                go_roundw
                case rel => exact G.out
                case measure => simp [intOf]; omega
          · obtain rfl : j = 8 := by omega
            go_wp2
            go_roundw
            case rel =>
              refine ⟨i, bs, by omega, by go_num, ?_, by have := HLB.out; show _ ≤ _; omega, HOB.out, hbl.out⟩
              have h := HBN.out
              show BNum _ _
              rw [HVD.out]
              rw [show 64 - 8 * 8 = 0 from rfl, Nat.pow_zero, Nat.div_one, show (256 : Nat) ^ 8 = 18446744073709551616 from rfl, Nat.mul_comm, Nat.add_comm] at h
              exact h
            case measure => simp [intOf]
  · have hq : decide (fl xs ≤ 128) = false := by simp; omega
    go_wp2
    go_ret2
    exact ⟨hb1, none, 0, 3, [], rfl, World.ownsRow_nil _ _ _ _, by decide, .inl ⟨by omega, rfl, rfl⟩⟩

set_option maxHeartbeats 1000000 in
set_option maxRecDepth 100000 in
theorem rlength_any (a : Option Addr) (len cap : Nat) (xs : List Nat) (w : World) (hl : xs.length = len) (hbig : len ≤ 1048576) (hr : Rd .u64 w a xs) (bx : Bd xs) :
    Calls Tryz.prog 96 #[.slice a len cap] w fun e w' => ∃ k : Nat, e = .returned (.int .i64 (k : Nat)) ∧ BitsIs (val xs) k ∧ Below w.heap.size w w' := by
  go_enter Tryz.func96, Tryz.ntmps96
  go_wp2_with fail
  refine (halves_any a len cap xs _ hl hbig hr bx).mono ?_
  rintro e w1 ⟨v, hs, rfl, hown, hnum, hb1⟩
  obtain ⟨a1, c1, rfl, hr1⟩ := own64.form hown
  have hl1 : hs.length ≤ 2 * len := by
    have h1 := hnum.len_le (k := 2 * len)
    have h2 := val_lt bx
    rw [hl, ← pow_pair] at h2
    exact h1.2 h2
  by_cases h0 : hs.length = 0
  · have hq : ((hs.length : Int) == 0) = true := by rw [beq_iff_eq]; omega
    have e0 : hs = [] := List.eq_nil_of_length_eq_zero h0
    have hz : Hid (val xs = 0) := by show _ = _; rw [← hnum.vl, e0]; rfl
    clear h0 e0 hnum hown hr1
    go_wp2
    go_ret
    exact ⟨0, rfl, .inl ⟨hz.out, rfl⟩, hb1⟩
  · have hq : ((hs.length : Int) == 0) = false := by rw [beq_eq_false_iff_ne]; omega
    obtain ⟨m, hm⟩ : ∃ m, hs.length = m + 1 := ⟨hs.length - 1, by omega⟩
    obtain ⟨b, off, rfl⟩ := hr1.isAt (by omega)
    have hc1 := hr1.cell (i := m) (by omega)
    have htop : at0 hs m ≠ 0 := by have := hnum.cn (by omega); rw [hm, Nat.add_sub_cancel] at this; exact this
    have hb32 := hnum.bd.at0 m
    have HV : Hid (val xs = v32 (hs.take m) + 4294967296 ^ m * at0 hs m) := by
      show _ = _
      rw [← hnum.vl, v32_at hs m (by omega), List.drop_of_length_le (by omega)]
      simp [v32]
    have HL : Hid (v32 (hs.take m) < 4294967296 ^ m) := by
      have h := v32_lt (hnum.bd.take m)
      rw [List.length_take, Nat.min_eq_left (by omega)] at h
      exact h
    obtain ⟨x, hx⟩ : ∃ x, x = at0 hs m := ⟨_, rfl⟩
    rw [← hx] at hc1 htop hb32 HV
    obtain ⟨L, hLL⟩ : ∃ L, L = hs.length := ⟨_, rfl⟩
    rw [← hLL] at hq hm ⊢
    have rm : (L : Int) - 1 = (m : Int) := by omega
    obtain ⟨M, hM⟩ : ∃ M, M = 32 * m := ⟨_, rfl⟩
    have rm32 : (32 : Int) * (m : Int) = (M : Int) := by omega
    have HMM := Lib.hid hM
    have hMb : M ≤ 67108864 := by omega
    clear hM
    have hmL : m < L := by omega
    have hmb : m ≤ 2097152 := by omega
    have HX := Lib.hid htop
    clear hm htop hx hLL hnum hown hr1 h0
    go_wp2
    go_loop [4, 5] (fun v4 v5 => ∃ (j y : Nat), j ≤ 32 ∧ v4 = .int .i64 ((M : Int) + (j : Int)) ∧ v5 = .int .u64 (y : Nat) ∧ Hid (y = x / 2 ^ j) ∧ Hid (0 < j → 0 < x / 2 ^ (j - 1))) (fun v4 _ => 33 + M - (intOf v4).toNat)
    case atStart => exact ⟨0, x, by omega, by simp, rfl, by show _ = _; rw [Nat.pow_zero, Nat.div_one], fun h => absurd h (by omega)⟩
    case round =>
      obtain ⟨j, y, hj, rfl, rfl, HY, HJ⟩ := hrel
      by_cases hy : 0 < y
      · have hj32 : j < 32 := by
          refine Nat.lt_of_le_of_ne hj fun e => ?_
          have := HY.out
          rw [e, Nat.div_eq_of_lt (by simpa using hb32)] at this
          omega
        obtain ⟨z, hz⟩ : ∃ z, z = y / 2 := ⟨_, rfl⟩
        have ez : (y : Int) / 2 = (z : Int) := by omega
        have hq2 : decide ((0 : Int) < (y : Int)) = true := by rw [decide_eq_true_iff]; omega
        have HZ := Lib.hid hz
        have HYP := Lib.hid hy
        clear hz hy
        go_wp2
        go_round
        case rel =>
          refine ⟨j + 1, z, by omega, (by first | (congr 1; done) | (congr 1; omega)), rfl, ?_, fun _ => ?_⟩
          · show _ = _
            rw [HZ.out, HY.out, Nat.div_div_eq_div_mul, ← Nat.pow_succ]
          · rw [Nat.add_sub_cancel, ← HY.out]; exact HYP.out
        case measure => simp [intOf]; omega
      · have hq2 : decide ((0 : Int) < (y : Int)) = false := by rw [decide_eq_false_iff_not]; omega
        have hy0 : Hid (x / 2 ^ j = 0) := by show _ = _; rw [← HY.out]; omega
        have hq3 : decide (0 < y) = false := by rw [decide_eq_false_iff_not]; omega
        go_wp2
        go_ret
        have hj0 : 0 < j := by
          refine Nat.pos_of_ne_zero fun h => ?_
          have := hy0.out
          rw [h, Nat.pow_zero, Nat.div_one] at this
          exact HX.out this
        have h1 := HJ.out hj0
        have h2 : x < 2 ^ j := (Nat.div_eq_zero_iff_lt (Nat.two_pow_pos _)).1 hy0.out
        have h3 : 2 ^ (j - 1) ≤ x := by
          have := (Nat.le_div_iff_mul_le (Nat.two_pow_pos (j - 1))).1 h1
          omega
        have e32 : (4294967296 : Nat) ^ m = 2 ^ M := by rw [HMM.out, Nat.pow_mul]
        refine ⟨M + j, by congr 2, .inr ⟨by omega, ?_, ?_⟩, hb1⟩
        · rw [HV.out, e32, show M + j - 1 = M + (j - 1) by omega, Nat.pow_add]
          have := Nat.mul_le_mul_left (2 ^ M) h3
          omega
        · rw [HV.out, e32, Nat.pow_add]
          have h4 := HL.out
          rw [e32] at h4
          have h5 : 2 ^ M * (x + 1) ≤ 2 ^ M * 2 ^ j := Nat.mul_le_mul_left _ h2
          rw [Nat.mul_add] at h5
          omega

theorem set_v32 {ws : List Nat} {q y : Nat} (hq : q < ws.length) : v32 (ws.set q y) + 4294967296 ^ q * at0 ws q = v32 ws + 4294967296 ^ q * y := by
  have h1 := v32_at ws q hq
  have h2 := v32_at (ws.set q y) q (by simpa using hq)
  rw [List.take_set_of_le (Nat.le_refl q), drop_set_succ, at0_set hq, if_pos rfl] at h2
  rw [h1, h2, Nat.mul_add, Nat.mul_add]
  omega
/-- One digit of a row of a product. -/
theorem times_step {ws ys : List Nat} {i k x y o cy lo hi V : Nat} (hw : i + k < ws.length) (ho : at0 ws (i + k) = o) (hk : k < ys.length) (hy : at0 ys k = y) (hs : lo + 4294967296 * hi = o + x * y + cy)
    (hv : v32 ws + 4294967296 ^ (i + k) * cy = V + 4294967296 ^ i * (x * v32 (ys.take k))) :
    v32 (ws.set (i + k) lo) + 4294967296 ^ (i + (k + 1)) * hi = V + 4294967296 ^ i * (x * v32 (ys.take (k + 1))) := by
  have h1 := set_v32 (y := lo) hw
  rw [ho] at h1
  rw [take_v32_snoc hk, hy, Nat.mul_add, Nat.mul_add]
  have h2 : 4294967296 ^ i * (x * (4294967296 ^ k * y)) = 4294967296 ^ (i + k) * (x * y) := by
    rw [Nat.pow_add]; simp only [Nat.mul_assoc, Nat.mul_comm, Nat.mul_left_comm]
  rw [h2, ← Nat.add_assoc i k 1, Nat.pow_succ, Nat.mul_assoc]
  have h3 : 4294967296 ^ (i + k) * (lo + 4294967296 * hi) = 4294967296 ^ (i + k) * (o + x * y + cy) := by rw [hs]
  rw [Nat.mul_add, Nat.mul_add, Nat.mul_add] at h3
  omega

set_option maxHeartbeats 1000000 in
set_option maxRecDepth 100000 in
theorem rtimes_any (a b : Option Addr) (la lb ca cb : Nat) (xs ys : List Nat) (w : World) (hla : xs.length = la) (hlb : ys.length = lb) (hba : la ≤ 1048576) (hbb : lb ≤ 1048576) (hra : Rd .u64 w a xs) (hrb : Rd .u64 w b ys) (bx : Bd xs) (bY : Bd ys) :
    Calls Tryz.prog 127 #[.slice a la ca, .slice b lb cb] w fun e w' => ∃ v zs, e = .returned v ∧ own64 w' w.heap.size v zs ∧ Num zs (val xs * val ys) ∧ Below w.heap.size w w' := by
  go_enter Tryz.func127, Tryz.ntmps127
  go_wp2_with fail
  refine (halves_any a la ca xs _ hla hba hra bx).mono ?_
  rintro e w1 ⟨v, hs, rfl, hown, hnum, hb1⟩
  have hrb1 := hrb.below hb1
  have hl1 : hs.length ≤ 2 * la := by
    have h2 := val_lt bx
    rw [hla, ← pow_pair] at h2
    exact (hnum.len_le (k := 2 * la)).2 h2
  obtain ⟨a1, c1, rfl, hr1⟩ := own64.form hown
  have HN1 := Lib.hid hnum
  have HB1 := Lib.hid hb1
  have HO1 := Lib.hid hown
  clear hown hnum hb1 hr1 hrb hra
  go_wp2_with fail
  refine (halves_any b lb cb ys _ hlb hbb hrb1 bY).mono ?_
  rintro e w2 ⟨v, gs, rfl, hown, hnum, hb2⟩
  have hl2 : gs.length ≤ 2 * lb := by
    have h2 := val_lt bY
    rw [hlb, ← pow_pair] at h2
    exact (hnum.len_le (k := 2 * lb)).2 h2
  obtain ⟨b1, d1, rfl, hr2⟩ := own64.form hown
  have HN2 := Lib.hid hnum
  have hr1 := ((own64.rd HO1.out).2).below hb2
  have HB2 := Lib.hid (HB1.out.trans (hb2.mono HB1.out.size))
  clear hown hnum hb2 hrb1 HB1 HO1
  obtain ⟨lx, hlx⟩ : ∃ lx, lx = hs.length := ⟨_, rfl⟩
  obtain ⟨ly, hly⟩ : ∃ ly, ly = gs.length := ⟨_, rfl⟩
  rw [← hlx, ← hly]
  obtain ⟨n, hn⟩ : ∃ n, n = lx + ly := ⟨_, rfl⟩
  have rn : (lx : Int) + (ly : Int) = (n : Int) := by omega
  have hnb : n ≤ 4194304 := by omega
  have HLX := Lib.hid hlx
  have HLY := Lib.hid hly
  have HNN := Lib.hid hn
  clear hlx hly hn
  go_wp2_with (at_make; refine wpl_make64 rfl _ _ rfl w2.heap.size _ _ _ _ n rfl rfl rfl rfl (by omega) (Nat.le_refl _) ?_)
  intro w3 hown hbl hsz
  have HO := Lib.hid hown
  clear hown
  go_wp2
  go_loopw [8] (fun iv wr => ∃ (i : Nat) (ws : List Nat), i ≤ lx ∧ iv = .int .i64 (i : Nat) ∧ Hid (own64 wr w2.heap.size (.slice (some ⟨w2.heap.size, 0, none⟩) n n) ws) ∧ Hid (Hd ws) ∧ Hid (v32 ws = v32 (hs.take i) * v32 gs) ∧ Hid (∀ j, i + ly ≤ j → at0 ws j = 0) ∧ Hid (Below w2.heap.size w2 wr)) (fun iv _ => lx - (intOf iv).toNat)
  case atStart =>
    refine ⟨0, _, Nat.zero_le _, rfl, HO, fun x hx => by rw [List.eq_of_mem_replicate hx]; decide, by show _ = _; rw [v32_replicate]; simp [v32], fun j _ => ?_, hbl⟩
    unfold at0 List.getD
    by_cases hj : j < n
    · simp [hj]
    · simp [hj]
  case round =>
    clear HO hbl
    obtain ⟨i, ws, hi, rfl, HO, HB, HV, HZ, hbl⟩ := hrel
    have HL : Hid (n = ws.length) := (own64.rd HO.out).1
    by_cases hlt : i < lx
    · obtain ⟨ba, oa, rfl⟩ := hr1.isAt (by have := HLX.out; omega)
      have HC1 := Lib.hid (hr1.cell (i := i) (by have := HLX.out; omega))
      have hx32 := HN1.out.bd.at0 i
      obtain ⟨x, hx⟩ : ∃ x, x = at0 hs i := ⟨_, rfl⟩
      rw [← hx] at hx32
      have HX := Lib.hid hx
      have HIL := Lib.hid hlt
      clear hx
      go_wp2
      go_loopw [9, 10] (fun cv kv wr => ∃ (k cy : Nat) (ws : List Nat), k ≤ ly ∧ kv = .int .i64 (k : Nat) ∧ cv = .int .u64 (cy : Nat) ∧ cy < 4294967296 ∧ Hid (own64 wr w2.heap.size (.slice (some ⟨w2.heap.size, 0, none⟩) n n) ws) ∧ Hid (Hd ws) ∧ Hid (v32 ws + 4294967296 ^ (i + k) * cy = v32 (hs.take i) * v32 gs + 4294967296 ^ i * (x * v32 (gs.take k))) ∧ Hid (∀ j, i + ly ≤ j → at0 ws j = 0) ∧ Hid (Below w2.heap.size w2 wr)) (fun _ kv _ => ly - (intOf kv).toNat)
      case atStart => exact ⟨0, 0, ws, by omega, rfl, rfl, by omega, HO.out, HB.out, by show _ = _; rw [HV.out]; simp [v32], HZ.out, hbl.out⟩
      case round =>
        clear HO HB HV HZ HL hbl ws
        obtain ⟨k, cy, ws, hk, rfl, rfl, hcy, HO, HB, HV, HZ, hbl⟩ := hrel
        have HL : Hid (n = ws.length) := (own64.rd HO.out).1
        have hn3 := HNN.out
        have hlx := HIL.out
        by_cases hkl : k < ly
        · obtain ⟨bb, ob, rfl⟩ := hr2.isAt (by have := HLY.out; omega)
          have hc2 := below_cell hbl.out _ _ (hr2.cell (i := k) (by have := HLY.out; omega))
          have hc1 := below_cell hbl.out _ _ HC1.out
          rw [← HX.out] at hc1
          obtain ⟨p, hp⟩ : ∃ p, p = i + k := ⟨_, rfl⟩
          have rp : (i : Int) + (k : Int) = (p : Int) := by omega
          have hpn : p < n := by omega
          have hc3 := HO.out.cell (j := p) (by rw [← HL.out]; exact hpn)
          have hf3 := HO.out.free p
          have hy32 := HN2.out.bd.at0 k
          have ho32 := HB.out.at0 p
          obtain ⟨y, hy⟩ : ∃ y, at0 gs k = y := ⟨_, rfl⟩
          obtain ⟨o, ho⟩ : ∃ o, at0 ws p = o := ⟨_, rfl⟩
          rw [hy] at hc2 hy32
          rw [ho] at hc3 ho32
          have hxy : x * y ≤ 4294967295 * 4294967295 := Nat.mul_le_mul (by omega) (by omega)
          obtain ⟨q, hq⟩ : ∃ q, q = x * y := ⟨_, rfl⟩
          have rq : (x : Int) * (y : Int) = (q : Int) := by rw [hq]; simp
          rw [← hq] at hxy
          obtain ⟨s, hss⟩ : ∃ s, s = o + q + cy := ⟨_, rfl⟩
          have rs : (o : Int) + (q : Int) + (cy : Int) = (s : Int) := by omega
          have hs64 : s < 18446744073709551616 := by omega
          obtain ⟨lo, hlo⟩ : ∃ lo, lo = s % 4294967296 := ⟨_, rfl⟩
          obtain ⟨hi', hhi⟩ : ∃ hi', hi' = s / 4294967296 := ⟨_, rfl⟩
          have e1 := and_low s hs64
          rw [← hlo] at e1
          have e2 : (s : Int) / 4294967296 = (hi' : Int) := by omega
          have hst := times_step (ws := ws) (ys := gs) (i := i) (k := k) (x := x) (y := y) (o := o) (cy := cy) (lo := lo) (hi := hi') (V := v32 (hs.take i) * v32 gs) (by rw [← HL.out, ← hp]; exact hpn) (by rw [← hp]; exact ho) (by have := HLY.out; omega) hy (by rw [← hq]; omega) HV.out
          rw [← hp] at hst
          have HST := Lib.hid hst
          have HP := Lib.hid hp
          have hlo32 : lo < 4294967296 := by omega
          have hhi32 : hi' < 4294967296 := by omega
          clear hst hp hq hss hlo hhi hy ho hn3
          have w1 : IntKind.u64.wrap (q : Int) = (q : Int) := by rw [IntKind.wrap_u64]; omega
          go_wp2_with fail
          go_region
          go_wp2
          go_roundw
          case rel =>
            have hL : p < ws.length := by rw [← HL.out]; exact hpn
            refine ⟨k + 1, hi', ws.set p lo, by omega, by go_num, rfl, hhi32, HO.out.set p lo, HB.out.set hlo32, HST.out, ?_, hbl.out.drew.setCell (p := ⟨w2.heap.size, p, none⟩) (Nat.le_refl _) _⟩
            intro j hj
            have hp := HP.out
            rw [at0_set hL, if_neg (by omega)]
            exact HZ.out j hj
          case measure => simp [intOf]; omega
        · obtain rfl : k = ly := by omega
          have hq : decide (k < k) = false := by simp
          obtain ⟨p, hp⟩ : ∃ p, p = i + k := ⟨_, rfl⟩
          have rp : (i : Int) + (k : Int) = (p : Int) := by omega
          have hpn : p < n := by omega
          have hf3 := HO.out.free p
          have hc3 := HO.out.cell (j := p) (by rw [← HL.out]; exact hpn)
          have hz := HZ.out p (by omega)
          rw [hz] at hc3
          have hset := set_v32 (ws := ws) (q := p) (y := cy) (by rw [← HL.out]; exact hpn)
          rw [hz, Nat.mul_zero, Nat.add_zero, hp, HV.out] at hset
          have HSET : Hid (v32 (ws.set p cy) = v32 (hs.take (i + 1)) * v32 gs) := by
            show _ = _
            rw [hp, hset, take_v32_snoc (by have := HLX.out; omega), ← HX.out, show gs.take k = gs from List.take_of_length_le (by have := HLY.out; omega), Nat.add_mul, Nat.mul_assoc]
          have HP := Lib.hid hp
          clear hset hp hz hn3 hkl
          go_wp2
          go_roundw
          case rel =>
            have hL : p < ws.length := by rw [← HL.out]; exact hpn
            refine ⟨i + 1, ws.set p cy, by omega, by go_num, HO.out.set p cy, HB.out.set hcy, HSET.out, ?_, hbl.out.setCell (p := ⟨w2.heap.size, p, none⟩) (Nat.le_refl _) _⟩
            intro j hj
            have hp := HP.out
            rw [at0_set hL, if_neg (by omega)]
            exact HZ.out j (by omega)
          case measure => simp [intOf]; omega
    · obtain rfl : i = lx := by omega
      have hq : decide (i < i) = false := by simp
      have hfin : Hid (v32 (fm ws) = val xs * val ys) := by
        show _ = _
        rw [fm_v32, HV.out, List.take_of_length_le (by have := HLX.out; omega), HN1.out.vl, HN2.out.vl]
      have hrd := (own64.rd HO.out).2
      have hflb : fl ws ≤ 4194304 := by have := (fl_spec ws).1; have := HL.out; omega
      clear hlt
      go_wp2_with fail
      refine (strip_any (some ⟨w2.heap.size, 0, none⟩) n n ws _ HL.out.symm (by omega) (Nat.le_refl _) (fun h => by cases h) hrd).mono ?_
      rintro e w4 ⟨rfl, rfl⟩
      go_wp2_with fail
      refine (limbs_any (some ⟨w2.heap.size, 0, none⟩) (fl ws) n (fm ws) _ (fm_length ws) (by omega) (hrd.take _) (fm_hd HB.out)).mono ?_
      rintro e w5 ⟨v, zs, rfl, hown, hnum, hb5⟩
      rw [hfin.out] at hnum
      have HO5 := Lib.hid hown
      have HN5 := Lib.hid hnum
      clear hown hnum
      go_wp2
      go_ret
      have h1 := HB2.out.size
      have h2 := hbl.out.size
      exact ⟨_, zs, rfl, owns_base HO5.out (by omega), HN5.out, HB2.out.trans ((hbl.out.mono h1).trans (hb5.mono (by omega)))⟩
end Go.Proofs.YtaookoejdnkkoaaGreatDoor
