import Derived.Test.YtaookoejdnkkoaaGreatDoorQHv
import Derived.Test.YtaookoejdnkkoaaGreatDoorQGB
import Derived.Deep.RegionHeld3
import Derived.Laws.CopyOwn
import Derived.Shelf.RegionOpenPlain
import Derived.Test.YtaookoejdnkkoaaGreatDoorQ02
import Derived.Test.YtaookoejdnkkoaaGreatDoorCards
import Derived.Test.YtaookoejdnkkoaaGreatDoorTie
import Derived.ChangeMaps5
import Derived.Deep.DeepHandedRow
import Derived.Deep.RegionLaw
import Derived.Deep.RegionWith
import Derived.LaidOnce
import Derived.Laws.ComplexArith
import Derived.Laws.Entries
import Derived.Lay
import Derived.Lib.OthersKept
import Derived.OpenShut
import Derived.Outline
import Derived.ProofKit
import Derived.ScopeJumps
import Derived.SevenTiedAt
import Derived.Shelf.Spec.TrailingZeros
import Derived.WalkMore
namespace Go.Proofs.YtaookoejdnkkoaaGreatDoor
open Go.RowKit

theorem byte_step_r {U x j : Nat} (hj : j < 8) : 256 * (U * 256 ^ j + x / 2 ^ (64 - 8 * j)) + x / 2 ^ (56 - 8 * j) % 256 = U * 256 ^ (j + 1) + x / 2 ^ (64 - 8 * (j + 1)) := by
  rw [show 64 - 8 * (j + 1) = 56 - 8 * j by omega, show 64 - 8 * j = (56 - 8 * j) + 8 by omega, Nat.pow_add 2, ← Nat.div_div_eq_div_mul, show (2 : Nat) ^ 8 = 256 from rfl]
  generalize x / 2 ^ (56 - 8 * j) = y
  rw [Nat.mul_add, Nat.pow_succ, show 256 * (U * 256 ^ j) = U * (256 ^ j * 256) by rw [Nat.mul_comm, Nat.mul_assoc]]
  omega
theorem u8s_snoc2 (xs : List Nat) (z : Nat) : u8s xs ++ [.int .u8 (z : Int)] = u8s (xs ++ [z]) := by simp [u8s]
set_option maxHeartbeats 1000000 in
set_option maxRecDepth 100000 in
theorem rbytes_any (a : Option Addr) (len cap : Nat) (xs : List Nat) (w : World) (hl : xs.length = len) (hbig : len ≤ 1048576) (hr : Rd .u64 w a xs) (bx : Bd xs) :
    Calls Tryz.prog 125 #[.slice a len cap] w (Told8 (BytesTells xs) w) := by
  go_enter Tryz.func125, Tryz.ntmps125
  go_wp2_with fail
  refine (rfits_any a len cap xs _ hl hbig hr bx).mono ?_
  rintro e w1 ⟨rfl, hb1⟩
  by_cases hfit : fl xs ≤ 128
  · have hq : decide (fl xs ≤ 128) = true := by simp; omega
    have hr1 := hr.below hb1
    have HF := Lib.hid hfit
    have HB1 := Lib.hid hb1
    clear hfit hb1 hr
    go_wp2_with fail
    refine (rform_any a len cap xs _ hl hbig hr1 bx).mono ?_
    rintro e w2 ⟨v, zs, rfl, hown, hnum, hb2⟩
    have hlz : zs.length ≤ 128 := by
      have : zs = fm xs := Num.unique hnum (num_fm bx)
      rw [this, fm_length]; exact HF.out
    obtain ⟨az, cz, rfl, hrz⟩ := own64.form hown
    have HN := Lib.hid hnum
    have HO := Lib.hid hown
    have HB2 := Lib.hid (HB1.out.trans (hb2.mono HB1.out.size))
    clear hown hnum hb2 HB1 hr1
    go_wp2
    go_loopw [5, 6] (fun v5 v6 wr => ∃ (m : Nat) (bs : List Nat), m ≤ zs.length ∧ v6 = .int .i64 ((m : Int) - 1) ∧ Hid (BNum bs (val (zs.drop m))) ∧ Hid (bs.length ≤ 8 * (zs.length - m)) ∧ Hid (own8 wr w2.heap.size v5 bs) ∧ Hid (Below w2.heap.size w2 wr)) (fun _ v6 _ => (intOf v6 + 1).toNat)
    case atStart => exact ⟨zs.length, [], Nat.le_refl _, rfl, by show BNum _ _; rw [List.drop_length]; exact BNum.nil, Nat.zero_le _, World.ownsRow_nil _ _ _ _, Below.refl _ _⟩
    case round =>
      obtain ⟨m, bs, hm, rfl, HBN, HLB, HOB, hbl⟩ := hrel
      by_cases hm0 : m = 0
      · subst hm0
        obtain ⟨ab, cb, rfl⟩ := owns_form HOB.out
        have hnum := HBN.out
        rw [List.drop_zero, HN.out.vl] at hnum
        have hl8 := HLB.out
        clear HBN HLB
        have HNU := Lib.hid hnum
        clear hnum
        go_wp2
        go_ret2
        have h1 := HB2.out.size
        exact ⟨HB2.out.trans (hbl.out.mono h1), ab, cb, 0, bs, rfl, owns_base HOB.out h1, by omega, .inr ⟨HF.out, rfl, HNU.out⟩⟩
      · obtain ⟨i, rfl⟩ : ∃ i, m = i + 1 := ⟨m - 1, by omega⟩
        obtain ⟨gz, cz', rz, hBg, hgl⟩ := own64.isAt HO.out (by omega)
        obtain ⟨rfl, rfl⟩ : az = some ⟨gz, 0, none⟩ ∧ cz = cz' := by simpa using rz
        clear rz
        have ri : ((i + 1 : Nat) : Int) - 1 = (i : Int) := by omega
        rw [ri]
        have hx64 := HN.out.bd.at0 i
        have hc0 := HO.out.cell (j := i) (by omega)
        obtain ⟨x, hx⟩ : ∃ x, at0 zs i = x := ⟨_, rfl⟩
        rw [hx] at hc0 hx64
        have HC := Lib.hid hc0
        have HVD : Hid (val (zs.drop i) = x + 18446744073709551616 * val (zs.drop (i + 1))) := by show _ = _; rw [drop_val (by omega), hx]
        clear hc0 hx
        obtain ⟨U, hU⟩ : ∃ U, U = val (zs.drop (i + 1)) := ⟨_, rfl⟩
        rw [← hU] at HVD HBN
        clear hU
        have him : i < zs.length := by omega
        have h0i : (0 : Int) ≤ (i : Int) := by omega
        go_wp2
        go_loopw [5, 7] (fun v5 v8 wr => ∃ (j : Nat) (bs : List Nat), j ≤ 8 ∧ v8 = .int .i64 (56 - 8 * (j : Int)) ∧ Hid (BNum bs (U * 256 ^ j + x / 2 ^ (64 - 8 * j))) ∧ Hid (bs.length ≤ 8 * (zs.length - (i + 1)) + j) ∧ Hid (own8 wr w2.heap.size v5 bs) ∧ Hid (Below w2.heap.size w2 wr)) (fun _ v8 _ => (intOf v8 + 8).toNat)
        case atStart => exact ⟨0, bs, by omega, rfl, by show BNum _ _; rw [Nat.pow_zero, Nat.mul_one, Nat.div_eq_of_lt hx64, Nat.add_zero]; exact HBN.out, HLB.out, HOB.out, hbl.out⟩
        case round =>
          clear HBN HLB HOB hbl bs
          obtain ⟨j, bs, hj, rfl, HBN, HLB, HOB, hbl⟩ := hrel
          have hsz := hbl.out.size
          by_cases hj8 : j < 8
          · have hc1 := below_cell hbl.out _ _ HC.out
            obtain ⟨t, ht⟩ : ∃ t, t = 56 - 8 * j := ⟨_, rfl⟩
            have rt : (56 : Int) - 8 * (j : Int) = (t : Int) := by omega
            rw [rt]
            obtain ⟨c, hc⟩ : ∃ c, c = x / 2 ^ t % 256 := ⟨_, rfl⟩
            have ew : IntKind.u8.wrap ((x : Int) / 2 ^ t) = (c : Int) := by
              have := byte_of_word x t
              rw [← hc] at this
              rw [← this]; simp
            have hst := byte_step_r (U := U) (x := x) hj8
            rw [← ht, ← hc] at hst
            have hc8 : c < 256 := by omega
            have hst2 : Hid ((64 : Nat) - 8 * j ≤ 64) := by show _ ≤ _; omega
            obtain ⟨ab, cb, rfl⟩ := owns_form HOB.out
            have HST := Lib.hid hst
            have HT := Lib.hid ht
            have h0t : (0 : Int) ≤ (t : Int) := by omega
            have ht56 : t ≤ 56 := by omega
            have hlb := HLB.out
            have rstep : (t : Int) - 8 = 56 - 8 * ((j + 1 : Nat) : Int) := by omega
            have RS := Lib.hid rstep
            clear hst ht hc rstep rt
            by_cases hskip : c = 0 ∧ bs.length = 0
            · obtain ⟨rfl, hbs⟩ := hskip
              have e0 : bs = [] := List.eq_nil_of_length_eq_zero hbs
              subst e0
              have hnum : Hid (BNum [] (U * 256 ^ (j + 1) + x / 2 ^ (64 - 8 * (j + 1)))) := by
                show BNum _ _
                rw [← HST.out, ← HBN.out.vl]; exact BNum.nil
              go_wp2
              go_roundw
              case rel => exact ⟨j + 1, [], by omega, by rw [← RS.out], hnum, by show _ ≤ _; simp, HOB.out, hbl.out⟩
              case measure => simp [intOf]; omega
            · have hnum : Hid (BNum (bs ++ [c]) (U * 256 ^ (j + 1) + x / 2 ^ (64 - 8 * (j + 1)))) := by
                show BNum _ _
                rw [← HST.out]; exact HBN.out.snoc hc8 (by omega)
              have hown := HOB.out
              obtain ⟨lb, hlb2⟩ : ∃ lb, lb = bs.length := ⟨_, rfl⟩
              have hown2 : wr.ownsRow w2.heap.size 5 1 (.slice ab lb cb) lb (u8s bs) := by rw [hlb2]; exact hown
              have HLB2 := Lib.hid hlb2
              rw [← hlb2] at hskip hlb ⊢
              clear hown hlb2
              have hdec : c ≠ 0 ∨ (c = 0 ∧ 0 < lb) := by omega
              clear hskip
              have fin : ∀ g cap' w1, w1.ownsRow w2.heap.size 5 1 (.slice (some ⟨g, 0, none⟩) (lb + 1) cap') (lb + 1) (u8s bs ++ [.int .u8 (c : Int)]) → (wr.alloc (.cells #[.int .u8 (c : Int)] 5)).grownBy w1 (Value.slice ab lb cb).ownBlock →
                  ∃ (j' : Nat) (bs' : List Nat), j' ≤ 8 ∧ Value.int .i64 ((t : Int) - 8) = .int .i64 (56 - 8 * (j' : Int)) ∧ Hid (BNum bs' (U * 256 ^ j' + x / 2 ^ (64 - 8 * j'))) ∧ Hid (bs'.length ≤ 8 * (zs.length - (i + 1)) + j') ∧ Hid (own8 w1 w2.heap.size (.slice (some ⟨g, 0, none⟩) (lb + 1) cap') bs') ∧ Hid (Below w2.heap.size w2 w1) := by
                intro g cap' w1 ho hg
                have hl2 := HLB2.out
                refine ⟨j + 1, bs ++ [c], by omega, by rw [RS.out], hnum, by show _ ≤ _; simp; omega, ?_, (hbl.out.alloc hsz _).grown hg (by simp; omega) (fun q hq => (hown2.lt q hq).1)⟩
                show World.ownsRow _ _ _ _ _ _ _
                rw [List.length_append, List.length_singleton, ← hl2, ← u8s_snoc2]
                exact ho
              have FIN := Lib.hid fin
              clear fin
              rcases hdec with hc0 | ⟨rfl, hlp⟩
              · have hq1 : ((c : Int) != 0) = true := by rw [bne_iff_ne]; omega
                go_wp2_with (at_builtin; refine wpl_app 40 5 Tryz.underlying40 info8 rfl (by decide) rfl _ _ rfl w2.heap.size _ lb (u8s bs) rfl (hown2.alloc _) wr.heap.size _ rfl (World.cell?_alloc_at _ _ _ _ rfl) rfl (by omega) (by simp; omega) ?_)
                intro g cap' w1 hown1 hg1 hBg1 hgl1 _
                have G := Lib.hid (FIN.out g cap' w1 hown1 hg1)
                clear FIN hown1 hg1 hown2
                go_wp2
                go_roundw
                case rel => exact G.out
                case measure => simp [intOf]; omega
              · have hq1 : decide ((0 : Int) < (lb : Int)) = true := by rw [decide_eq_true_iff]; omega
                go_wp2_with (at_builtin; refine wpl_app 40 5 Tryz.underlying40 info8 rfl (by decide) rfl _ _ rfl w2.heap.size _ lb (u8s bs) rfl (hown2.alloc _) wr.heap.size _ rfl (World.cell?_alloc_at _ _ _ _ rfl) rfl (by omega) (by simp; omega) ?_)
                intro g cap' w1 hown1 hg1 hBg1 hgl1 _
                have G := Lib.hid (FIN.out g cap' w1 hown1 hg1)
                clear FIN hown1 hg1 hown2
                go_wp2
                go_roundw
                case rel => exact G.out
                case measure => simp [intOf]; omega
          · obtain rfl : j = 8 := by omega
            go_wp2
            go_roundw
            case rel =>
              refine ⟨i, bs, by omega, by go_num, ?_, by have := HLB.out; show _ ≤ _; omega, HOB.out, hbl.out⟩
              have h := HBN.out
              show BNum _ _
              rw [HVD.out]
              rw [show 64 - 8 * 8 = 0 from rfl, Nat.pow_zero, Nat.div_one, show (256 : Nat) ^ 8 = 18446744073709551616 from rfl, Nat.mul_comm, Nat.add_comm] at h
              exact h
            case measure => simp [intOf]
  · have hq : decide (fl xs ≤ 128) = false := by simp; omega
    go_wp2
    go_ret2
    exact ⟨hb1, none, 0, 3, [], rfl, World.ownsRow_nil _ _ _ _, by decide, .inl ⟨by omega, rfl, rfl⟩⟩

set_option maxHeartbeats 1000000 in
set_option maxRecDepth 100000 in
theorem rlength_any (a : Option Addr) (len cap : Nat) (xs : List Nat) (w : World) (hl : xs.length = len) (hbig : len ≤ 1048576) (hr : Rd .u64 w a xs) (bx : Bd xs) :
    Calls Tryz.prog 96 #[.slice a len cap] w fun e w' => ∃ k : Nat, e = .returned (.int .i64 (k : Nat)) ∧ BitsIs (val xs) k ∧ Below w.heap.size w w' := by
  go_enter Tryz.func96, Tryz.ntmps96
  go_wp2_with fail
  refine (halves_any a len cap xs _ hl hbig hr bx).mono ?_
  rintro e w1 ⟨v, hs, rfl, hown, hnum, hb1⟩
  obtain ⟨a1, c1, rfl, hr1⟩ := own64.form hown
  have hl1 : hs.length ≤ 2 * len := by
    have h1 := hnum.len_le (k := 2 * len)
    have h2 := val_lt bx
    rw [hl, ← pow_pair] at h2
    exact h1.2 h2
  by_cases h0 : hs.length = 0
  · have hq : ((hs.length : Int) == 0) = true := by rw [beq_iff_eq]; omega
    have e0 : hs = [] := List.eq_nil_of_length_eq_zero h0
    have hz : Hid (val xs = 0) := by show _ = _; rw [← hnum.vl, e0]; rfl
    clear h0 e0 hnum hown hr1
    go_wp2
    go_ret
    exact ⟨0, rfl, .inl ⟨hz.out, rfl⟩, hb1⟩
  · have hq : ((hs.length : Int) == 0) = false := by rw [beq_eq_false_iff_ne]; omega
    obtain ⟨m, hm⟩ : ∃ m, hs.length = m + 1 := ⟨hs.length - 1, by omega⟩
    obtain ⟨b, off, rfl⟩ := hr1.isAt (by omega)
    have hc1 := hr1.cell (i := m) (by omega)
    have htop : at0 hs m ≠ 0 := by have := hnum.cn (by omega); rw [hm, Nat.add_sub_cancel] at this; exact this
    have hb32 := hnum.bd.at0 m
    have HV : Hid (val xs = v32 (hs.take m) + 4294967296 ^ m * at0 hs m) := by
      show _ = _
      rw [← hnum.vl, v32_at hs m (by omega), List.drop_of_length_le (by omega)]
      simp [v32]
    have HL : Hid (v32 (hs.take m) < 4294967296 ^ m) := by
      have h := v32_lt (hnum.bd.take m)
      rw [List.length_take, Nat.min_eq_left (by omega)] at h
      exact h
    obtain ⟨x, hx⟩ : ∃ x, x = at0 hs m := ⟨_, rfl⟩
    rw [← hx] at hc1 htop hb32 HV
    obtain ⟨L, hLL⟩ : ∃ L, L = hs.length := ⟨_, rfl⟩
    rw [← hLL] at hq hm ⊢
    have rm : (L : Int) - 1 = (m : Int) := by omega
    obtain ⟨M, hM⟩ : ∃ M, M = 32 * m := ⟨_, rfl⟩
    have rm32 : (32 : Int) * (m : Int) = (M : Int) := by omega
    have HMM := Lib.hid hM
    have hMb : M ≤ 67108864 := by omega
    clear hM
    have hmL : m < L := by omega
    have hmb : m ≤ 2097152 := by omega
    have HX := Lib.hid htop
    clear hm htop hx hLL hnum hown hr1 h0
    go_wp2
    go_loop [4, 5] (fun v4 v5 => ∃ (j y : Nat), j ≤ 32 ∧ v4 = .int .i64 ((M : Int) + (j : Int)) ∧ v5 = .int .u64 (y : Nat) ∧ Hid (y = x / 2 ^ j) ∧ Hid (0 < j → 0 < x / 2 ^ (j - 1))) (fun v4 _ => 33 + M - (intOf v4).toNat)
    case atStart => exact ⟨0, x, by omega, by simp, rfl, by show _ = _; rw [Nat.pow_zero, Nat.div_one], fun h => absurd h (by omega)⟩
    case round =>
      obtain ⟨j, y, hj, rfl, rfl, HY, HJ⟩ := hrel
      by_cases hy : 0 < y
      · have hj32 : j < 32 := by
          refine Nat.lt_of_le_of_ne hj fun e => ?_
          have := HY.out
          rw [e, Nat.div_eq_of_lt (by simpa using hb32)] at this
          omega
        obtain ⟨z, hz⟩ : ∃ z, z = y / 2 := ⟨_, rfl⟩
        have ez : (y : Int) / 2 = (z : Int) := by omega
        have hq2 : decide ((0 : Int) < (y : Int)) = true := by rw [decide_eq_true_iff]; omega
        have HZ := Lib.hid hz
        have HYP := Lib.hid hy
        clear hz hy
        go_wp2
        go_round
        case rel =>
          refine ⟨j + 1, z, by omega, (by first | (congr 1; done) | (congr 1; omega)), rfl, ?_, fun _ => ?_⟩
          · show _ = _
            rw [HZ.out, HY.out, Nat.div_div_eq_div_mul, ← Nat.pow_succ]
          · rw [Nat.add_sub_cancel, ← HY.out]; exact HYP.out
        case measure => simp [intOf]; omega
      · have hq2 : decide ((0 : Int) < (y : Int)) = false := by rw [decide_eq_false_iff_not]; omega
        have hy0 : Hid (x / 2 ^ j = 0) := by show _ = _; rw [← HY.out]; omega
        have hq3 : decide (0 < y) = false := by rw [decide_eq_false_iff_not]; omega
        go_wp2
        go_ret
        have hj0 : 0 < j := by
          refine Nat.pos_of_ne_zero fun h => ?_
          have := hy0.out
          rw [h, Nat.pow_zero, Nat.div_one] at this
          exact HX.out this
        have h1 := HJ.out hj0
        have h2 : x < 2 ^ j := (Nat.div_eq_zero_iff_lt (Nat.two_pow_pos _)).1 hy0.out
        have h3 : 2 ^ (j - 1) ≤ x := by
          have := (Nat.le_div_iff_mul_le (Nat.two_pow_pos (j - 1))).1 h1
          omega
        have e32 : (4294967296 : Nat) ^ m = 2 ^ M := by rw [HMM.out, Nat.pow_mul]
        refine ⟨M + j, by congr 2, .inr ⟨by omega, ?_, ?_⟩, hb1⟩
        · rw [HV.out, e32, show M + j - 1 = M + (j - 1) by omega, Nat.pow_add]
          have := Nat.mul_le_mul_left (2 ^ M) h3
          omega
        · rw [HV.out, e32, Nat.pow_add]
          have h4 := HL.out
          rw [e32] at h4
          have h5 : 2 ^ M * (x + 1) ≤ 2 ^ M * 2 ^ j := Nat.mul_le_mul_left _ h2
          rw [Nat.mul_add] at h5
          omega

theorem v32_lt_of_top {xs ys : List Nat} {k : Nat} (bx : Hd xs) (hl : xs.length = ys.length) (hk : k < xs.length) (h : xs.drop (k + 1) = ys.drop (k + 1)) (hlt : at0 xs k < at0 ys k) : v32 xs < v32 ys := by
  rw [v32_at xs k hk, v32_at ys k (by omega), h]
  have h1 := v32_lt (bx.take k)
  rw [List.length_take, Nat.min_eq_left (by omega)] at h1
  generalize v32 (ys.drop (k + 1)) = t
  have h2 : 4294967296 ^ k * (at0 xs k + 4294967296 * t + 1) ≤ 4294967296 ^ k * (at0 ys k + 4294967296 * t) := Nat.mul_le_mul_left _ (by omega)
  rw [Nat.mul_add] at h2
  omega
set_option maxHeartbeats 1000000 in
set_option maxRecDepth 100000 in
theorem rcompare_any (a b : Option Addr) (la lb ca cb V1 V2 : Nat) (xs ys : List Nat) (w : World) (hla : xs.length = la) (hlb : ys.length = lb) (hba : la ≤ 1099511627776) (hbb : lb ≤ 1099511627776)
    (hra : Rd .u64 w a xs) (hrb : Rd .u64 w b ys) (h1 : Num32 xs V1) (h2 : Num32 ys V2) :
    Calls Tryz.prog 151 #[.slice a la ca, .slice b lb cb] w (CmpPost (cmpI V1 V2) w) := by
  have H1 := Lib.hid h1
  have H2 := Lib.hid h2
  clear h1 h2
  go_enter Tryz.func151, Tryz.ntmps151
  by_cases hne : la = lb
  · subst hne
    have hne1 : ((la : Int) != (la : Int)) = false := by simp
    have HLA := Lib.hid hla
    have HLB := Lib.hid hlb
    go_wp2
    go_loopw [5] (fun v wr => ∃ i n : Nat, i ≤ la ∧ v = .int .i64 ((i : Int) - 1) ∧ wr = w.drewN n ∧ Hid (xs.drop i = ys.drop i)) (fun v _ => (intOf v + 1).toNat)
    case atStart => exact ⟨la, 0, Nat.le_refl _, rfl, rfl, by show _ = _; rw [List.drop_of_length_le (by omega), List.drop_of_length_le (by omega)]⟩
    case round =>
      obtain ⟨i, n, hi, rfl, rfl, hd⟩ := hrel
      by_cases h0 : i = 0
      · subst h0
        have hv : Hid (cmpI V1 V2 = 0) := by
          have hd1 := hd.out
          rw [List.drop_zero, List.drop_zero] at hd1
          show cmpI V1 V2 = 0
          rw [← H1.out.vl, ← H2.out.vl, hd1]
          exact cmpI_self _
        go_wp2
        go_ret
        exact ⟨by rw [hv.out]; rfl, n, rfl⟩
      · obtain ⟨m, rfl⟩ : ∃ m, i = m + 1 := ⟨i - 1, by omega⟩
        have hm : m < xs.length := by omega
        have hm' : m < ys.length := by omega
        obtain ⟨ba, oa, rfl⟩ := hra.isAt (by omega)
        obtain ⟨bb, ob, rfl⟩ := hrb.isAt (by omega)
        have hc1 := hra.cell hm
        have hc2 := hrb.cell hm'
        have hb1 := H1.out.bd.at0 m
        have hb2 := H2.out.bd.at0 m
        have HL : Hid (cmpI V1 V2 = cmpI (at0 xs m) (at0 ys m) ∨ at0 xs m = at0 ys m) := by
          rcases Nat.lt_trichotomy (at0 xs m) (at0 ys m) with h | h | h
          · refine .inl ?_
            rw [cmpI_of_lt h, ← H1.out.vl, ← H2.out.vl]
            exact cmpI_of_lt (v32_lt_of_top H1.out.bd (by omega) hm hd.out h)
          · exact .inr h
          · refine .inl ?_
            rw [cmpI_of_gt h, ← H1.out.vl, ← H2.out.vl]
            exact cmpI_of_gt (v32_lt_of_top H2.out.bd (by omega) hm' hd.out.symm h)
        have HS : Hid (at0 xs m = at0 ys m → xs.drop m = ys.drop m) := fun h => drop_succ_eq (by omega) hm hd.out h
        have hm2 : m < la := by omega
        clear hd hra hrb hm hm' hla hlb
        generalize at0 xs m = x at *
        generalize at0 ys m = y at *
        have hm1 : ((m + 1 : Nat) : Int) - 1 = (m : Int) := by omega
        rw [hm1]
        have h00 : (0 : Int) ≤ (m : Int) := by omega
        have hmI : (m : Int) < (la : Int) := by omega
        rcases Nat.lt_trichotomy x y with h | h | h
        · have hq1 : decide (x < y) = true := by rw [decide_eq_true_iff]; exact h
          have hv : Hid (cmpI V1 V2 = -1) := by
            rcases HL.out with h9 | h9
            · show _ = _; rw [h9]; exact cmpI_of_lt h
            · omega
          have HX := Lib.hid h
          clear h
          go_wp2
          go_quiet (fail)
          go_wp2
          go_ret
          exact ⟨by rw [hv.out]; rfl, _, by first | rfl | exact World.drewN_drewN _ _ _⟩
        · subst h
          have hq1 : decide (x < x) = false := by rw [decide_eq_false_iff_not]; omega
          go_wp2
          go_quiet (fail)
          go_wp2
          go_quiet (fail)
          go_wp2
          go_roundw
          case rel => exact ⟨m, _, by omega, by go_num, by first | rfl | (rw [World.drewN_drewN]) | (rw [World.drewN_drewN, World.drewN_drewN]), HS.out trivial⟩
          case measure => simp [intOf]
        · have hq1 : decide (x < y) = false := by rw [decide_eq_false_iff_not]; omega
          have hq2 : decide (y < x) = true := by rw [decide_eq_true_iff]; exact h
          have hv : Hid (cmpI V1 V2 = 1) := by
            rcases HL.out with h9 | h9
            · show _ = _; rw [h9]; exact cmpI_of_gt h
            · omega
          have HX := Lib.hid h
          clear h
          go_wp2
          go_quiet (fail)
          go_wp2
          go_quiet (fail)
          go_wp2
          go_ret
          exact ⟨by rw [hv.out]; rfl, _, (congrArg (fun W => World.drewN W _) (World.drewN_drewN _ _ _)).trans (World.drewN_drewN _ _ _)⟩
  · have hne1 : ((la : Int) != (lb : Int)) = true := by rw [bne_iff_ne]; omega
    have hor : (la < lb ∧ cmpI V1 V2 = -1) ∨ (lb < la ∧ cmpI V1 V2 = 1) := by
      rcases Nat.lt_or_ge la lb with h | h
      · refine .inl ⟨h, cmpI_of_lt ?_⟩
        exact Nat.lt_of_lt_of_le (H1.out.len_le.1 (Nat.le_of_eq hla)) (H2.out.len_lt.1 (by omega))
      · refine .inr ⟨by omega, cmpI_of_gt ?_⟩
        exact Nat.lt_of_lt_of_le (H2.out.len_le.1 (Nat.le_of_eq hlb)) (H1.out.len_lt.1 (by omega))
    rcases hor with ⟨h, hv⟩ | ⟨h, hv⟩
    · have hq1 : decide (la < lb) = true := by rw [decide_eq_true_iff]; exact h
      have HV := Lib.hid hv
      clear hv hne h
      go_wp2
      go_ret
      exact ⟨by rw [HV.out]; rfl, 0, rfl⟩
    · have hq1 : decide (la < lb) = false := by rw [decide_eq_false_iff_not]; omega
      have HV := Lib.hid hv
      clear hv hne h
      go_wp2
      go_ret
      exact ⟨by rw [HV.out]; rfl, 0, rfl⟩

set_option maxHeartbeats 1000000 in
theorem rcmpW_any (a b : Option Addr) (la ca lb cb : Nat) (xs ys : List Nat) (w : World) (hla : xs.length = la) (hlb : ys.length = lb) (hba : la ≤ 1048576) (hbb : lb ≤ 1048576) (hra : Rd .u64 w a xs) (hrb : Rd .u64 w b ys) (bx : Bd xs) (bY : Bd ys) :
    Calls Tryz.prog 97 #[.slice a la ca, .slice b lb cb] w fun e w' => e = .returned (.int .i64 (cmpI (val xs) (val ys))) ∧ Below w.heap.size w w' := by
  go_enter Tryz.func97, Tryz.ntmps97
  go_wp2_with fail
  refine (halves_any a la ca xs _ hla hba hra bx).mono ?_
  rintro e w1 ⟨v, ps, rfl, hown, hnum, hb1⟩
  obtain ⟨a1, c1, rfl, hr1⟩ := own64.form hown
  have hlen1 : ps.length ≤ 2 * la := by
    have h2 := val_lt bx
    rw [hla, ← pow_pair] at h2
    exact (hnum.len_le (k := 2 * la)).2 h2
  have HR1 := Lib.hid hr1
  have HRB := Lib.hid (hrb.below hb1)
  have HN1 := Lib.hid hnum
  have HB1 := Lib.hid hb1
  clear hown hra hrb hr1 hnum hb1
  obtain ⟨lp, hlp⟩ : ∃ l, ps.length = l := ⟨_, rfl⟩
  rw [hlp] at hlen1 ⊢
  have HLP := Lib.hid hlp
  clear hlp
  go_wp2_with fail
  refine (halves_any b lb cb ys _ hlb hbb HRB.out bY).mono ?_
  rintro e w2 ⟨v, qs, rfl, hown, hnum, hb2⟩
  obtain ⟨a2, c2, rfl, hr2⟩ := own64.form hown
  have hlen2 : qs.length ≤ 2 * lb := by
    have h2 := val_lt bY
    rw [hlb, ← pow_pair] at h2
    exact (hnum.len_le (k := 2 * lb)).2 h2
  have HRP := Lib.hid (HR1.out.below hb2)
  have HRQ := Lib.hid hr2
  have HN2 := Lib.hid hnum
  have HB2 := Lib.hid (HB1.out.trans (hb2.mono HB1.out.size))
  clear hown hnum hb2 hr2 HR1 HRB HB1 hla hlb bx bY
  obtain ⟨lq, hlq⟩ : ∃ l, qs.length = l := ⟨_, rfl⟩
  rw [hlq] at hlen2 ⊢
  have HLQ := Lib.hid hlq
  clear hlq
  go_wp2_with fail
  refine (rcompare_any a1 a2 lp lq c1 c2 (val xs) (val ys) ps qs _ HLP.out HLQ.out (by omega) (by omega) HRP.out HRQ.out HN1.out HN2.out).mono ?_
  rintro e w3 hp
  obtain ⟨rfl, n3, rfl⟩ := hp
  have HB3 := Lib.hid (Below.drewM HB2.out n3)
  obtain ⟨z, hz⟩ : ∃ z, cmpI (val xs) (val ys) = z := ⟨_, rfl⟩
  rw [hz]
  have HZ := Lib.hid hz
  clear hz
  go_wp2
  go_ret
  exact ⟨by rw [HZ.out]; rfl, HB3.out⟩

theorem r4small_any (x : Nat) (w : World) (hx : x < 18446744073709551616) :
    Calls Tryz.prog 98 #[.int .u64 (x : Nat)] w fun e w' => ∃ a c zs, e = .returned (.slice a zs.length c) ∧ own64 w' w.heap.size (.slice a zs.length c) zs ∧ Num zs x ∧ Below w.heap.size w w' := by
  go_enter Tryz.func98, Tryz.ntmps98
  by_cases h0 : x = 0
  · have hq : ((x : Int) == 0) = true := by simp; omega
    have HX := Lib.hid h0
    clear h0
    go_wp2
    go_ret
    exact ⟨none, 0, [], rfl, own64_nil _ _, by rw [HX.out]; exact Num.nil, Below.refl _ _⟩
  · have hq : ((x : Int) == 0) = false := by simp; omega
    have HX := Lib.hid h0
    clear h0
    go_wp2
    go_ret
    refine ⟨_, _, [x], rfl, own64_of_blk (cur := #[.int .u64 (x : Nat)]) (heap_new w _) (Nat.le_refl _) (Nat.le_refl _) (by decide) rfl ⟨by simp, fun i hi => ?_⟩, ⟨Bd.nil.cons hx, fun _ => by unfold at0; simpa using HX.out, val_one x⟩, (Below.refl _ _).alloc (Nat.le_refl _) _⟩
    obtain rfl : i = 0 := by simp at hi; omega
    rfl
end Go.Proofs.YtaookoejdnkkoaaGreatDoor
