import Derived.Test.YtaookoejdnkkoaaGreatDoorKGB
import Derived.Laws.CopyOwn
import Derived.Shelf.RegionOpenPlain
namespace Go.Proofs.YtaookoejdnkkoaaGreatDoor
open Go.RowKit

def RTail (l : List Nat) (v : Value) : Prop := ∃ j : Nat, j ≤ l.length ∧ v = .int .i64 (j : Nat) ∧ bval (l.drop j) = bval l ∧ (at0 (l.drop j) 0 ≠ 0 ∨ l.drop j = [])

set_option exponentiation.threshold 10000 in
set_option maxHeartbeats 2000000 in
set_option maxRecDepth 100000 in
theorem rfrom_any (a : Option Addr) (len cap : Nat) (l : List Nat) (w : World) (hl : l.length = len) (hbig : len ≤ 1099511627776) (h8 : B8 l) (hr : Rd .u8 w a l) :
    Calls Tryz.prog 76 #[.slice a len cap] w (FromPost l w) := by
  have HR0 := Lib.hid hr
  clear hr
  go_enter Tryz.func76, Tryz.ntmps76
  go_upto_block 0 with (fail)
  go_cut [4] (fun v wx => Hid (RTail l v) ∧ w = wx)
  case first =>
    go_wp2
    go_loop [4] (fun v => ∃ j : Nat, j ≤ len ∧ v = .int .i64 (j : Nat) ∧ Hid (∀ i, i < j → at0 l i = 0)) (fun v => len - (intOf v).toNat)
    case atStart => exact ⟨0, Nat.zero_le _, rfl, fun i hi => by omega⟩
    case round =>
      obtain ⟨j, hj, rfl, hz⟩ := hrel
      by_cases hlt : j < len
      · obtain ⟨b, off, rfl⟩ := HR0.out.isAt (by omega)
        have hc1 := HR0.out.cell (i := j) (by omega)
        have HD : Hid (at0 (l.drop j) 0 = at0 l j) := by show _ = _; rw [at0_drop, Nat.add_zero]
        obtain ⟨x, hx0⟩ : ∃ x, at0 l j = x := ⟨_, rfl⟩
        rw [hx0] at hc1
        have HX := Lib.hid hx0
        clear hx0
        by_cases hx : x = 0
        · subst hx
          go_wp2
          go_round
          case rel => exact ⟨j + 1, by omega, by go_num, fun i hi => by rcases Nat.lt_succ_iff_lt_or_eq.1 hi with h | rfl; exact hz.out i h; exact HX.out⟩
          case measure => simp [intOf]; omega
        · have hq : ((x : Int) == 0) = false := by simp; omega
          have HX0 := Lib.hid hx
          clear hx
          go_wp2
          go_meet
          exact ⟨⟨j, by omega, rfl, bval_zeros (by omega) hz.out, .inl (by rw [HD.out, HX.out]; exact HX0.out)⟩, rfl⟩
      · obtain rfl : len = j := by omega
        go_wp2
        go_meet
        exact ⟨⟨len, by omega, rfl, bval_zeros (by omega) hz.out, .inr (List.drop_of_length_le (by omega))⟩, rfl⟩
  case rest =>
    obtain ⟨HT, rfl⟩ := hcut
    obtain ⟨j, hj, rfl, hbv, hhead⟩ := HT.out
    have h8' : B8 (l.drop j) := h8.drop j
    obtain ⟨t, ht⟩ : ∃ t, l.drop j = t := ⟨_, rfl⟩
    have hlen : len - j = t.length := by rw [← ht, List.length_drop, hl]
    have HAT : Hid (∀ i, at0 t i = at0 l (j + i)) := by rw [← ht]; exact fun i => at0_drop
    rw [ht] at hbv hhead h8'
    have htl : t.length ≤ len := by omega
    have hj2 : j ≤ len := by omega
    have rlen : (len : Int) - (j : Int) = (t.length : Int) := by omega
    have HBV := Lib.hid hbv
    have HLN := Lib.hid hlen
    clear HT hlen ht hbv h8
    by_cases hbig2 : 1024 < t.length
    · have HR : Hid (18446744073709551616 ^ 128 ≤ bval l) := by
        rcases hhead with h | h
        · have h1 := bval_ge h
          have h2 : 256 ^ 1024 ≤ 256 ^ (t.length - 1) := Nat.pow_le_pow_right (by decide) (by omega)
          rw [pow_1024] at h2
          rw [← HBV.out]
          exact Nat.le_trans h2 h1
        · rw [h] at hbig2; simp at hbig2
      clear hhead
      go_wp2
      go_ret2
      exact ⟨Below.refl _ _, .inl ⟨HR.out, rfl⟩⟩
    · have HHD := Lib.hid hhead
      clear hhead
      obtain ⟨n, hn⟩ : ∃ n, n = (t.length + 7) / 8 := ⟨_, rfl⟩
      have rn : ((t.length : Int) + 7) / 8 = (n : Int) := by omega
      have HN := Lib.hid hn
      have hn2 : n ≤ 200 := by omega
      clear hn
      go_wp2_with (at_make; refine wpl_make64 rfl _ _ rfl w.heap.size _ _ _ _ n rfl rfl rn rn (by omega) (Nat.le_refl _) ?_)
      intro w1 hown hbl hsz
      have HO := Lib.hid hown
      clear hown
      go_wp2
      go_loopw [6] (fun iv wr => ∃ (i : Nat) (ws : List Nat), i ≤ t.length ∧ iv = .int .i64 ((j : Int) + (i : Int)) ∧ Hid (own64 wr w.heap.size (.slice (some ⟨w.heap.size, 0, none⟩) n n) ws) ∧ Hid (Bd ws) ∧ Hid (val ws = bval (t.take i) * 256 ^ (t.length - i)) ∧ Below w.heap.size w wr) (fun iv _ => len - (intOf iv).toNat)
      case atStart => exact ⟨0, _, Nat.zero_le _, by simp, HO, fun x hx => by rw [List.eq_of_mem_replicate hx]; decide, by show _ = _; rw [val_replicate]; simp [bval], hbl⟩
      case round =>
        clear HO hbl
        obtain ⟨i, ws, hi, rfl, HO, HB, HV, hbl⟩ := hrel
        have HL : Hid (n = ws.length) := (own64.rd HO.out).1
        have hjt : j + t.length = len := by have := HLN.out; omega
        by_cases hlt : i < t.length
        · obtain ⟨b, off, rfl⟩ := HR0.out.isAt (by omega)
          have hc1 := below_cell hbl _ _ (HR0.out.cell (i := j + i) (by omega))
          rw [← HAT.out i] at hc1
          obtain ⟨p, hp⟩ : ∃ p, p = t.length - 1 - i := ⟨_, rfl⟩
          have rp : (len : Int) - 1 - ((j : Int) + (i : Int)) = (p : Int) := by omega
          have hji : j + i < len := by omega
          have HJ := Lib.hid hjt
          clear hjt
          have hpn : p / 8 < n := by have := HN.out; omega
          have hx8 := h8'.at0 i
          have HP : Hid (p + 1 = t.length - i) := by show _ = _; omega
          obtain ⟨st1, st2, st3, st4⟩ := byte_step (x := at0 t i) (N := bval (t.take i)) (p := p) HB.out (by rw [← HL.out]; exact hpn) (by rw [HV.out, HP.out]) hx8
          have HT : Hid (t.take (i + 1) = t.take i ++ [at0 t i]) := take_succ_at0 hlt
          have hc2 := own64.cell HO.out (j := p / 8) (by rw [← HL.out]; exact hpn)
          have hf2 := own64.free HO.out (p / 8)
          have HOS := fun (y : Nat) => own64.set HO.out (p / 8) y
          have hLb := HB.out.at0 (p / 8)
          generalize at0 t i = x at *
          generalize at0 ws (p / 8) = L at *
          obtain ⟨q, hq⟩ : ∃ q, q = p / 8 := ⟨_, rfl⟩
          obtain ⟨sh, hsh⟩ : ∃ sh, sh = 8 * (p % 8) := ⟨_, rfl⟩
          rw [← hsh] at st1 st2 st3 st4
          rw [← hq] at st4 hc2 hf2 HOS hpn
          obtain ⟨y, hy⟩ : ∃ y, y = x * 2 ^ sh := ⟨_, rfl⟩
          rw [← hy] at st1 st2 st3 st4
          have rq : (p : Int) / 8 = (q : Int) := by omega
          have rs : 8 * ((p : Int) % 8) = (sh : Int) := by omega
          have hs63 : sh ≤ 56 := by omega
          have ro : bits BinOp.or IntKind.u64 (L : Int) (y : Int) = ((L + y : Nat) : Int) := by rw [← st1]; exact or_nat L y hLb st3
          have ry : IntKind.u64.wrap ((x : Int) * 2 ^ sh) = (y : Int) := by
            rw [show (x : Int) * 2 ^ sh = ((x * 2 ^ sh : Nat) : Int) by simp, ← hy, IntKind.wrap_u64]; omega
          have H4 := Lib.hid st4
          have HHS := Lib.hid HOS
          clear st1 st3 st4 HOS hq hsh hy hp
          go_wp2
          have rw1 : IntKind.i64.wrap (q : Int) = (q : Int) := IntWalk.i64_in _ (by omega)
          have hq0 : (0 : Int) ≤ (q : Int) := by omega
          have rwx : IntKind.u64.wrap (x : Int) = (x : Int) := IntWalk.u64_in _ (by omega)
          obtain ⟨r8, hr8⟩ : ∃ r8, r8 = p % 8 := ⟨_, rfl⟩
          have rt : (p : Int).tmod 8 = (r8 : Int) := by rw [Int.tmod_eq_emod_of_nonneg (by omega)]; omega
          have rm : IntKind.i64.wrap (8 * (r8 : Int)) = (sh : Int) := by rw [IntWalk.i64_in _ (by omega)]; omega
          have hs0 : (0 : Int) ≤ (sh : Int) := by omega
          clear hr8
          have hqn : (q : Int) < (n : Int) := by omega
          have hji0 : (0 : Int) ≤ (j : Int) + (i : Int) := by omega
          have rti : ((j : Int) + (i : Int)).toNat = j + i := by omega
          have hji1 : (j : Int) + (i : Int) < (len : Int) := by omega
          refine wp_region_still_tail 19 (by kernel_rfl) (by kernel_rfl) ?_
          simp only [List.take_succ_cons, List.take_zero, List.drop_succ_cons, List.drop_zero]
          iterate 19 still_step
          refine wpStill_nil ?_
          go_wp2
          go_roundw
          case rel =>
            refine ⟨i + 1, ws.set q (L + y), by omega, by go_num, ?_, HB.out.set st2, ?_, (hbl.setCell (p := ⟨w.heap.size, q, none⟩) (Nat.le_refl _) _).drew⟩
            · exact HHS.out (L + y)
            · show _ = _
              rw [H4.out, HT.out, bval_snoc, show t.length - (i + 1) = p by have := HP.out; omega]
          case measure => simp [intOf]; omega
        · obtain rfl : i = t.length := by omega
          have hval : val ws = bval l := by
            have := HV.out
            rw [List.take_length, Nat.sub_self, Nat.pow_zero, Nat.mul_one, HBV.out] at this
            exact this
          have hcn : Cn ws := by
            refine bytes_cn HB.out (by rw [← HL.out]; exact HN.out) (by rw [hval]; exact HBV.out.symm) HHD.out
          have HNU : Hid (Num ws (bval l)) := ⟨HB.out, hcn, hval⟩
          have HFL : Hid (fl ws = n) := by show _ = _; rw [fl_of_cn hcn]; exact HL.out.symm
          have HRD := Lib.hid (own64.rd HO.out).2
          clear hval hcn
          go_wp2_with fail
          refine (strip_any _ n n ws _ HL.out.symm (by omega) (Nat.le_refl _) (fun h => by cases h) HRD.out).mono ?_
          rintro e w2 ⟨rfl, rfl⟩
          rw [HFL.out]
          go_wp2
          go_ret2
          refine ⟨hbl, .inr ⟨?_, _, ws, rfl, HO.out, HNU.out⟩⟩
          have h1 := bval_lt h8'
          have h2 : 256 ^ t.length ≤ 256 ^ 1024 := Nat.pow_le_pow_right (by decide) (by omega)
          rw [pow_1024] at h2
          rw [HBV.out] at h1
          omega

/-- What 'both' hands on of a number: its form. -/
def FormOf (a : Option Addr) (cap n : Nat) (a' : Option Addr) (c' : Nat) : Prop := (0 < n → a' = a ∧ c' = cap) ∧ (n = 0 → a' = none ∧ c' = 0)
theorem FormOf.rd {k : IntKind} {w : World} {a a' : Option Addr} {cap n c' : Nat} {xs : List Nat} (h : FormOf a cap n a' c') (hr : Rd k w a xs) (hn : n ≤ xs.length) : Rd k w a' (xs.take n) := by
  rcases Nat.eq_zero_or_pos n with rfl | hp
  · rw [List.take_zero]; exact Rd.nil _ _ _
  · rw [(h.1 hp).1]; exact hr.take n
theorem FormOf.cap {a a' : Option Addr} {cap n c' len : Nat} (h : FormOf a cap n a' c') (hc : len ≤ cap) (hn : n ≤ len) : n ≤ c' ∧ (a' = none → c' = 0 ∨ a = none) := by
  rcases Nat.eq_zero_or_pos n with rfl | hp
  · exact ⟨Nat.zero_le _, fun _ => .inl (h.2 rfl).2⟩
  · obtain ⟨rfl, rfl⟩ := h.1 hp
    exact ⟨by omega, fun e => .inr e⟩

def BothPost (a b : Option Addr) (ca cb : Nat) (xs ys : List Nat) (w : World) (e : Ending) (w' : World) : Prop :=
  ((fl xs ≤ 128 ∧ fl ys ≤ 128 ∧ ∃ a' c' b' d', e = .returned (.tuple #[.slice a' (fl xs) c', .slice b' (fl ys) d', .int .i64 0]) ∧ FormOf a ca (fl xs) a' c' ∧ FormOf b cb (fl ys) b' d') ∨
   ((128 < fl xs ∨ 128 < fl ys) ∧ e = .returned (.tuple #[.slice none 0 0, .slice none 0 0, .int .i64 3]))) ∧ w = w'

set_option maxHeartbeats 1000000 in
theorem both_any (a b : Option Addr) (la lb ca cb : Nat) (xs ys : List Nat) (w : World) (hla : xs.length = la) (hlb : ys.length = lb) (hba : la ≤ 1099511627776) (hbb : lb ≤ 1099511627776) (hca : la ≤ ca) (hcb : lb ≤ cb)
    (hra : Rd .u64 w a xs) (hrb : Rd .u64 w b ys) :
    Calls Tryz.prog 196 #[.slice a la ca, .slice b lb cb] w (BothPost a b ca cb xs ys w) := by
  have hfa := (fl_spec xs).1
  have hfb := (fl_spec ys).1
  go_enter Tryz.func196, Tryz.ntmps196
  go_wp2_with fail
  refine (one_any a la ca xs _ hla hba hca hra).mono ?_
  rintro e w1 ⟨hor, rfl⟩
  rcases hor with ⟨h1, a', c', rfl, g1, g2⟩ | ⟨h1, rfl⟩
  · have G1 := Lib.hid g1
    have G2 := Lib.hid g2
    clear g1 g2
    go_wp2_with fail
    refine (one_any b lb cb ys _ hlb hbb hcb hrb).mono ?_
    rintro e w1 ⟨hor, rfl⟩
    rcases hor with ⟨h2, b', d', rfl, k1, k2⟩ | ⟨h2, rfl⟩
    · have K1 := Lib.hid k1
      have K2 := Lib.hid k2
      clear k1 k2
      go_wp2
      go_ret3
      exact ⟨.inl ⟨h1, h2, a', c', b', d', rfl, ⟨G1.out, G2.out⟩, ⟨K1.out, K2.out⟩⟩, rfl⟩
    · go_wp2
      go_ret3
      exact ⟨.inr ⟨.inr h2, rfl⟩, rfl⟩
  · go_wp2
    go_ret3
    exact ⟨.inr ⟨.inl h1, rfl⟩, rfl⟩

/-- How many bits. -/
def BitsIs (n k : Nat) : Prop := (n = 0 ∧ k = 0) ∨ (0 < k ∧ 2 ^ (k - 1) ≤ n ∧ n < 2 ^ k)
def BitsPost (xs : List Nat) (w : World) (e : Ending) (w' : World) : Prop := (∃ k : Nat, e = .returned (.int .i64 (k : Nat)) ∧ BitsIs (val xs) k ∧ k ≤ 64 * fl xs) ∧ w = w'
theorem pow_64 (n : Nat) : (18446744073709551616 : Nat) ^ n = 2 ^ (64 * n) := by rw [Nat.pow_mul]

set_option maxHeartbeats 1000000 in
set_option maxRecDepth 100000 in
theorem bits_any (a : Option Addr) (la ca : Nat) (xs : List Nat) (w : World) (hla : xs.length = la) (hba : la ≤ 1099511627776) (hca : la ≤ ca) (hra : Rd .u64 w a xs) (bx : Bd xs) :
    Calls Tryz.prog 109 #[.slice a la ca] w (BitsPost xs w) := by
  have hfa := (fl_spec xs).1
  go_enter Tryz.func109, Tryz.ntmps109
  go_wp2_with fail
  refine (form_any a la ca xs _ hla hba hca hra).mono ?_
  rintro e w1 ⟨⟨a', c', rfl, g1, g2⟩, rfl⟩
  by_cases h0 : fl xs = 0
  · have hq : ((fl xs : Int) == 0) = true := by simp; omega
    have H0 := Lib.hid h0
    clear g1 g2 h0
    go_wp2
    go_ret
    refine ⟨⟨0, rfl, .inl ⟨?_, rfl⟩, Nat.zero_le _⟩, rfl⟩
    rw [← fm_val, fm, H0.out]; rfl
  · obtain ⟨rfl, rfl⟩ := g1 (by omega)
    obtain ⟨b, off, rfl⟩ := hra.isAt (by omega)
    obtain ⟨m, hm⟩ : ∃ m, fl xs = m + 1 := ⟨fl xs - 1, by omega⟩
    have hc1 := hra.cell (i := m) (by omega)
    have htop : at0 xs m ≠ 0 := by have := (fl_spec xs).2.2 (by omega); rw [hm, Nat.add_sub_cancel] at this; exact this
    have hb1 := bx.at0 m
    have HV : Hid (val xs = val ((fm xs).take m) + 18446744073709551616 ^ m * at0 xs m) := by
      show _ = _
      rw [← fm_val xs, val_at (fm xs) m (by rw [fm_length]; omega), List.drop_of_length_le (by rw [fm_length]; omega)]
      simp only [val, Nat.mul_zero, Nat.add_zero]
      rw [fm, at0_take (by omega)]
    have HL : Hid (val ((fm xs).take m) < 18446744073709551616 ^ m) := by
      have := val_lt ((fm_bd bx).take m)
      rw [List.length_take, fm_length, Nat.min_eq_left (by omega)] at this
      exact this
    have hq : ((fl xs : Int) == 0) = false := by simp; omega
    have hm1 : ((fl xs : Int) - 1) = (m : Int) := by omega
    have hmn : m < fl xs := by omega
    have HM := Lib.hid hm
    clear hm g1 g2 h0
    generalize at0 xs m = x at *
    have HX := Lib.hid htop
    clear htop
    go_wp2_with fail
    refine (Tryz.bits_Len64 (x : Int) _ (by omega) (by omega)).mono ?_
    rintro e w' ⟨rfl, hw⟩
    have hw2 := hw.symm
    subst hw2
    obtain ⟨b1, b2, b3⟩ := Lib.bitLenAux_bounds 64 x (by simpa using hb1) HX.out
    have hb : Lib.bitLenAux 64 x ≤ 64 := Lib.bitLenAux_le 64 x 64 (by simpa using hb1)
    have e1 : Lib.bitLen ((x : Int).toNat) = Lib.bitLenAux 64 x := rfl
    rw [e1]
    have B2 := Lib.hid b2
    have B3 := Lib.hid b3
    clear b2 b3 e1
    generalize Lib.bitLenAux 64 x = t at *
    go_wp2
    go_ret
    refine ⟨⟨64 * m + t, by congr 2, .inr ⟨by omega, ?_, ?_⟩, by omega⟩, rfl⟩
    · rw [HV.out, show 64 * m + t - 1 = 64 * m + (t - 1) by omega, Nat.pow_add, ← pow_64]
      have := Nat.mul_le_mul_left (18446744073709551616 ^ m) B2.out
      omega
    · rw [HV.out, Nat.pow_add, ← pow_64]
      have h1 : 18446744073709551616 ^ m * (x + 1) ≤ 18446744073709551616 ^ m * 2 ^ t := Nat.mul_le_mul_left _ B3.out
      rw [Nat.mul_add] at h1
      have := HL.out
      omega

/-- A list with a piece written over. -/
def spl (ws : List Nat) (off : Nat) (zs : List Nat) : List Nat := ws.take off ++ (zs ++ ws.drop (off + zs.length))
theorem spl_length {ws zs : List Nat} {off : Nat} (h : off + zs.length ≤ ws.length) : (spl ws off zs).length = ws.length := by simp [spl]; omega
theorem spl_at0_in {ws zs : List Nat} {off i : Nat} (h : off ≤ ws.length) (hi : i < zs.length) : at0 (spl ws off zs) (off + i) = at0 zs i := by
  have h1 : (ws.take off).length = off := by simp; omega
  have := at0_append_right (xs := ws.take off) (ys := zs ++ ws.drop (off + zs.length)) i
  rw [h1] at this
  rw [spl, this, at0_append_left hi]
theorem spl_at0_out {ws zs : List Nat} {off j : Nat} (h : off + zs.length ≤ ws.length) (hj : j < off ∨ off + zs.length ≤ j) : at0 (spl ws off zs) j = at0 ws j := by
  have h1 : (ws.take off).length = off := by simp; omega
  rcases hj with hj | hj
  · rw [spl, at0_append_left (by omega), at0_take hj]
  · obtain ⟨d, rfl⟩ : ∃ d, j = off + (zs.length + d) := ⟨j - off - zs.length, by omega⟩
    have h2 := at0_append_right (xs := ws.take off) (ys := zs ++ ws.drop (off + zs.length)) (zs.length + d)
    rw [h1] at h2
    rw [spl, h2, at0_append_right, at0_drop, Nat.add_assoc]
theorem Bd.spl {ws zs : List Nat} {off : Nat} (h : Bd ws) (hz : Bd zs) : Bd (spl ws off zs) := (h.take off).append (hz.append (h.drop _))
theorem sg_spl {cur : Array Value} {ws zs : List Nat} {off : Nat} (h : Sg cur 0 ws) (hl : off + zs.length ≤ ws.length) : Sg (putL cur off zs) 0 (spl ws off zs) := by
  have h1 := h.1
  refine ⟨by rw [putL_size (by omega), spl_length hl]; exact h1, fun i hi => ?_⟩
  rw [spl_length hl] at hi
  rw [Nat.zero_add]
  by_cases hj : i < off ∨ off + zs.length ≤ i
  · rw [putL_out (by omega) hj, spl_at0_out hl hj]
    have := h.2 i hi
    rwa [Nat.zero_add] at this
  · obtain ⟨d, rfl⟩ : ∃ d, i = off + d := ⟨i - off, by omega⟩
    rw [putL_in (by omega) (by omega), spl_at0_in (by omega) (by omega)]
theorem sg_piece {cur : Array Value} {ws : List Nat} {off n : Nat} (h : Sg cur 0 ws) (hl : off + n ≤ ws.length) : Sg cur off ((ws.drop off).take n) := by
  have h1 := h.1
  have hlen : ((ws.drop off).take n).length = n := by simp; omega
  refine ⟨by omega, fun i hi => ?_⟩
  rw [at0_take (by omega), at0_drop]
  have := h.2 (off + i) (by omega)
  rwa [Nat.zero_add] at this
theorem val_spl {ws zs : List Nat} {off : Nat} (hl : off + zs.length ≤ ws.length) : val (spl ws off zs) + 18446744073709551616 ^ off * val ((ws.drop off).take zs.length) = val ws + 18446744073709551616 ^ off * val zs := by
  have h1 := val_take_drop ws off (by omega)
  have h2 := val_take_drop (ws.drop off) zs.length (by simp; omega)
  rw [List.drop_drop] at h2
  rw [spl, val_append, val_append, List.length_take, Nat.min_eq_left (by omega), h1, h2]
  simp only [Nat.mul_add]
  omega
/-- A row's block, written over. -/
theorem own64.over {w' : World} {B g c off : Nat} {cur : Array Value} {ws zs : List Nat} (hB : B ≤ g) (hc : c ≤ maxLen) (hn : ws.length ≤ c) (hs : cur.size = c) (hz : Sg cur 0 ws) (hl : off + zs.length ≤ ws.length) (hb : Blk w' g (putL cur off zs)) :
    own64 w' B (.slice (some ⟨g, 0, none⟩) ws.length c) (spl ws off zs) := by
  have := own64_of_blk (B := B) (c := c) (zs := spl ws off zs) hb hB (by rw [spl_length hl]; exact hn) hc (by rw [putL_size (by have := hz.1; omega)]; exact hs) (sg_spl hz hl)
  rw [spl_length hl] at this
  exact this

theorem row_step {ws zs xs ys : List Nat} {i lb x cy : Nat} (hi : i < xs.length) (hx : at0 xs i = x) (hw : ws.length = xs.length + lb) (hz : zs.length = lb) (hv : val ws = val (xs.take i) * val ys)
    (h0 : ∀ j, i + lb ≤ j → at0 ws j = 0) (h : val zs + 18446744073709551616 ^ lb * cy = val ((ws.drop i).take lb) + x * val ys) :
    val ((spl ws i zs).set (i + lb) cy) = val (xs.take (i + 1)) * val ys ∧ ∀ j, i + 1 + lb ≤ j → at0 ((spl ws i zs).set (i + lb) cy) j = 0 := by
  subst hz
  have hl : i + zs.length ≤ ws.length := by omega
  have h1 := val_spl hl
  have h2 := set_val (ws := spl ws i zs) (q := i + zs.length) (y := cy) (by rw [spl_length hl]; omega)
  have h3 : at0 (spl ws i zs) (i + zs.length) = 0 := by rw [spl_at0_out hl (.inr (Nat.le_refl _))]; exact h0 _ (Nat.le_refl _)
  constructor
  · rw [h3, Nat.mul_zero, Nat.add_zero] at h2
    rw [h2, take_val_snoc hi, hx, Nat.add_mul, ← hv, Nat.pow_add]
    have h4 : 18446744073709551616 ^ i * (val zs + 18446744073709551616 ^ zs.length * cy) = 18446744073709551616 ^ i * (val ((ws.drop i).take zs.length) + x * val ys) := by rw [h]
    rw [Nat.mul_add, Nat.mul_add, ← Nat.mul_assoc, ← Nat.mul_assoc] at h4
    omega
  · intro j hj
    have e : at0 ((spl ws i zs).set (i + zs.length) cy) j = at0 (spl ws i zs) j := by
      unfold at0 List.getD
      rw [List.getElem?_set_ne (by omega)]
    rw [e, spl_at0_out hl (.inr (by omega))]
    exact h0 j (by omega)

set_option maxHeartbeats 1000000 in
set_option maxRecDepth 100000 in
theorem byRows_any (a b : Option Addr) (la lb ca cb : Nat) (xs ys : List Nat) (w : World) (hla : xs.length = la) (hlb : ys.length = lb) (hba : la ≤ 1048576) (hbb : lb ≤ 1048576) (hra : Rd .u64 w a xs) (hrb : Rd .u64 w b ys) (bx : Bd xs) (bY : Bd ys)
    (hold : ∀ p, b = some p → p.block < w.heap.size) :
    Calls Tryz.prog 219 #[.slice a la ca, .slice b lb cb] w fun e w' => ∃ v ws, e = .returned v ∧ own64 w' w.heap.size v ws ∧ ws.length = la + lb ∧ Bd ws ∧ val ws = val xs * val ys ∧ Below w.heap.size w w' := by
  obtain ⟨n, hn⟩ : ∃ n, n = la + lb := ⟨_, rfl⟩
  have rn : (la : Int) + (lb : Int) = (n : Int) := by omega
  go_enter Tryz.func219, Tryz.ntmps219
  have HN := Lib.hid hn
  have hn2 : n ≤ 2097152 := by omega
  clear hn
  go_wp2_with (at_make; refine wpl_make64 rfl _ _ rfl w.heap.size _ _ _ _ n rfl rfl rfl rfl (by omega) (Nat.le_refl _) ?_)
  intro w1 hown hbl hsz
  have HO := Lib.hid hown
  clear hown
  go_wp2
  go_loopw [16] (fun iv wr => ∃ (i : Nat) (ws : List Nat), i ≤ la ∧ iv = .int .i64 i ∧ Hid (own64 wr w.heap.size (.slice (some ⟨w.heap.size, 0, none⟩) n n) ws) ∧ Hid (Bd ws) ∧ Hid (val ws = val (xs.take i) * val ys) ∧ Hid (∀ j, i + lb ≤ j → at0 ws j = 0) ∧ Below w.heap.size w wr) (fun iv _ => la - (intOf iv).toNat)
  case atStart =>
    refine ⟨0, _, Nat.zero_le _, rfl, HO, fun x hx => by rw [List.eq_of_mem_replicate hx]; decide, by show _ = _; rw [val_replicate]; simp [val], fun j _ => ?_, hbl⟩
    unfold at0 List.getD
    by_cases hj : j < n
    · simp [hj]
    · simp [hj]
  case round =>
    clear HO hbl
    obtain ⟨i, ws, hi, rfl, HO, HB, HV, HZ, hbl⟩ := hrel
    have HL : Hid (n = ws.length) := (own64.rd HO.out).1
    have hn3 : n = la + lb := HN.out
    by_cases hlt : i < la
    · obtain ⟨ba, oa, rfl⟩ := hra.isAt (by omega)
      have hc1 := below_cell hbl _ _ (hra.cell (i := i) (by omega))
      have hx64 := bx.at0 i
      obtain ⟨x, hx0⟩ : ∃ x, at0 xs i = x := ⟨_, rfl⟩
      rw [hx0] at hc1 hx64
      have HX := Lib.hid hx0
      clear hx0
      obtain ⟨G, cur, hg, -, hBg, hblk, -, hcm, hcs, hsg⟩ := own64.blk HO.out
      cases hg
      have hsegl : ((ws.drop i).take lb).length = lb := by have := HL.out; simp; omega
      have HSEG := Lib.hid hsegl
      have HSG := Lib.hid hsg
      have HBK := Lib.hid hblk
      have HCS := Lib.hid hcs
      have hrb2 : Rd .u64 wr b ys := hrb.below hbl
      have hil : i + lb < n := by omega
      have hin : i < n := by omega
      clear hsg hblk hcs hsegl hn3
      go_wp2_with fail
      refine (raiseTimes_any w.heap.size i lb (n - i) cur ((ws.drop i).take lb) b cb ys x _ HBK.out (sg_piece HSG.out (by have := HL.out; omega)) HSEG.out (by omega) ((HB.out.drop _).take _) hrb2 hlb bY hx64 (fun p hp => by have := hold p hp; omega)).mono ?_
      rintro e w2 ⟨cy, zs, rfl, hzl, hzb, hcy, hval, hbk2, hC2⟩
      have ho2 := own64.over (ws := ws) (zs := zs) (off := i) (B := w.heap.size) (c := n) (Nat.le_refl _) hcm (by have := HL.out; omega) HCS.out HSG.out (by have := HL.out; omega) hbk2
      rw [← HL.out] at ho2
      have hst := row_step (i := i) (x := x) (ws := ws) (zs := zs) (xs := xs) (ys := ys) (lb := lb) (cy := cy) (by omega) HX.out (by rw [← HL.out, HN.out, hla]) hzl HV.out HZ.out hval
      have hsl : i + lb < (spl ws i zs).length := by rw [spl_length (by have := HL.out; omega), ← HL.out]; exact hil
      have hc2 := own64.cell ho2 (j := i + lb) hsl
      have hf2 := own64.free ho2 (i + lb)
      have hos := own64.set ho2 (i + lb) cy
      have HOS := Lib.hid hos
      have HST := Lib.hid hst
      have HBS : Hid (Bd ((spl ws i zs).set (i + lb) cy)) := (HB.out.spl hzb).set hcy
      have hbl2 : Below w.heap.size w w2 := hbl.trans (hC2.below (Nat.le_of_lt HBK.out.lt) (fun k hk => by omega))
      clear ho2 hst hsl hos hval hbk2 hC2 hzb hzl
      generalize at0 (spl ws i zs) (i + lb) = u at hc2
      go_wp2
      go_roundw
      case rel =>
        exact ⟨i + 1, _, by omega, by go_num, HOS.out, HBS.out, HST.out.1, HST.out.2, hbl2.setCell (p := ⟨w.heap.size, i + lb, none⟩) (Nat.le_refl _) _⟩
      case measure => simp [intOf]; omega
    · obtain rfl : la = i := by omega
      go_wp2
      go_ret
      refine ⟨_, ws, rfl, HO.out, by rw [← HL.out]; exact hn3, HB.out, ?_, hbl⟩
      have := HV.out
      rw [← hla, List.take_length] at this
      exact this

/-- What a call answers that tells a number, or that it does not fit. -/
def NumPost (fits : Prop) (n : Nat) (w : World) (e : Ending) (w' : World) : Prop :=
  Below w.heap.size w w' ∧
  ((¬ (fits ∧ n < 18446744073709551616 ^ 128) ∧ e = .returned (.tuple #[.slice none 0 0, .int .i64 3])) ∨
   (fits ∧ n < 18446744073709551616 ^ 128 ∧ ∃ v zs, e = .returned (.tuple #[v, .int .i64 0]) ∧ own64 w' w.heap.size v zs ∧ Num zs n))
theorem old_of_rd {k : IntKind} {w : World} {b : Option Addr} {ys : List Nat} (h : Rd k w b ys) (h0 : 0 < ys.length) : ∀ p, b = some p → p.block < w.heap.size := by
  intro p hp
  obtain ⟨bb, ob, rfl⟩ := h.isAt h0
  cases hp
  exact World.block_lt_of_cell? w _ (h.cell (i := 0) h0)
theorem FormOf.old {k : IntKind} {w : World} {a a' : Option Addr} {cap n c' : Nat} {xs : List Nat} (h : FormOf a cap n a' c') (hr : Rd k w a xs) (hn : n ≤ xs.length) : ∀ p, a' = some p → p.block < w.heap.size := by
  rcases Nat.eq_zero_or_pos n with rfl | hp
  · intro p hp; rw [(h.2 rfl).1] at hp; cases hp
  · rw [(h.1 hp).1]; exact old_of_rd hr (by omega)
set_option exponentiation.threshold 10000 in
theorem bits_big {m n k1 k2 : Nat} (h1 : BitsIs m k1) (h2 : BitsIs n k2) (h : 8193 < k1 + k2) (hk1 : k1 ≤ 8192) (hk2 : k2 ≤ 8192) : 18446744073709551616 ^ 128 ≤ m * n := by
  rcases h1 with ⟨_, rfl⟩ | ⟨p1, l1, _⟩
  · omega
  rcases h2 with ⟨_, rfl⟩ | ⟨p2, l2, _⟩
  · omega
  have h3 := Nat.mul_le_mul l1 l2
  rw [← Nat.pow_add] at h3
  have h4 : 2 ^ 8192 ≤ 2 ^ (k1 - 1 + (k2 - 1)) := Nat.pow_le_pow_right (by decide) (by omega)
  rw [pow_64]
  exact Nat.le_trans h4 h3

set_option exponentiation.threshold 10000 in
set_option maxHeartbeats 1000000 in
set_option maxRecDepth 100000 in
theorem mul_small (a b : Option Addr) (la lb ca cb : Nat) (xs ys : List Nat) (w : World) (hla : xs.length = la) (hlb : ys.length = lb) (hba : la ≤ 1048576) (hbb : lb ≤ 1048576) (hca : la ≤ ca) (hcb : lb ≤ cb)
    (hra : Rd .u64 w a xs) (hrb : Rd .u64 w b ys) (bx : Bd xs) (bY : Bd ys) (hmin : fl xs < 32 ∨ fl ys < 32) :
    Calls Tryz.prog 195 #[.slice a la ca, .slice b lb cb] w (NumPost (fl xs ≤ 128 ∧ fl ys ≤ 128) (val xs * val ys) w) := by
  have hfa := (fl_spec xs).1
  have hfb := (fl_spec ys).1
  go_enter Tryz.func195, Tryz.ntmps195
  go_wp2_with fail
  refine (both_any a b la lb ca cb xs ys _ hla hlb (by omega) (by omega) hca hcb hra hrb).mono ?_
  rintro e w1 ⟨hor, rfl⟩
  rcases hor with ⟨h1, h2, a', c', b', d', rfl, fa, fb⟩ | ⟨h1, rfl⟩
  · have hra' := fa.rd hra hfa
    have hrb' := fb.rd hrb hfb
    have hca' := (fa.cap hca (by omega)).1
    have hcb' := (fb.cap hcb (by omega)).1
    have hold := fb.old hrb hfb
    have HFA := Lib.hid fa
    have HFB := Lib.hid fb
    have HOLD := Lib.hid hold
    clear fa fb hold hra hrb
    have e1 : Hid ((xs.take (fl xs)).length = fl xs) := fm_length xs
    have e2 : Hid ((ys.take (fl ys)).length = fl ys) := fm_length ys
    have V1 : Hid (val (xs.take (fl xs)) = val xs) := fm_val xs
    have V2 : Hid (val (ys.take (fl ys)) = val ys) := fm_val ys
    have F1 : Hid (fl (xs.take (fl xs)) = fl xs) := by show fl (fm xs) = fl xs; rw [fl_of_cn (fm_cn xs), fm_length]
    have F2 : Hid (fl (ys.take (fl ys)) = fl ys) := by show fl (fm ys) = fl ys; rw [fl_of_cn (fm_cn ys), fm_length]
    go_wp2_with fail
    refine (bits_any a' (fl xs) c' (xs.take (fl xs)) _ e1.out (by omega) hca' hra' (bx.take _)).mono ?_
    rintro e w1 ⟨⟨k1, rfl, hk1, hk1b⟩, rfl⟩
    rw [V1.out] at hk1
    rw [F1.out] at hk1b
    have HK1 := Lib.hid hk1
    clear hk1
    go_wp2_with fail
    refine (bits_any b' (fl ys) d' (ys.take (fl ys)) _ e2.out (by omega) hcb' hrb' (bY.take _)).mono ?_
    rintro e w1 ⟨⟨k2, rfl, hk2, hk2b⟩, rfl⟩
    rw [V2.out] at hk2
    rw [F2.out] at hk2b
    have HK2 := Lib.hid hk2
    clear hk2
    by_cases hbig : 8193 < k1 + k2
    · have hq : decide ((8193 : Int) < (k1 : Int) + (k2 : Int)) = true := by simp; omega
      have hge : Hid (18446744073709551616 ^ 128 ≤ val xs * val ys) := bits_big HK1.out HK2.out hbig (by omega) (by omega)
      go_wp2
      go_ret2
      exact ⟨Below.refl _ _, .inl ⟨fun h => by have := hge.out; omega, rfl⟩⟩
    · have hq : decide ((8193 : Int) < (k1 : Int) + (k2 : Int)) = false := by simp; omega
      have hq2 : decide (min (fl xs : Int) (fl ys : Int) < 32) = true := by simp; omega
      go_wp2_with fail
      refine (byRows_any a' b' (fl xs) (fl ys) c' d' (xs.take (fl xs)) (ys.take (fl ys)) _ e1.out e2.out (by omega) (by omega) hra' hrb' (bx.take _) (bY.take _) HOLD.out).mono ?_
      rintro e w1 ⟨v, ws, rfl, hown, hlen, hbw, hval, hbl⟩
      rw [V1.out, V2.out] at hval
      obtain ⟨av, cv, rfl, hrv⟩ := own64.form hown
      have hroom := own64.room hown
      have HL := Lib.hid hlen
      have hl2 : ws.length ≤ 256 := by omega
      have HO := Lib.hid hown
      have HV := Lib.hid hval
      have HBW := Lib.hid hbw
      clear hlen hown hval hbw
      go_wp2_with fail
      refine (one_any av ws.length cv ws _ rfl (by omega) hroom.1 hrv).mono ?_
      rintro e w2 ⟨hor, rfl⟩
      have hnum := num_fm HBW.out
      rw [HV.out] at hnum
      rcases hor with ⟨h3, av', cv', rfl, g1, g2⟩ | ⟨h3, rfl⟩
      · have G1 := Lib.hid g1
        have G2 := Lib.hid g2
        have HNU := Lib.hid hnum
        clear g1 g2 hnum
        go_wp2
        go_ret2
        refine ⟨hbl, .inr ⟨⟨h1, h2⟩, ?_, _, fm ws, rfl, own64_take HO.out (fl_spec ws).1 G1.out G2.out, HNU.out⟩⟩
        rw [← HNU.out.len_le, fm_length]; exact h3
      · have HNU := Lib.hid hnum
        clear hnum
        go_wp2
        go_ret2
        refine ⟨hbl, .inl ⟨fun h => ?_, rfl⟩⟩
        have := HNU.out.len_le.2 h.2
        rw [fm_length] at this
        omega
  · go_wp2
    go_ret2
    exact ⟨Below.refl _ _, .inl ⟨fun h => by omega, rfl⟩⟩

def DividePost (xs ys : List Nat) (w : World) (e : Ending) (w' : World) : Prop :=
  ∃ q r qs rs, e = .returned (.tuple #[q, r]) ∧ own64 w' w.heap.size q qs ∧ own64 w' w.heap.size r rs ∧ Bd qs ∧ Bd rs ∧ val xs = val ys * val qs + val rs ∧ val rs < val ys ∧
    (∀ k, q.ownBlock = some k → r.ownBlock ≠ some k) ∧ Below w.heap.size w w' ∧ qs.length ≤ xs.length + 1 ∧ rs.length ≤ xs.length + ys.length + 1
def DivideFor (xs ys : List Nat) : Prop :=
  ∀ (a b : Option Addr) (ca cb : Nat) (w : World), Rd .u64 w a xs → Rd .u64 w b ys → xs.length ≤ ca → ys.length ≤ cb → (a = none → ca = 0) →
    Calls Tryz.prog 197 #[.slice a xs.length ca, .slice b ys.length cb] w (DividePost xs ys w)

theorem cmpI_neg {a b : Nat} : (cmpI a b < 0) ↔ a < b := by
  unfold cmpI
  by_cases h : a < b
  · simp [h]
  · rw [if_neg h]
    by_cases e : a = b
    · simp [e]
    · simp [e, h]

set_option maxHeartbeats 1000000 in
set_option maxRecDepth 100000 in
theorem divide_one {xs ys : List Nat} (bx : Bd xs) (bY : Bd ys) (hl : ys.length = 1) (hp : 0 < val ys) (hbx : xs.length ≤ 1048576) : DivideFor xs ys := by
  intro a b ca cb w hra hrb hca hcb hnone
  have HNO := Lib.hid hnone
  clear hnone
  obtain ⟨n, hn⟩ : ∃ n, n = xs.length := ⟨_, rfl⟩
  rw [← hn] at hbx hca ⊢
  rw [hl] at hcb ⊢
  have HNL := Lib.hid hn
  have HYL := Lib.hid hl
  go_enter Tryz.func197, Tryz.ntmps197
  clear hn hl
  go_wp2_with fail
  refine (cmp_any a b n 1 ca cb xs ys _ HNL.out.symm HYL.out (by omega) (by omega) hca hcb hra hrb bx bY).mono ?_
  rintro e w1 ⟨rfl, nd, rfl⟩
  have hra1 : Rd .u64 (w.drewN nd) a xs := hra
  have hrb1 : Rd .u64 (w.drewN nd) b ys := hrb
  by_cases hlt : val xs < val ys
  · have hc := Lib.hid (cmpI_of_lt hlt)
    rw [hc.out]
    have HLT := Lib.hid hlt
    clear hlt
    go_wp2_with fail
    refine (copied_any a n ca xs _ HNL.out.symm (by omega) (fun _ h => HNO.out h) hra1).mono ?_
    rintro e w2 ⟨v, rfl, hown, hbl, _⟩
    have HO := Lib.hid hown
    have HB : Hid (Below w.heap.size w w2) := (Chg.below (Chg.drewM (Chg.refl (fun _ => False) w) nd) (Nat.le_refl _) (fun _ h => h.elim)).trans hbl
    clear hown hbl
    go_wp2
    go_ret2
    exact ⟨_, _, [], xs, rfl, own64_nil _ _, HO.out, Bd.nil, bx, by simp [val], HLT.out, (fun k hk => by cases hk), HB.out, by simp, by omega⟩
  · have hge : ¬ cmpI (val xs) (val ys) < 0 := fun h => hlt (cmpI_neg.1 h)
    have HGE : Hid (val ys ≤ val xs) := by show _ ≤ _; omega
    have hx0 : 0 < n := by
      rw [HNL.out]
      refine Nat.pos_of_ne_zero fun h0 => ?_
      have : xs = [] := List.eq_nil_of_length_eq_zero h0
      rw [this] at hlt
      simp [val] at hlt
      omega
    generalize cmpI (val xs) (val ys) = cc at hge
    have hq : decide (cc < 0) = false := by simp; omega
    clear hlt hge
    go_wp2_with fail
    refine (copied_any a n ca xs _ HNL.out.symm (by omega) (fun _ h => HNO.out h) hra1).mono ?_
    rintro e w2 ⟨v, rfl, hown, hbl, _⟩
    obtain ⟨g, cv, rfl, hBg, hgl⟩ := own64.isAt hown (by rw [← HNL.out]; exact hx0)
    obtain ⟨G, cur, hg, -, -, hblk, hnc, hcm, hcs, hsg⟩ := own64.blk hown
    cases hg
    obtain ⟨bb, ob, rfl⟩ := hrb.isAt (by rw [HYL.out]; decide)
    have hc1 := below_cell hbl _ _ (hrb1.cell (i := 0) (by rw [HYL.out]; decide))
    rw [Nat.add_zero] at hc1
    have hd64 := bY.at0 0
    have HD : Hid (val ys = at0 ys 0) := by
      have h1 := val_at ys 0 (by rw [HYL.out]; decide)
      rw [List.drop_of_length_le (by rw [HYL.out]; decide)] at h1
      simp [val] at h1
      exact h1
    generalize at0 ys 0 = d at *
    have hd0 : 0 < d := by rw [← HD.out]; exact hp
    have HBL : Hid (Below w.heap.size w w2) := (Chg.below (Chg.drewM (Chg.refl (fun _ => False) w) nd) (Nat.le_refl _) (fun _ h => h.elim)).trans hbl
    have HBK := Lib.hid hblk
    have HSG := Lib.hid hsg
    have HCS := Lib.hid hcs
    have hlx : Hid (xs.length = n) := HNL.out.symm
    have hBg2 : w.heap.size ≤ g := hBg
    rw [hlx.out] at hnc ⊢
    clear hblk hsg hcs hown hbl hra hrb hra1 hrb1 hBg
    go_wp2_with fail
    refine (divideShort_any g 0 n cv cur xs d _ HBK.out HSG.out hlx.out (by omega) bx hd0 hd64).mono ?_
    rintro e w3 ⟨r, qs, rfl, hql, hqb, hrd, hval, hbk3, hC3⟩
    have hown3 := own64_of_blk (B := w.heap.size) (zs := qs) (c := cv) hbk3 hBg2 (by omega) hcm (by rw [putL_size (by have := HSG.out.1; have := hlx.out; omega)]; exact HCS.out) (putL_sg (by have := HSG.out.1; have := hlx.out; omega))
    rw [hql] at hown3
    have HO3 := Lib.hid hown3
    have HB3 : Hid (Below w.heap.size w w3) := HBL.out.trans (hC3.below (by have := HBL.out.size; omega) (fun k hk => by omega))
    have hsz3 := HB3.out.size
    have HV := Lib.hid hval
    have HQL := Lib.hid hql
    have HQB := Lib.hid hqb
    have hg3 : g < w3.heap.size := hbk3.lt
    clear hown3 hval hql hqb hbk3 hC3
    go_wp2
    go_ret2
    refine ⟨_, _, qs, [r], rfl, HO3.out.alloc _, ?_, HQB.out, Bd.nil.cons (by omega), by simp only [val, Nat.mul_zero, Nat.add_zero]; rw [HD.out]; exact HV.out, by simp only [val, Nat.mul_zero, Nat.add_zero]; rw [HD.out]; exact hrd, ?_, HB3.out.alloc (by omega) _, by have := HQL.out; have := hlx.out; omega, by have := HYL.out; simp⟩
    · have := World.ownsRow_lit (base := w.heap.size) (size := 1) (e := 47) w3 #[.int .u64 (r : Nat)] 1 hsz3 (by decide) rfl
      exact this
    · intro k hk
      simp [Value.ownBlock] at hk ⊢
      omega

/-- What Div answers. -/
def QuoPost (xs ys : List Nat) (w : World) (e : Ending) (w' : World) : Prop :=
  Below w.heap.size w w' ∧
  (((128 < fl xs ∨ 128 < fl ys) ∧ e = .returned (.tuple #[.slice none 0 0, .slice none 0 0, .int .i64 3])) ∨
   (fl xs ≤ 128 ∧ fl ys ≤ 128 ∧ val ys = 0 ∧ e = .returned (.tuple #[.slice none 0 0, .slice none 0 0, .int .i64 11])) ∨
   (fl xs ≤ 128 ∧ fl ys ≤ 128 ∧ 0 < val ys ∧ ∃ q r qs rs, e = .returned (.tuple #[q, r, .int .i64 0]) ∧ own64 w' w.heap.size q qs ∧ own64 w' w.heap.size r rs ∧
      Num qs (val xs / val ys) ∧ Num rs (val xs % val ys) ∧ (∀ k, q.ownBlock = some k → r.ownBlock ≠ some k)))

theorem own_form {a : Option Addr} {n c : Nat} {a' : Option Addr} {c' n' k : Nat} (h : Value.ownBlock (.slice a' n' c') = some k) (g1 : 0 < n' → a' = a ∧ c' = c) (g2 : n' = 0 → a' = none ∧ c' = 0) : Value.ownBlock (.slice a n c) = some k := by
  rcases Nat.eq_zero_or_pos n' with rfl | hp
  · obtain ⟨rfl, rfl⟩ := g2 rfl
    simp [Value.ownBlock] at h
  · obtain ⟨rfl, rfl⟩ := g1 hp
    cases a' with
    | none => exact h
    | some p => exact h
set_option maxHeartbeats 1000000 in
set_option maxRecDepth 100000 in
theorem quo_any (a b : Option Addr) (la lb ca cb : Nat) (xs ys : List Nat) (w : World) (hla : xs.length = la) (hlb : ys.length = lb) (hba : la ≤ 1048576) (hbb : lb ≤ 1048576) (hca : la ≤ ca) (hcb : lb ≤ cb) (hna : a = none → ca = 0)
    (hra : Rd .u64 w a xs) (hrb : Rd .u64 w b ys) (bY : Bd ys) (hd : 0 < val ys → DivideFor (fm xs) (fm ys)) :
    Calls Tryz.prog 165 #[.slice a la ca, .slice b lb cb] w (QuoPost xs ys w) := by
  have hfa := (fl_spec xs).1
  have hfb := (fl_spec ys).1
  go_enter Tryz.func165, Tryz.ntmps165
  go_wp2_with fail
  refine (both_any a b la lb ca cb xs ys _ hla hlb (by omega) (by omega) hca hcb hra hrb).mono ?_
  rintro e w1 ⟨hor, rfl⟩
  rcases hor with ⟨h1, h2, a', c', b', d', rfl, fa, fb⟩ | ⟨h1, rfl⟩
  · have hra' := fa.rd hra hfa
    have hrb' := fb.rd hrb hfb
    have hca' := (fa.cap hca (by omega)).1
    have hna' : Hid (a' = none → c' = 0) := fun h => ((fa.cap hca (by omega)).2 h).elim id (fun h2 => by
      rcases Nat.eq_zero_or_pos (fl xs) with h0 | hp
      · exact (fa.2 h0).2
      · rw [(fa.1 hp).2]; exact hna h2)
    have hcb' := (fb.cap hcb (by omega)).1
    have V1 : Hid (val (xs.take (fl xs)) = val xs) := fm_val xs
    have V2 : Hid (val (ys.take (fl ys)) = val ys) := fm_val ys
    have e1 : Hid ((xs.take (fl xs)).length = fl xs) := fm_length xs
    have e2 : Hid ((ys.take (fl ys)).length = fl ys) := fm_length ys
    clear fa fb hra hrb hna
    by_cases h0 : fl ys = 0
    · have hq : ((fl ys : Int) == 0) = true := by simp; omega
      have H0 : Hid (val ys = 0) := by show _ = _; rw [← V2.out, h0]; rfl
      clear h0
      go_wp2
      go_ret3
      exact ⟨Below.refl _ _, .inr (.inl ⟨h1, h2, H0.out, rfl⟩)⟩
    · have hq : ((fl ys : Int) == 0) = false := by simp; omega
      have HP : Hid (0 < val ys) := by
        show _ < _
        refine Nat.pos_of_ne_zero fun hz => h0 ?_
        have := num_fm bY
        rw [hz] at this
        have h3 := Num.unique this Num.nil
        rw [← fm_length, h3]; rfl
      have HD := Lib.hid (hd HP.out a' b' c' d')
      clear hd
      go_wp2_with fail
      have hD := HD.out _ hra' hrb' (by rw [show (fm xs).length = fl xs from e1.out]; exact hca') (by rw [show (fm ys).length = fl ys from e2.out]; exact hcb') hna'.out
      rw [show (fm xs).length = fl xs from e1.out, show (fm ys).length = fl ys from e2.out] at hD
      refine hD.mono ?_
      rintro e w1 ⟨q, r, qs, rs, rfl, oq, or, bq, br, hval, hlt, hdis, hbl, hlq, hlr⟩
      rw [show val (fm xs) = val xs from V1.out, show val (fm ys) = val ys from V2.out] at hval
      rw [show val (fm ys) = val ys from V2.out] at hlt
      rw [show (fm xs).length = fl xs from e1.out] at hlq hlr
      rw [show (fm ys).length = fl ys from e2.out] at hlr
      obtain ⟨aq, cq, rfl, hrq⟩ := own64.form oq
      obtain ⟨ar, cr, rfl, hrr⟩ := own64.form or
      have hroomq := (own64.room oq).1
      have hroomr := (own64.room or).1
      have OQ := Lib.hid oq
      have OR := Lib.hid or
      have HV := Lib.hid hval
      have HLT := Lib.hid hlt
      have DIS := Lib.hid hdis
      have BQ := Lib.hid bq
      have BR := Lib.hid br
      clear oq or hval hlt hdis bq br
      go_wp2_with fail
      refine (form_any aq qs.length cq qs _ rfl (by omega) hroomq hrq).mono ?_
      rintro e w2 ⟨⟨aq', cq', rfl, g1, g2⟩, rfl⟩
      have G1 := Lib.hid g1
      have G2 := Lib.hid g2
      clear g1 g2
      go_wp2_with fail
      refine (form_any ar rs.length cr rs _ rfl (by omega) hroomr hrr).mono ?_
      rintro e w2 ⟨⟨ar', cr', rfl, k1, k2⟩, rfl⟩
      have K1 := Lib.hid k1
      have K2 := Lib.hid k2
      clear k1 k2
      go_wp2
      go_ret3
      have hnq := num_fm BQ.out
      have hnr := num_fm BR.out
      obtain ⟨hdv, hmd⟩ : val qs = val xs / val ys ∧ val rs = val xs % val ys := by
        have h1 := HV.out
        have h2 := HLT.out
        rw [h1]
        constructor
        · rw [Nat.mul_add_div HP.out, Nat.div_eq_of_lt h2, Nat.add_zero]
        · rw [Nat.mul_add_mod, Nat.mod_eq_of_lt h2]
      rw [hdv] at hnq
      rw [hmd] at hnr
      refine ⟨hbl, .inr (.inr ⟨h1, h2, HP.out, _, _, fm qs, fm rs, rfl, own64_take OQ.out (fl_spec qs).1 G1.out G2.out, own64_take OR.out (fl_spec rs).1 K1.out K2.out, hnq, hnr, ?_⟩)⟩
      intro k h3 h4
      exact DIS.out k (own_form h3 G1.out G2.out) (own_form h4 K1.out K2.out)
  · go_wp2
    go_ret3
    exact ⟨Below.refl _ _, .inl ⟨by omega, rfl⟩⟩

abbrev own8 (w : World) (B : Nat) (v : Value) (zs : List Nat) : Prop := w.ownsRow B 5 1 v zs.length (u8s zs)
theorem u8s_at (xs : List Nat) (i : Nat) (h : i < xs.length) : (u8s xs)[i]? = some (.int .u8 (at0 xs i : Nat)) := by simp [u8s, h, at0_getElem]
theorem u8s_setL (xs : List Nat) (i x : Nat) : (u8s xs).set i (.int .u8 (x : Nat)) = u8s (xs.set i x) := by simp [u8s, List.map_set]
theorem own8.set {w : World} {B g n c : Nat} {zs : List Nat} (h : w.ownsRow B 5 1 (.slice (some ⟨g, 0, none⟩) n c) n (u8s zs)) (j x : Nat) : (w.setCell ⟨g, j, none⟩ (.int .u8 (x : Nat))).ownsRow B 5 1 (.slice (some ⟨g, 0, none⟩) n c) n (u8s (zs.set j x)) := by
  rw [← u8s_setL]
  exact (World.ownsRow.stored h j _).1
theorem at0_set {xs : List Nat} {i j x : Nat} (h : i < xs.length) : at0 (xs.set i x) j = if i = j then x else at0 xs j := by
  unfold at0
  simp only [List.getD, List.getElem?_set]
  by_cases e : i = j
  · subst e; simp [h]
  · simp [e]

theorem cmpI_of_le {a b : Nat} (h : b ≤ a) : 0 ≤ cmpI a b ∧ cmpI a b ≠ -1 := by unfold cmpI; split <;> (try split) <;> constructor <;> first | omega | decide
theorem Rd.alloc {k : IntKind} {w : World} {a : Option Addr} {xs : List Nat} (h : Rd k w a xs) (o : Obj) : Rd k (w.alloc o) a xs := h.below ((Below.refl _ _).alloc (Nat.le_refl _) _)
theorem Below.drewM {B : Nat} {a w : World} (h : Below B a w) (n : Nat) : Below B a (w.drewN n) := ⟨h.os, h.tape, h.output, h.size, h.block⟩
theorem Rd.drewM {k : IntKind} {w : World} {a : Option Addr} {xs : List Nat} (h : Rd k w a xs) (n : Nat) : Rd k (w.drewN n) a xs := h
end Go.Proofs.YtaookoejdnkkoaaGreatDoor
