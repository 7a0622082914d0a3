import Derived.Test.YtaookoejdnkkoaaGreatDoorQGB
import Derived.Laws.CopyOwn
import Derived.Shelf.RegionOpenPlain
import Derived.Deep.RegionHeld3
namespace Go.Proofs.YtaookoejdnkkoaaGreatDoor
open Go.RowKit

def RTail (l : List Nat) (v : Value) : Prop := ∃ j : Nat, j ≤ l.length ∧ v = .int .i64 (j : Nat) ∧ bval (l.drop j) = bval l ∧ (at0 (l.drop j) 0 ≠ 0 ∨ l.drop j = [])

set_option exponentiation.threshold 10000 in
set_option maxHeartbeats 2000000 in
set_option maxRecDepth 100000 in
theorem rfrom_any (a : Option Addr) (len cap : Nat) (l : List Nat) (w : World) (hl : l.length = len) (hbig : len ≤ 1099511627776) (h8 : B8 l) (hr : Rd .u8 w a l) :
    Calls Tryz.prog 76 #[.slice a len cap] w (FromPost l w) := by
  have HR0 := Lib.hid hr
  clear hr
  go_enter Tryz.func76, Tryz.ntmps76
  go_upto_block 0 with (fail)
  go_cut [4] (fun v wx => Hid (RTail l v) ∧ w = wx)
  case first =>
    go_wp2
    go_loop [4] (fun v => ∃ j : Nat, j ≤ len ∧ v = .int .i64 (j : Nat) ∧ Hid (∀ i, i < j → at0 l i = 0)) (fun v => len - (intOf v).toNat)
    case atStart => exact ⟨0, Nat.zero_le _, rfl, fun i hi => by omega⟩
    case round =>
      obtain ⟨j, hj, rfl, hz⟩ := hrel
      by_cases hlt : j < len
      · obtain ⟨b, off, rfl⟩ := HR0.out.isAt (by omega)
        have hc1 := HR0.out.cell (i := j) (by omega)
        have HD : Hid (at0 (l.drop j) 0 = at0 l j) := by show _ = _; rw [at0_drop, Nat.add_zero]
        obtain ⟨x, hx0⟩ : ∃ x, at0 l j = x := ⟨_, rfl⟩
        rw [hx0] at hc1
        have HX := Lib.hid hx0
        clear hx0
        by_cases hx : x = 0
        · subst hx
          go_wp2
          go_round
          case rel => exact ⟨j + 1, by omega, by go_num, fun i hi => by rcases Nat.lt_succ_iff_lt_or_eq.1 hi with h | rfl; exact hz.out i h; exact HX.out⟩
          case measure => simp [intOf]; omega
        · have hq : ((x : Int) == 0) = false := by simp; omega
          have HX0 := Lib.hid hx
          clear hx
          go_wp2
          go_meet
          exact ⟨⟨j, by omega, rfl, bval_zeros (by omega) hz.out, .inl (by rw [HD.out, HX.out]; exact HX0.out)⟩, rfl⟩
      · obtain rfl : len = j := by omega
        go_wp2
        go_meet
        exact ⟨⟨len, by omega, rfl, bval_zeros (by omega) hz.out, .inr (List.drop_of_length_le (by omega))⟩, rfl⟩
  case rest =>
    obtain ⟨HT, rfl⟩ := hcut
    obtain ⟨j, hj, rfl, hbv, hhead⟩ := HT.out
    have h8' : B8 (l.drop j) := h8.drop j
    obtain ⟨t, ht⟩ : ∃ t, l.drop j = t := ⟨_, rfl⟩
    have hlen : len - j = t.length := by rw [← ht, List.length_drop, hl]
    have HAT : Hid (∀ i, at0 t i = at0 l (j + i)) := by rw [← ht]; exact fun i => at0_drop
    rw [ht] at hbv hhead h8'
    have htl : t.length ≤ len := by omega
    have hj2 : j ≤ len := by omega
    have rlen : (len : Int) - (j : Int) = (t.length : Int) := by omega
    have HBV := Lib.hid hbv
    have HLN := Lib.hid hlen
    clear HT hlen ht hbv h8
    by_cases hbig2 : 1024 < t.length
    · have HR : Hid (18446744073709551616 ^ 128 ≤ bval l) := by
        rcases hhead with h | h
        · have h1 := bval_ge h
          have h2 : 256 ^ 1024 ≤ 256 ^ (t.length - 1) := Nat.pow_le_pow_right (by decide) (by omega)
          rw [pow_1024] at h2
          rw [← HBV.out]
          exact Nat.le_trans h2 h1
        · rw [h] at hbig2; simp at hbig2
      clear hhead
      go_wp2
      go_ret2
      exact ⟨Below.refl _ _, .inl ⟨HR.out, rfl⟩⟩
    · have HHD := Lib.hid hhead
      clear hhead
      obtain ⟨n, hn⟩ : ∃ n, n = (t.length + 7) / 8 := ⟨_, rfl⟩
      have rn : ((t.length : Int) + 7) / 8 = (n : Int) := by omega
      have HN := Lib.hid hn
      have hn2 : n ≤ 200 := by omega
      clear hn
      go_wp2_with (at_make; refine wpl_make64 rfl _ _ rfl w.heap.size _ _ _ _ n rfl rfl rn rn (by omega) (Nat.le_refl _) ?_)
      intro w1 hown hbl hsz
      have HO := Lib.hid hown
      clear hown
      go_wp2
      go_loopw [6] (fun iv wr => ∃ (i : Nat) (ws : List Nat), i ≤ t.length ∧ iv = .int .i64 ((j : Int) + (i : Int)) ∧ Hid (own64 wr w.heap.size (.slice (some ⟨w.heap.size, 0, none⟩) n n) ws) ∧ Hid (Bd ws) ∧ Hid (val ws = bval (t.take i) * 256 ^ (t.length - i)) ∧ Below w.heap.size w wr) (fun iv _ => len - (intOf iv).toNat)
      case atStart => exact ⟨0, _, Nat.zero_le _, by simp, HO, fun x hx => by rw [List.eq_of_mem_replicate hx]; decide, by show _ = _; rw [val_replicate]; simp [bval], hbl⟩
      case round =>
        clear HO hbl
        obtain ⟨i, ws, hi, rfl, HO, HB, HV, hbl⟩ := hrel
        have HL : Hid (n = ws.length) := (own64.rd HO.out).1
        have hjt : j + t.length = len := by have := HLN.out; omega
        by_cases hlt : i < t.length
        · obtain ⟨b, off, rfl⟩ := HR0.out.isAt (by omega)
          have hc1 := below_cell hbl _ _ (HR0.out.cell (i := j + i) (by omega))
          rw [← HAT.out i] at hc1
          obtain ⟨p, hp⟩ : ∃ p, p = t.length - 1 - i := ⟨_, rfl⟩
          have rp : (len : Int) - 1 - ((j : Int) + (i : Int)) = (p : Int) := by omega
          have hji : j + i < len := by omega
          have HJ := Lib.hid hjt
          clear hjt
          have hpn : p / 8 < n := by have := HN.out; omega
          have hx8 := h8'.at0 i
          have HP : Hid (p + 1 = t.length - i) := by show _ = _; omega
          obtain ⟨st1, st2, st3, st4⟩ := byte_step (x := at0 t i) (N := bval (t.take i)) (p := p) HB.out (by rw [← HL.out]; exact hpn) (by rw [HV.out, HP.out]) hx8
          have HT : Hid (t.take (i + 1) = t.take i ++ [at0 t i]) := take_succ_at0 hlt
          have hc2 := own64.cell HO.out (j := p / 8) (by rw [← HL.out]; exact hpn)
          have hf2 := own64.free HO.out (p / 8)
          have HOS := fun (y : Nat) => own64.set HO.out (p / 8) y
          have hLb := HB.out.at0 (p / 8)
          generalize at0 t i = x at *
          generalize at0 ws (p / 8) = L at *
          obtain ⟨q, hq⟩ : ∃ q, q = p / 8 := ⟨_, rfl⟩
          obtain ⟨sh, hsh⟩ : ∃ sh, sh = 8 * (p % 8) := ⟨_, rfl⟩
          rw [← hsh] at st1 st2 st3 st4
          rw [← hq] at st4 hc2 hf2 HOS hpn
          obtain ⟨y, hy⟩ : ∃ y, y = x * 2 ^ sh := ⟨_, rfl⟩
          rw [← hy] at st1 st2 st3 st4
          have rq : (p : Int) / 8 = (q : Int) := by omega
          have rs : 8 * ((p : Int) % 8) = (sh : Int) := by omega
          have hs63 : sh ≤ 56 := by omega
          have ro : bits BinOp.or IntKind.u64 (L : Int) (y : Int) = ((L + y : Nat) : Int) := by rw [← st1]; exact or_nat L y hLb st3
          have ry : IntKind.u64.wrap ((x : Int) * 2 ^ sh) = (y : Int) := by
            rw [show (x : Int) * 2 ^ sh = ((x * 2 ^ sh : Nat) : Int) by simp, ← hy, IntKind.wrap_u64]; omega
          have H4 := Lib.hid st4
          have HHS := Lib.hid HOS
          clear st1 st3 st4 HOS hq hsh hy hp
          go_wp2
          have rw1 : IntKind.i64.wrap (q : Int) = (q : Int) := IntWalk.i64_in _ (by omega)
          have hq0 : (0 : Int) ≤ (q : Int) := by omega
          have rwx : IntKind.u64.wrap (x : Int) = (x : Int) := IntWalk.u64_in _ (by omega)
          obtain ⟨r8, hr8⟩ : ∃ r8, r8 = p % 8 := ⟨_, rfl⟩
          have rt : (p : Int).tmod 8 = (r8 : Int) := by rw [Int.tmod_eq_emod_of_nonneg (by omega)]; omega
          have rm : IntKind.i64.wrap (8 * (r8 : Int)) = (sh : Int) := by rw [IntWalk.i64_in _ (by omega)]; omega
          have hs0 : (0 : Int) ≤ (sh : Int) := by omega
          clear hr8
          have hqn : (q : Int) < (n : Int) := by omega
          have hji0 : (0 : Int) ≤ (j : Int) + (i : Int) := by omega
          have rti : ((j : Int) + (i : Int)).toNat = j + i := by omega
          have hji1 : (j : Int) + (i : Int) < (len : Int) := by omega
          refine wp_region_still_tail 19 (by kernel_rfl) (by kernel_rfl) ?_
          simp only [List.take_succ_cons, List.take_zero, List.drop_succ_cons, List.drop_zero]
          iterate 19 still_step
          refine wpStill_nil ?_
          go_wp2
          go_roundw
          case rel =>
            refine ⟨i + 1, ws.set q (L + y), by omega, by go_num, ?_, HB.out.set st2, ?_, (hbl.setCell (p := ⟨w.heap.size, q, none⟩) (Nat.le_refl _) _).drew⟩
            · exact HHS.out (L + y)
            · show _ = _
              rw [H4.out, HT.out, bval_snoc, show t.length - (i + 1) = p by have := HP.out; omega]
          case measure => simp [intOf]; omega
        · obtain rfl : i = t.length := by omega
          have hval : val ws = bval l := by
            have := HV.out
            rw [List.take_length, Nat.sub_self, Nat.pow_zero, Nat.mul_one, HBV.out] at this
            exact this
          have hcn : Cn ws := by
            refine bytes_cn HB.out (by rw [← HL.out]; exact HN.out) (by rw [hval]; exact HBV.out.symm) HHD.out
          have HNU : Hid (Num ws (bval l)) := ⟨HB.out, hcn, hval⟩
          have HFL : Hid (fl ws = n) := by show _ = _; rw [fl_of_cn hcn]; exact HL.out.symm
          have HRD := Lib.hid (own64.rd HO.out).2
          clear hval hcn
          go_wp2_with fail
          refine (strip_any _ n n ws _ HL.out.symm (by omega) (Nat.le_refl _) (fun h => by cases h) HRD.out).mono ?_
          rintro e w2 ⟨rfl, rfl⟩
          rw [HFL.out]
          go_wp2
          go_ret2
          refine ⟨hbl, .inr ⟨?_, _, ws, rfl, HO.out, HNU.out⟩⟩
          have h1 := bval_lt h8'
          have h2 : 256 ^ t.length ≤ 256 ^ 1024 := Nat.pow_le_pow_right (by decide) (by omega)
          rw [pow_1024] at h2
          rw [HBV.out] at h1
          omega

/-- What 'both' hands on of a number: its form. -/
def FormOf (a : Option Addr) (cap n : Nat) (a' : Option Addr) (c' : Nat) : Prop := (0 < n → a' = a ∧ c' = cap) ∧ (n = 0 → a' = none ∧ c' = 0)
theorem FormOf.rd {k : IntKind} {w : World} {a a' : Option Addr} {cap n c' : Nat} {xs : List Nat} (h : FormOf a cap n a' c') (hr : Rd k w a xs) (hn : n ≤ xs.length) : Rd k w a' (xs.take n) := by
  rcases Nat.eq_zero_or_pos n with rfl | hp
  · rw [List.take_zero]; exact Rd.nil _ _ _
  · rw [(h.1 hp).1]; exact hr.take n
theorem FormOf.cap {a a' : Option Addr} {cap n c' len : Nat} (h : FormOf a cap n a' c') (hc : len ≤ cap) (hn : n ≤ len) : n ≤ c' ∧ (a' = none → c' = 0 ∨ a = none) := by
  rcases Nat.eq_zero_or_pos n with rfl | hp
  · exact ⟨Nat.zero_le _, fun _ => .inl (h.2 rfl).2⟩
  · obtain ⟨rfl, rfl⟩ := h.1 hp
    exact ⟨by omega, fun e => .inr e⟩

/-- How many bits. -/
def BitsIs (n k : Nat) : Prop := (n = 0 ∧ k = 0) ∨ (0 < k ∧ 2 ^ (k - 1) ≤ n ∧ n < 2 ^ k)
def BitsPost (xs : List Nat) (w : World) (e : Ending) (w' : World) : Prop := (∃ k : Nat, e = .returned (.int .i64 (k : Nat)) ∧ BitsIs (val xs) k ∧ k ≤ 64 * fl xs) ∧ w = w'
theorem pow_64 (n : Nat) : (18446744073709551616 : Nat) ^ n = 2 ^ (64 * n) := by rw [Nat.pow_mul]

set_option maxHeartbeats 1000000 in
set_option maxRecDepth 100000 in
theorem bits_any (a : Option Addr) (la ca : Nat) (xs : List Nat) (w : World) (hla : xs.length = la) (hba : la ≤ 1099511627776) (hca : la ≤ ca) (hra : Rd .u64 w a xs) (bx : Bd xs) :
    Calls Tryz.prog 109 #[.slice a la ca] w (BitsPost xs w) := by
  have hfa := (fl_spec xs).1
  go_enter Tryz.func109, Tryz.ntmps109
  go_wp2_with fail
  refine (form_any a la ca xs _ hla hba hca hra).mono ?_
  rintro e w1 ⟨⟨a', c', rfl, g1, g2⟩, rfl⟩
  by_cases h0 : fl xs = 0
  · have hq : ((fl xs : Int) == 0) = true := by simp; omega
    have H0 := Lib.hid h0
    clear g1 g2 h0
    go_wp2
    go_ret
    refine ⟨⟨0, rfl, .inl ⟨?_, rfl⟩, Nat.zero_le _⟩, rfl⟩
    rw [← fm_val, fm, H0.out]; rfl
  · obtain ⟨rfl, rfl⟩ := g1 (by omega)
    obtain ⟨b, off, rfl⟩ := hra.isAt (by omega)
    obtain ⟨m, hm⟩ : ∃ m, fl xs = m + 1 := ⟨fl xs - 1, by omega⟩
    have hc1 := hra.cell (i := m) (by omega)
    have htop : at0 xs m ≠ 0 := by have := (fl_spec xs).2.2 (by omega); rw [hm, Nat.add_sub_cancel] at this; exact this
    have hb1 := bx.at0 m
    have HV : Hid (val xs = val ((fm xs).take m) + 18446744073709551616 ^ m * at0 xs m) := by
      show _ = _
      rw [← fm_val xs, val_at (fm xs) m (by rw [fm_length]; omega), List.drop_of_length_le (by rw [fm_length]; omega)]
      simp only [val, Nat.mul_zero, Nat.add_zero]
      rw [fm, at0_take (by omega)]
    have HL : Hid (val ((fm xs).take m) < 18446744073709551616 ^ m) := by
      have := val_lt ((fm_bd bx).take m)
      rw [List.length_take, fm_length, Nat.min_eq_left (by omega)] at this
      exact this
    have hq : ((fl xs : Int) == 0) = false := by simp; omega
    have hm1 : ((fl xs : Int) - 1) = (m : Int) := by omega
    have hmn : m < fl xs := by omega
    have HM := Lib.hid hm
    clear hm g1 g2 h0
    generalize at0 xs m = x at *
    have HX := Lib.hid htop
    clear htop
    go_wp2_with fail
    refine (Tryz.bits_Len64 (x : Int) _ (by omega) (by omega)).mono ?_
    rintro e w' ⟨rfl, hw⟩
    have hw2 := hw.symm
    subst hw2
    obtain ⟨b1, b2, b3⟩ := Lib.bitLenAux_bounds 64 x (by simpa using hb1) HX.out
    have hb : Lib.bitLenAux 64 x ≤ 64 := Lib.bitLenAux_le 64 x 64 (by simpa using hb1)
    have e1 : Lib.bitLen ((x : Int).toNat) = Lib.bitLenAux 64 x := rfl
    rw [e1]
    have B2 := Lib.hid b2
    have B3 := Lib.hid b3
    clear b2 b3 e1
    generalize Lib.bitLenAux 64 x = t at *
    go_wp2
    go_ret
    refine ⟨⟨64 * m + t, by congr 2, .inr ⟨by omega, ?_, ?_⟩, by omega⟩, rfl⟩
    · rw [HV.out, show 64 * m + t - 1 = 64 * m + (t - 1) by omega, Nat.pow_add, ← pow_64]
      have := Nat.mul_le_mul_left (18446744073709551616 ^ m) B2.out
      omega
    · rw [HV.out, Nat.pow_add, ← pow_64]
      have h1 : 18446744073709551616 ^ m * (x + 1) ≤ 18446744073709551616 ^ m * 2 ^ t := Nat.mul_le_mul_left _ B3.out
      rw [Nat.mul_add] at h1
      have := HL.out
      omega

/-- A list with a piece written over. -/
def spl (ws : List Nat) (off : Nat) (zs : List Nat) : List Nat := ws.take off ++ (zs ++ ws.drop (off + zs.length))
theorem spl_length {ws zs : List Nat} {off : Nat} (h : off + zs.length ≤ ws.length) : (spl ws off zs).length = ws.length := by simp [spl]; omega
theorem spl_at0_in {ws zs : List Nat} {off i : Nat} (h : off ≤ ws.length) (hi : i < zs.length) : at0 (spl ws off zs) (off + i) = at0 zs i := by
  have h1 : (ws.take off).length = off := by simp; omega
  have := at0_append_right (xs := ws.take off) (ys := zs ++ ws.drop (off + zs.length)) i
  rw [h1] at this
  rw [spl, this, at0_append_left hi]
theorem spl_at0_out {ws zs : List Nat} {off j : Nat} (h : off + zs.length ≤ ws.length) (hj : j < off ∨ off + zs.length ≤ j) : at0 (spl ws off zs) j = at0 ws j := by
  have h1 : (ws.take off).length = off := by simp; omega
  rcases hj with hj | hj
  · rw [spl, at0_append_left (by omega), at0_take hj]
  · obtain ⟨d, rfl⟩ : ∃ d, j = off + (zs.length + d) := ⟨j - off - zs.length, by omega⟩
    have h2 := at0_append_right (xs := ws.take off) (ys := zs ++ ws.drop (off + zs.length)) (zs.length + d)
    rw [h1] at h2
    rw [spl, h2, at0_append_right, at0_drop, Nat.add_assoc]
theorem Bd.spl {ws zs : List Nat} {off : Nat} (h : Bd ws) (hz : Bd zs) : Bd (spl ws off zs) := (h.take off).append (hz.append (h.drop _))
theorem sg_spl {cur : Array Value} {ws zs : List Nat} {off : Nat} (h : Sg cur 0 ws) (hl : off + zs.length ≤ ws.length) : Sg (putL cur off zs) 0 (spl ws off zs) := by
  have h1 := h.1
  refine ⟨by rw [putL_size (by omega), spl_length hl]; exact h1, fun i hi => ?_⟩
  rw [spl_length hl] at hi
  rw [Nat.zero_add]
  by_cases hj : i < off ∨ off + zs.length ≤ i
  · rw [putL_out (by omega) hj, spl_at0_out hl hj]
    have := h.2 i hi
    rwa [Nat.zero_add] at this
  · obtain ⟨d, rfl⟩ : ∃ d, i = off + d := ⟨i - off, by omega⟩
    rw [putL_in (by omega) (by omega), spl_at0_in (by omega) (by omega)]
/-- A row's block, written over. -/
theorem own64.over {w' : World} {B g c off : Nat} {cur : Array Value} {ws zs : List Nat} (hB : B ≤ g) (hc : c ≤ maxLen) (hn : ws.length ≤ c) (hs : cur.size = c) (hz : Sg cur 0 ws) (hl : off + zs.length ≤ ws.length) (hb : Blk w' g (putL cur off zs)) :
    own64 w' B (.slice (some ⟨g, 0, none⟩) ws.length c) (spl ws off zs) := by
  have := own64_of_blk (B := B) (c := c) (zs := spl ws off zs) hb hB (by rw [spl_length hl]; exact hn) hc (by rw [putL_size (by have := hz.1; omega)]; exact hs) (sg_spl hz hl)
  rw [spl_length hl] at this
  exact this

theorem old_of_rd {k : IntKind} {w : World} {b : Option Addr} {ys : List Nat} (h : Rd k w b ys) (h0 : 0 < ys.length) : ∀ p, b = some p → p.block < w.heap.size := by
  intro p hp
  obtain ⟨bb, ob, rfl⟩ := h.isAt h0
  cases hp
  exact World.block_lt_of_cell? w _ (h.cell (i := 0) h0)
theorem FormOf.old {k : IntKind} {w : World} {a a' : Option Addr} {cap n c' : Nat} {xs : List Nat} (h : FormOf a cap n a' c') (hr : Rd k w a xs) (hn : n ≤ xs.length) : ∀ p, a' = some p → p.block < w.heap.size := by
  rcases Nat.eq_zero_or_pos n with rfl | hp
  · intro p hp; rw [(h.2 rfl).1] at hp; cases hp
  · rw [(h.1 hp).1]; exact old_of_rd hr (by omega)
/-- Two lists that are the same are found to be. -/
def YesPost (w : World) (e : Ending) (w' : World) : Prop := e = .returned (.bool true) ∧ ∃ n, w' = w.drewN n
theorem words_same (a b : Option Addr) (n ca cb : Nat) (xs : List Nat) (w : World) (hla : xs.length = n) (hba : n ≤ 1099511627776) 
    (hra : Rd .u64 w a xs) (hrb : Rd .u64 w b xs) :
    Calls Tryz.prog 74 #[.slice a n ca, .slice b n cb] w (YesPost w) := by
  go_enter Tryz.func74, Tryz.ntmps74
  have hne : ((n : Int) != (n : Int)) = false := by simp
  go_wp2
  go_loopw [5] (fun v wr => ∃ i n' : Nat, i ≤ n ∧ v = .int .i64 (i : Nat) ∧ wr = w.drewN n') (fun v _ => n - (intOf v).toNat)
  case atStart => exact ⟨0, 0, Nat.zero_le _, rfl, rfl⟩
  case round =>
    obtain ⟨i, n', hi, rfl, rfl⟩ := hrel
    by_cases h0 : i < n
    · obtain ⟨ba, oa, rfl⟩ := hra.isAt (by omega)
      obtain ⟨bb, ob, rfl⟩ := hrb.isAt (by omega)
      have hc1 := hra.cell (i := i) (by omega)
      have hc2 := hrb.cell (i := i) (by omega)
      have h00 : (0 : Int) ≤ (i : Int) := by omega
      clear hra hrb
      generalize at0 xs i = x at *
      have hxx : ((x : Int) != (x : Int)) = false := by simp
      go_wp2
      go_quiet (fail)
      go_wp2
      go_roundw
      case rel => exact ⟨i + 1, n' + nq, by omega, by go_num, by first | rfl | exact World.drewN_drewN _ _ _⟩
      case measure => simp [intOf]; omega
    · have hq : decide (i < n) = false := by simp; omega
      go_wp2
      go_ret
      exact ⟨rfl, n', rfl⟩

abbrev own8 (w : World) (B : Nat) (v : Value) (zs : List Nat) : Prop := w.ownsRow B 5 1 v zs.length (u8s zs)
theorem u8s_at (xs : List Nat) (i : Nat) (h : i < xs.length) : (u8s xs)[i]? = some (.int .u8 (at0 xs i : Nat)) := by simp [u8s, h, at0_getElem]
theorem u8s_setL (xs : List Nat) (i x : Nat) : (u8s xs).set i (.int .u8 (x : Nat)) = u8s (xs.set i x) := by simp [u8s, List.map_set]
theorem own8.set {w : World} {B g n c : Nat} {zs : List Nat} (h : w.ownsRow B 5 1 (.slice (some ⟨g, 0, none⟩) n c) n (u8s zs)) (j x : Nat) : (w.setCell ⟨g, j, none⟩ (.int .u8 (x : Nat))).ownsRow B 5 1 (.slice (some ⟨g, 0, none⟩) n c) n (u8s (zs.set j x)) := by
  rw [← u8s_setL]
  exact (World.ownsRow.stored h j _).1
theorem at0_set {xs : List Nat} {i j x : Nat} (h : i < xs.length) : at0 (xs.set i x) j = if i = j then x else at0 xs j := by
  unfold at0
  simp only [List.getD, List.getElem?_set]
  by_cases e : i = j
  · subst e; simp [h]
  · simp [e]

theorem Rd.alloc {k : IntKind} {w : World} {a : Option Addr} {xs : List Nat} (h : Rd k w a xs) (o : Obj) : Rd k (w.alloc o) a xs := h.below ((Below.refl _ _).alloc (Nat.le_refl _) _)
theorem Below.drewM {B : Nat} {a w : World} (h : Below B a w) (n : Nat) : Below B a (w.drewN n) := ⟨h.os, h.tape, h.output, h.size, h.block⟩
theorem Rd.drewM {k : IntKind} {w : World} {a : Option Addr} {xs : List Nat} (h : Rd k w a xs) (n : Nat) : Rd k (w.drewN n) a xs := h

def sg (z : Int) : Int := if z = 0 then 0 else if z < 0 then -1 else 1
theorem own64.under {w w' : World} {B : Nat} {v : Value} {zs : List Nat} (h : own64 w B v zs) (hb : Below w.heap.size w w') : own64 w' B v zs :=
  ((Chg.of_below hb).owns h fun k hk he => by have := (World.ownsRow.lt h k hk).2; omega)
/-- A whole number as a value. -/
def WV (n : Bool) (a : Option Addr) (la ca : Nat) : Value := .agg #[.bool n, .slice a la ca]

theorem heap_new (w : World) (o : Obj) : (w.alloc o).heap[w.heap.size]? = some o := by
  show (w.heap.push o)[w.heap.size]? = _
  simp

theorem val_one (x : Nat) : val [x] = x := by simp [val]
def FromTells (l : List Nat) (k : Int) (zs : List Nat) : Prop :=
  (18446744073709551616 ^ 128 ≤ bval l ∧ k = 3 ∧ zs = []) ∨ (bval l < 18446744073709551616 ^ 128 ∧ k = 0 ∧ Num zs (bval l))
def Told (Q : Int → List Nat → Prop) (w : World) (e : Ending) (w' : World) : Prop :=
  Below w.heap.size w w' ∧ ∃ a c k zs, e = .returned (.tuple #[.slice a zs.length c, .int .i64 k]) ∧ own64 w' w.heap.size (.slice a zs.length c) zs ∧ zs.length ≤ 128 ∧ Q k zs
theorem FromPost.told {l : List Nat} {w w' : World} {e : Ending} (h : FromPost l w e w') : Told (FromTells l) w e w' := by
  obtain ⟨hb, h | h⟩ := h
  · exact ⟨hb, none, 0, 3, [], h.2, own64_nil _ _, by decide, .inl ⟨h.1, rfl, rfl⟩⟩
  · obtain ⟨h3, v, zs, rfl, ho, hn⟩ := h
    obtain ⟨a, c, rfl, _⟩ := own64.form ho
    exact ⟨hb, a, c, 0, zs, rfl, ho, hn.len_le.2 h3, .inr ⟨h3, rfl, hn⟩⟩
theorem FromTells.one {l : List Nat} {k k' : Int} {zs zs' : List Nat} (h : FromTells l k zs) (h' : FromTells l k' zs') : k = k' ∧ zs = zs' := by
  rcases h with ⟨h1, rfl, rfl⟩ | ⟨h3, rfl, h4⟩ <;>
  rcases h' with ⟨g1, rfl, rfl⟩ | ⟨g3, rfl, g4⟩ <;>
  first | exact ⟨rfl, rfl⟩ | exact ⟨rfl, h4.unique g4⟩ | (exfalso; omega)

theorem bits_lt {n k : Nat} (h : BitsIs n k) : n < 2 ^ k := by
  rcases h with ⟨rfl, rfl⟩ | ⟨_, _, h⟩
  · decide
  · exact h
theorem bits_unique {n j k : Nat} (h1 : BitsIs n j) (h2 : BitsIs n k) : j = k := by
  have key : ∀ {j k : Nat}, BitsIs n j → BitsIs n k → j ≤ k := by
    intro j k h1 h2
    apply Decidable.byContradiction; intro hn
    have hlt := bits_lt h2
    rcases h1 with ⟨_, rfl⟩ | ⟨h0, h1, _⟩
    · omega
    · have : 2 ^ k ≤ 2 ^ (j - 1) := Nat.pow_le_pow_right (by decide) (by omega)
      omega
  exact Nat.le_antisymm (key h1 h2) (key h2 h1)
end Go.Proofs.YtaookoejdnkkoaaGreatDoor
