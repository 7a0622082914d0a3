import Derived.Test.YtflmgdfcgggmbaaDoorFrom
namespace Go.Proofs.YtflmgdfcgggmbaaDoor
open Go.RowKit

def RTail (l : List Nat) (v : Value) : Prop := ∃ j : Nat, j ≤ l.length ∧ v = .int .i64 (j : Nat) ∧ bval (l.drop j) = bval l ∧ (at0 (l.drop j) 0 ≠ 0 ∨ l.drop j = [])

set_option exponentiation.threshold 10000 in
set_option maxHeartbeats 2000000 in
set_option maxRecDepth 100000 in
theorem rfrom_any (a : Option Addr) (len cap : Nat) (l : List Nat) (w : World) (hl : l.length = len) (hbig : len ≤ 1099511627776) (h8 : B8 l) (hr : Rd .u8 w a l) :
    Calls Tryd.prog 27 #[.slice a len cap] w (FromPost l w) := by
  have HR0 := Lib.hid hr
  clear hr
  go_enter Tryd.func27, Tryd.ntmps27
  go_upto_block 0 with (fail)
  go_cut [4] (fun v wx => Hid (RTail l v) ∧ w = wx)
  case first =>
    go_wp2
    go_loop [4] (fun v => ∃ j : Nat, j ≤ len ∧ v = .int .i64 (j : Nat) ∧ Hid (∀ i, i < j → at0 l i = 0)) (fun v => len - (intOf v).toNat)
    case atStart => exact ⟨0, Nat.zero_le _, rfl, fun i hi => by omega⟩
    case round =>
      obtain ⟨j, hj, rfl, hz⟩ := hrel
      by_cases hlt : j < len
      · obtain ⟨b, off, rfl⟩ := HR0.out.isAt (by omega)
        have hc1 := HR0.out.cell (i := j) (by omega)
        have HD : Hid (at0 (l.drop j) 0 = at0 l j) := by show _ = _; rw [at0_drop, Nat.add_zero]
        obtain ⟨x, hx0⟩ : ∃ x, at0 l j = x := ⟨_, rfl⟩
        rw [hx0] at hc1
        have HX := Lib.hid hx0
        clear hx0
        by_cases hx : x = 0
        · subst hx
          go_wp2
          go_round
          case rel => exact ⟨j + 1, by omega, by go_num, fun i hi => by rcases Nat.lt_succ_iff_lt_or_eq.1 hi with h | rfl; exact hz.out i h; exact HX.out⟩
          case measure => simp [intOf]; omega
        · have hq : ((x : Int) == 0) = false := by simp; omega
          have HX0 := Lib.hid hx
          clear hx
          go_wp2
          go_meet
          exact ⟨⟨j, by omega, rfl, bval_zeros (by omega) hz.out, .inl (by rw [HD.out, HX.out]; exact HX0.out)⟩, rfl⟩
      · obtain rfl : len = j := by omega
        go_wp2
        go_meet
        exact ⟨⟨len, by omega, rfl, bval_zeros (by omega) hz.out, .inr (List.drop_of_length_le (by omega))⟩, rfl⟩
  case rest =>
    obtain ⟨HT, rfl⟩ := hcut
    obtain ⟨j, hj, rfl, hbv, hhead⟩ := HT.out
    have h8' : B8 (l.drop j) := h8.drop j
    obtain ⟨t, ht⟩ : ∃ t, l.drop j = t := ⟨_, rfl⟩
    have hlen : len - j = t.length := by rw [← ht, List.length_drop, hl]
    have HAT : Hid (∀ i, at0 t i = at0 l (j + i)) := by rw [← ht]; exact fun i => at0_drop
    rw [ht] at hbv hhead h8'
    have htl : t.length ≤ len := by omega
    have hj2 : j ≤ len := by omega
    have rlen : (len : Int) - (j : Int) = (t.length : Int) := by omega
    have HBV := Lib.hid hbv
    have HLN := Lib.hid hlen
    clear HT hlen ht hbv h8
    by_cases hbig2 : 1024 < t.length
    · have HR : Hid (18446744073709551616 ^ 128 ≤ bval l) := by
        rcases hhead with h | h
        · have h1 := bval_ge h
          have h2 : 256 ^ 1024 ≤ 256 ^ (t.length - 1) := Nat.pow_le_pow_right (by decide) (by omega)
          rw [pow_1024] at h2
          rw [← HBV.out]
          exact Nat.le_trans h2 h1
        · rw [h] at hbig2; simp at hbig2
      clear hhead
      go_wp2
      go_ret2
      exact ⟨Below.refl _ _, .inl ⟨HR.out, rfl⟩⟩
    · have HHD := Lib.hid hhead
      clear hhead
      obtain ⟨n, hn⟩ : ∃ n, n = (t.length + 7) / 8 := ⟨_, rfl⟩
      have rn : ((t.length : Int) + 7) / 8 = (n : Int) := by omega
      have HN := Lib.hid hn
      have hn2 : n ≤ 200 := by omega
      clear hn
      go_wp2_with (at_make; refine wpl_make64 rfl _ _ rfl w.heap.size _ _ _ _ n rfl rfl rn rn (by omega) (Nat.le_refl _) ?_)
      intro w1 hown hbl hsz
      have HO := Lib.hid hown
      clear hown
      go_wp2
      go_loopw [6] (fun iv wr => ∃ (i : Nat) (ws : List Nat), i ≤ t.length ∧ iv = .int .i64 ((j : Int) + (i : Int)) ∧ Hid (own64 wr w.heap.size (.slice (some ⟨w.heap.size, 0, none⟩) n n) ws) ∧ Hid (Bd ws) ∧ Hid (val ws = bval (t.take i) * 256 ^ (t.length - i)) ∧ Below w.heap.size w wr) (fun iv _ => len - (intOf iv).toNat)
      case atStart => exact ⟨0, _, Nat.zero_le _, by simp, HO, fun x hx => by rw [List.eq_of_mem_replicate hx]; decide, by show _ = _; rw [val_replicate]; simp [bval], hbl⟩
      case round =>
        clear HO hbl
        obtain ⟨i, ws, hi, rfl, HO, HB, HV, hbl⟩ := hrel
        have HL : Hid (n = ws.length) := (own64.rd HO.out).1
        have hjt : j + t.length = len := by have := HLN.out; omega
        by_cases hlt : i < t.length
        · obtain ⟨b, off, rfl⟩ := HR0.out.isAt (by omega)
          have hc1 := below_cell hbl _ _ (HR0.out.cell (i := j + i) (by omega))
          rw [← HAT.out i] at hc1
          obtain ⟨p, hp⟩ : ∃ p, p = t.length - 1 - i := ⟨_, rfl⟩
          have rp : (len : Int) - 1 - ((j : Int) + (i : Int)) = (p : Int) := by omega
          have hji : j + i < len := by omega
          have HJ := Lib.hid hjt
          clear hjt
          have hpn : p / 8 < n := by have := HN.out; omega
          have hx8 := h8'.at0 i
          have HP : Hid (p + 1 = t.length - i) := by show _ = _; omega
          obtain ⟨st1, st2, st3, st4⟩ := byte_step (x := at0 t i) (N := bval (t.take i)) (p := p) HB.out (by rw [← HL.out]; exact hpn) (by rw [HV.out, HP.out]) hx8
          have HT : Hid (t.take (i + 1) = t.take i ++ [at0 t i]) := take_succ_at0 hlt
          have hc2 := own64.cell HO.out (j := p / 8) (by rw [← HL.out]; exact hpn)
          have hf2 := own64.free HO.out (p / 8)
          have HOS := fun (y : Nat) => own64.set HO.out (p / 8) y
          have hLb := HB.out.at0 (p / 8)
          generalize at0 t i = x at *
          generalize at0 ws (p / 8) = L at *
          obtain ⟨q, hq⟩ : ∃ q, q = p / 8 := ⟨_, rfl⟩
          obtain ⟨sh, hsh⟩ : ∃ sh, sh = 8 * (p % 8) := ⟨_, rfl⟩
          rw [← hsh] at st1 st2 st3 st4
          rw [← hq] at st4 hc2 hf2 HOS hpn
          obtain ⟨y, hy⟩ : ∃ y, y = x * 2 ^ sh := ⟨_, rfl⟩
          rw [← hy] at st1 st2 st3 st4
          have rq : (p : Int) / 8 = (q : Int) := by omega
          have rs : 8 * ((p : Int) % 8) = (sh : Int) := by omega
          have hs63 : sh ≤ 56 := by omega
          have ro : bits BinOp.or IntKind.u64 (L : Int) (y : Int) = ((L + y : Nat) : Int) := by rw [← st1]; exact or_nat L y hLb st3
          have ry : IntKind.u64.wrap ((x : Int) * 2 ^ sh) = (y : Int) := by
            rw [show (x : Int) * 2 ^ sh = ((x * 2 ^ sh : Nat) : Int) by simp, ← hy, IntKind.wrap_u64]; omega
          have H4 := Lib.hid st4
          have HHS := Lib.hid HOS
          clear st1 st3 st4 HOS hq hsh hy hp
          go_wp2
          have rw1 : IntKind.i64.wrap (q : Int) = (q : Int) := IntWalk.i64_in _ (by omega)
          have hq0 : (0 : Int) ≤ (q : Int) := by omega
          have rwx : IntKind.u64.wrap (x : Int) = (x : Int) := IntWalk.u64_in _ (by omega)
          obtain ⟨r8, hr8⟩ : ∃ r8, r8 = p % 8 := ⟨_, rfl⟩
          have rt : (p : Int).tmod 8 = (r8 : Int) := by rw [Int.tmod_eq_emod_of_nonneg (by omega)]; omega
          have rm : IntKind.i64.wrap (8 * (r8 : Int)) = (sh : Int) := by rw [IntWalk.i64_in _ (by omega)]; omega
          have hs0 : (0 : Int) ≤ (sh : Int) := by omega
          clear hr8
          have hqn : (q : Int) < (n : Int) := by omega
          have hji0 : (0 : Int) ≤ (j : Int) + (i : Int) := by omega
          have rti : ((j : Int) + (i : Int)).toNat = j + i := by omega
          have hji1 : (j : Int) + (i : Int) < (len : Int) := by omega
          refine wp_region_still_tail 19 (by kernel_rfl) (by kernel_rfl) ?_
          simp only [List.take_succ_cons, List.take_zero, List.drop_succ_cons, List.drop_zero]
          iterate 19 still_step
          refine wpStill_nil ?_
          go_wp2
          go_roundw
          case rel =>
            refine ⟨i + 1, ws.set q (L + y), by omega, by go_num, ?_, HB.out.set st2, ?_, (hbl.setCell (p := ⟨w.heap.size, q, none⟩) (Nat.le_refl _) _).drew⟩
            · exact HHS.out (L + y)
            · show _ = _
              rw [H4.out, HT.out, bval_snoc, show t.length - (i + 1) = p by have := HP.out; omega]
          case measure => simp [intOf]; omega
        · obtain rfl : i = t.length := by omega
          have hval : val ws = bval l := by
            have := HV.out
            rw [List.take_length, Nat.sub_self, Nat.pow_zero, Nat.mul_one, HBV.out] at this
            exact this
          have hcn : Cn ws := by
            refine bytes_cn HB.out (by rw [← HL.out]; exact HN.out) (by rw [hval]; exact HBV.out.symm) HHD.out
          have HNU : Hid (Num ws (bval l)) := ⟨HB.out, hcn, hval⟩
          have HFL : Hid (fl ws = n) := by show _ = _; rw [fl_of_cn hcn]; exact HL.out.symm
          have HRD := Lib.hid (own64.rd HO.out).2
          clear hval hcn
          go_wp2_with fail
          refine (strip_any _ n n ws _ HL.out.symm (by omega) (Nat.le_refl _) (fun h => by cases h) HRD.out).mono ?_
          rintro e w2 ⟨rfl, rfl⟩
          rw [HFL.out]
          go_wp2
          go_ret2
          refine ⟨hbl, .inr ⟨?_, _, ws, rfl, HO.out, HNU.out⟩⟩
          have h1 := bval_lt h8'
          have h2 : 256 ^ t.length ≤ 256 ^ 1024 := Nat.pow_le_pow_right (by decide) (by omega)
          rw [pow_1024] at h2
          rw [HBV.out] at h1
          omega
end Go.Proofs.YtflmgdfcgggmbaaDoor
