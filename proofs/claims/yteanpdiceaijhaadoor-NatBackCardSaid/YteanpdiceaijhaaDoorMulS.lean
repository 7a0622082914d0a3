import Derived.Test.YteanpdiceaijhaaDoorMul
namespace Go.Proofs.YteanpdiceaijhaaDoor
open Go.RowKit

theorem row_step {ws zs xs ys : List Nat} {i lb x cy : Nat} (hi : i < xs.length) (hx : at0 xs i = x) (hw : ws.length = xs.length + lb) (hz : zs.length = lb) (hv : val ws = val (xs.take i) * val ys)
    (h0 : ∀ j, i + lb ≤ j → at0 ws j = 0) (h : val zs + 18446744073709551616 ^ lb * cy = val ((ws.drop i).take lb) + x * val ys) :
    val ((spl ws i zs).set (i + lb) cy) = val (xs.take (i + 1)) * val ys ∧ ∀ j, i + 1 + lb ≤ j → at0 ((spl ws i zs).set (i + lb) cy) j = 0 := by
  subst hz
  have hl : i + zs.length ≤ ws.length := by omega
  have h1 := val_spl hl
  have h2 := set_val (ws := spl ws i zs) (q := i + zs.length) (y := cy) (by rw [spl_length hl]; omega)
  have h3 : at0 (spl ws i zs) (i + zs.length) = 0 := by rw [spl_at0_out hl (.inr (Nat.le_refl _))]; exact h0 _ (Nat.le_refl _)
  constructor
  · rw [h3, Nat.mul_zero, Nat.add_zero] at h2
    rw [h2, take_val_snoc hi, hx, Nat.add_mul, ← hv, Nat.pow_add]
    have h4 : 18446744073709551616 ^ i * (val zs + 18446744073709551616 ^ zs.length * cy) = 18446744073709551616 ^ i * (val ((ws.drop i).take zs.length) + x * val ys) := by rw [h]
    rw [Nat.mul_add, Nat.mul_add, ← Nat.mul_assoc, ← Nat.mul_assoc] at h4
    omega
  · intro j hj
    have e : at0 ((spl ws i zs).set (i + zs.length) cy) j = at0 (spl ws i zs) j := by
      unfold at0 List.getD
      rw [List.getElem?_set_ne (by omega)]
    rw [e, spl_at0_out hl (.inr (by omega))]
    exact h0 j (by omega)

set_option maxHeartbeats 1000000 in
set_option maxRecDepth 100000 in
theorem byRows_any (a b : Option Addr) (la lb ca cb : Nat) (xs ys : List Nat) (w : World) (hla : xs.length = la) (hlb : ys.length = lb) (hba : la ≤ 1048576) (hbb : lb ≤ 1048576) (hra : Rd .u64 w a xs) (hrb : Rd .u64 w b ys) (bx : Bd xs) (bY : Bd ys)
    (hold : ∀ p, b = some p → p.block < w.heap.size) :
    Calls Tryd.prog 75 #[.slice a la ca, .slice b lb cb] w fun e w' => ∃ v ws, e = .returned v ∧ own64 w' w.heap.size v ws ∧ ws.length = la + lb ∧ Bd ws ∧ val ws = val xs * val ys ∧ Below w.heap.size w w' := by
  obtain ⟨n, hn⟩ : ∃ n, n = la + lb := ⟨_, rfl⟩
  have rn : (la : Int) + (lb : Int) = (n : Int) := by omega
  go_enter Tryd.func75, Tryd.ntmps75
  have HN := Lib.hid hn
  have hn2 : n ≤ 2097152 := by omega
  clear hn
  go_wp2_with (at_make; refine wpl_make64 rfl _ _ rfl w.heap.size _ _ _ _ n rfl rfl rfl rfl (by omega) (Nat.le_refl _) ?_)
  intro w1 hown hbl hsz
  have HO := Lib.hid hown
  clear hown
  go_wp2
  go_loopw [16] (fun iv wr => ∃ (i : Nat) (ws : List Nat), i ≤ la ∧ iv = .int .i64 i ∧ Hid (own64 wr w.heap.size (.slice (some ⟨w.heap.size, 0, none⟩) n n) ws) ∧ Hid (Bd ws) ∧ Hid (val ws = val (xs.take i) * val ys) ∧ Hid (∀ j, i + lb ≤ j → at0 ws j = 0) ∧ Below w.heap.size w wr) (fun iv _ => la - (intOf iv).toNat)
  case atStart =>
    refine ⟨0, _, Nat.zero_le _, rfl, HO, fun x hx => by rw [List.eq_of_mem_replicate hx]; decide, by show _ = _; rw [val_replicate]; simp [val], fun j _ => ?_, hbl⟩
    unfold at0 List.getD
    by_cases hj : j < n
    · simp [hj]
    · simp [hj]
  case round =>
    clear HO hbl
    obtain ⟨i, ws, hi, rfl, HO, HB, HV, HZ, hbl⟩ := hrel
    have HL : Hid (n = ws.length) := (own64.rd HO.out).1
    have hn3 : n = la + lb := HN.out
    by_cases hlt : i < la
    · obtain ⟨ba, oa, rfl⟩ := hra.isAt (by omega)
      have hc1 := below_cell hbl _ _ (hra.cell (i := i) (by omega))
      have hx64 := bx.at0 i
      obtain ⟨x, hx0⟩ : ∃ x, at0 xs i = x := ⟨_, rfl⟩
      rw [hx0] at hc1 hx64
      have HX := Lib.hid hx0
      clear hx0
      obtain ⟨G, cur, hg, -, hBg, hblk, -, hcm, hcs, hsg⟩ := own64.blk HO.out
      cases hg
      have hsegl : ((ws.drop i).take lb).length = lb := by have := HL.out; simp; omega
      have HSEG := Lib.hid hsegl
      have HSG := Lib.hid hsg
      have HBK := Lib.hid hblk
      have HCS := Lib.hid hcs
      have hrb2 : Rd .u64 wr b ys := hrb.below hbl
      have hil : i + lb < n := by omega
      have hin : i < n := by omega
      clear hsg hblk hcs hsegl hn3
      go_wp2_with fail
      refine (raiseTimes_any w.heap.size i lb (n - i) cur ((ws.drop i).take lb) b cb ys x _ HBK.out (sg_piece HSG.out (by have := HL.out; omega)) HSEG.out (by omega) ((HB.out.drop _).take _) hrb2 hlb bY hx64 (fun p hp => by have := hold p hp; omega)).mono ?_
      rintro e w2 ⟨cy, zs, rfl, hzl, hzb, hcy, hval, hbk2, hC2⟩
      have ho2 := own64.over (ws := ws) (zs := zs) (off := i) (B := w.heap.size) (c := n) (Nat.le_refl _) hcm (by have := HL.out; omega) HCS.out HSG.out (by have := HL.out; omega) hbk2
      rw [← HL.out] at ho2
      have hst := row_step (i := i) (x := x) (ws := ws) (zs := zs) (xs := xs) (ys := ys) (lb := lb) (cy := cy) (by omega) HX.out (by rw [← HL.out, HN.out, hla]) hzl HV.out HZ.out hval
      have hsl : i + lb < (spl ws i zs).length := by rw [spl_length (by have := HL.out; omega), ← HL.out]; exact hil
      have hc2 := own64.cell ho2 (j := i + lb) hsl
      have hf2 := own64.free ho2 (i + lb)
      have hos := own64.set ho2 (i + lb) cy
      have HOS := Lib.hid hos
      have HST := Lib.hid hst
      have HBS : Hid (Bd ((spl ws i zs).set (i + lb) cy)) := (HB.out.spl hzb).set hcy
      have hbl2 : Below w.heap.size w w2 := hbl.trans (hC2.below (Nat.le_of_lt HBK.out.lt) (fun k hk => by omega))
      clear ho2 hst hsl hos hval hbk2 hC2 hzb hzl
      generalize at0 (spl ws i zs) (i + lb) = u at hc2
      go_wp2
      go_roundw
      case rel =>
        exact ⟨i + 1, _, by omega, by go_num, HOS.out, HBS.out, HST.out.1, HST.out.2, hbl2.setCell (p := ⟨w.heap.size, i + lb, none⟩) (Nat.le_refl _) _⟩
      case measure => simp [intOf]; omega
    · obtain rfl : la = i := by omega
      go_wp2
      go_ret
      refine ⟨_, ws, rfl, HO.out, by rw [← HL.out]; exact hn3, HB.out, ?_, hbl⟩
      have := HV.out
      rw [← hla, List.take_length] at this
      exact this

/-- What a call answers that tells a number, or that it does not fit. -/
def NumPost (fits : Prop) (n : Nat) (w : World) (e : Ending) (w' : World) : Prop :=
  Below w.heap.size w w' ∧
  ((¬ (fits ∧ n < 18446744073709551616 ^ 128) ∧ e = .returned (.tuple #[.slice none 0 0, .int .i64 3])) ∨
   (fits ∧ n < 18446744073709551616 ^ 128 ∧ ∃ v zs, e = .returned (.tuple #[v, .int .i64 0]) ∧ own64 w' w.heap.size v zs ∧ Num zs n))
theorem old_of_rd {k : IntKind} {w : World} {b : Option Addr} {ys : List Nat} (h : Rd k w b ys) (h0 : 0 < ys.length) : ∀ p, b = some p → p.block < w.heap.size := by
  intro p hp
  obtain ⟨bb, ob, rfl⟩ := h.isAt h0
  cases hp
  exact World.block_lt_of_cell? w _ (h.cell (i := 0) h0)
theorem FormOf.old {k : IntKind} {w : World} {a a' : Option Addr} {cap n c' : Nat} {xs : List Nat} (h : FormOf a cap n a' c') (hr : Rd k w a xs) (hn : n ≤ xs.length) : ∀ p, a' = some p → p.block < w.heap.size := by
  rcases Nat.eq_zero_or_pos n with rfl | hp
  · intro p hp; rw [(h.2 rfl).1] at hp; cases hp
  · rw [(h.1 hp).1]; exact old_of_rd hr (by omega)
set_option exponentiation.threshold 10000 in
theorem bits_big {m n k1 k2 : Nat} (h1 : BitsIs m k1) (h2 : BitsIs n k2) (h : 8193 < k1 + k2) (hk1 : k1 ≤ 8192) (hk2 : k2 ≤ 8192) : 18446744073709551616 ^ 128 ≤ m * n := by
  rcases h1 with ⟨_, rfl⟩ | ⟨p1, l1, _⟩
  · omega
  rcases h2 with ⟨_, rfl⟩ | ⟨p2, l2, _⟩
  · omega
  have h3 := Nat.mul_le_mul l1 l2
  rw [← Nat.pow_add] at h3
  have h4 : 2 ^ 8192 ≤ 2 ^ (k1 - 1 + (k2 - 1)) := Nat.pow_le_pow_right (by decide) (by omega)
  rw [pow_64]
  exact Nat.le_trans h4 h3

set_option exponentiation.threshold 10000 in
set_option maxHeartbeats 1000000 in
set_option maxRecDepth 100000 in
theorem mul_small (a b : Option Addr) (la lb ca cb : Nat) (xs ys : List Nat) (w : World) (hla : xs.length = la) (hlb : ys.length = lb) (hba : la ≤ 1048576) (hbb : lb ≤ 1048576) (hca : la ≤ ca) (hcb : lb ≤ cb)
    (hra : Rd .u64 w a xs) (hrb : Rd .u64 w b ys) (bx : Bd xs) (bY : Bd ys) (hmin : fl xs < 32 ∨ fl ys < 32) :
    Calls Tryd.prog 34 #[.slice a la ca, .slice b lb cb] w (NumPost (fl xs ≤ 128 ∧ fl ys ≤ 128) (val xs * val ys) w) := by
  have hfa := (fl_spec xs).1
  have hfb := (fl_spec ys).1
  go_enter Tryd.func34, Tryd.ntmps34
  go_wp2_with fail
  refine (both_any a b la lb ca cb xs ys _ hla hlb (by omega) (by omega) hca hcb hra hrb).mono ?_
  rintro e w1 ⟨hor, rfl⟩
  rcases hor with ⟨h1, h2, a', c', b', d', rfl, fa, fb⟩ | ⟨h1, rfl⟩
  · have hra' := fa.rd hra hfa
    have hrb' := fb.rd hrb hfb
    have hca' := (fa.cap hca (by omega)).1
    have hcb' := (fb.cap hcb (by omega)).1
    have hold := fb.old hrb hfb
    have HFA := Lib.hid fa
    have HFB := Lib.hid fb
    have HOLD := Lib.hid hold
    clear fa fb hold hra hrb
    have e1 : Hid ((xs.take (fl xs)).length = fl xs) := fm_length xs
    have e2 : Hid ((ys.take (fl ys)).length = fl ys) := fm_length ys
    have V1 : Hid (val (xs.take (fl xs)) = val xs) := fm_val xs
    have V2 : Hid (val (ys.take (fl ys)) = val ys) := fm_val ys
    have F1 : Hid (fl (xs.take (fl xs)) = fl xs) := by show fl (fm xs) = fl xs; rw [fl_of_cn (fm_cn xs), fm_length]
    have F2 : Hid (fl (ys.take (fl ys)) = fl ys) := by show fl (fm ys) = fl ys; rw [fl_of_cn (fm_cn ys), fm_length]
    go_wp2_with fail
    refine (bits_any a' (fl xs) c' (xs.take (fl xs)) _ e1.out (by omega) hca' hra' (bx.take _)).mono ?_
    rintro e w1 ⟨⟨k1, rfl, hk1, hk1b⟩, rfl⟩
    rw [V1.out] at hk1
    rw [F1.out] at hk1b
    have HK1 := Lib.hid hk1
    clear hk1
    go_wp2_with fail
    refine (bits_any b' (fl ys) d' (ys.take (fl ys)) _ e2.out (by omega) hcb' hrb' (bY.take _)).mono ?_
    rintro e w1 ⟨⟨k2, rfl, hk2, hk2b⟩, rfl⟩
    rw [V2.out] at hk2
    rw [F2.out] at hk2b
    have HK2 := Lib.hid hk2
    clear hk2
    by_cases hbig : 8193 < k1 + k2
    · have hq : decide ((8193 : Int) < (k1 : Int) + (k2 : Int)) = true := by simp; omega
      have hge : Hid (18446744073709551616 ^ 128 ≤ val xs * val ys) := bits_big HK1.out HK2.out hbig (by omega) (by omega)
      go_wp2
      go_ret2
      exact ⟨Below.refl _ _, .inl ⟨fun h => by have := hge.out; omega, rfl⟩⟩
    · have hq : decide ((8193 : Int) < (k1 : Int) + (k2 : Int)) = false := by simp; omega
      have hq2 : decide (min (fl xs : Int) (fl ys : Int) < 32) = true := by simp; omega
      go_wp2_with fail
      refine (byRows_any a' b' (fl xs) (fl ys) c' d' (xs.take (fl xs)) (ys.take (fl ys)) _ e1.out e2.out (by omega) (by omega) hra' hrb' (bx.take _) (bY.take _) HOLD.out).mono ?_
      rintro e w1 ⟨v, ws, rfl, hown, hlen, hbw, hval, hbl⟩
      rw [V1.out, V2.out] at hval
      obtain ⟨av, cv, rfl, hrv⟩ := own64.form hown
      have hroom := own64.room hown
      have HL := Lib.hid hlen
      have hl2 : ws.length ≤ 256 := by omega
      have HO := Lib.hid hown
      have HV := Lib.hid hval
      have HBW := Lib.hid hbw
      clear hlen hown hval hbw
      go_wp2_with fail
      refine (one_any av ws.length cv ws _ rfl (by omega) hroom.1 hrv).mono ?_
      rintro e w2 ⟨hor, rfl⟩
      have hnum := num_fm HBW.out
      rw [HV.out] at hnum
      rcases hor with ⟨h3, av', cv', rfl, g1, g2⟩ | ⟨h3, rfl⟩
      · have G1 := Lib.hid g1
        have G2 := Lib.hid g2
        have HNU := Lib.hid hnum
        clear g1 g2 hnum
        go_wp2
        go_ret2
        refine ⟨hbl, .inr ⟨⟨h1, h2⟩, ?_, _, fm ws, rfl, own64_take HO.out (fl_spec ws).1 G1.out G2.out, HNU.out⟩⟩
        rw [← HNU.out.len_le, fm_length]; exact h3
      · have HNU := Lib.hid hnum
        clear hnum
        go_wp2
        go_ret2
        refine ⟨hbl, .inl ⟨fun h => ?_, rfl⟩⟩
        have := HNU.out.len_le.2 h.2
        rw [fm_length] at this
        omega
  · go_wp2
    go_ret2
    exact ⟨Below.refl _ _, .inl ⟨fun h => by omega, rfl⟩⟩
end Go.Proofs.YteanpdiceaijhaaDoor
