import Derived.Test.YtflmgdfcgggmbaaDoorMul
namespace Go.Proofs.YtflmgdfcgggmbaaDoor
open Go.RowKit

theorem row_step {ws zs xs ys : List Nat} {i lb x cy : Nat} (hi : i < xs.length) (hx : at0 xs i = x) (hw : ws.length = xs.length + lb) (hz : zs.length = lb) (hv : val ws = val (xs.take i) * val ys)
    (h0 : ∀ j, i + lb ≤ j → at0 ws j = 0) (h : val zs + 18446744073709551616 ^ lb * cy = val ((ws.drop i).take lb) + x * val ys) :
    val ((spl ws i zs).set (i + lb) cy) = val (xs.take (i + 1)) * val ys ∧ ∀ j, i + 1 + lb ≤ j → at0 ((spl ws i zs).set (i + lb) cy) j = 0 := by
  subst hz
  have hl : i + zs.length ≤ ws.length := by omega
  have h1 := val_spl hl
  have h2 := set_val (ws := spl ws i zs) (q := i + zs.length) (y := cy) (by rw [spl_length hl]; omega)
  have h3 : at0 (spl ws i zs) (i + zs.length) = 0 := by rw [spl_at0_out hl (.inr (Nat.le_refl _))]; exact h0 _ (Nat.le_refl _)
  constructor
  · rw [h3, Nat.mul_zero, Nat.add_zero] at h2
    rw [h2, take_val_snoc hi, hx, Nat.add_mul, ← hv, Nat.pow_add]
    have h4 : 18446744073709551616 ^ i * (val zs + 18446744073709551616 ^ zs.length * cy) = 18446744073709551616 ^ i * (val ((ws.drop i).take zs.length) + x * val ys) := by rw [h]
    rw [Nat.mul_add, Nat.mul_add, ← Nat.mul_assoc, ← Nat.mul_assoc] at h4
    omega
  · intro j hj
    have e : at0 ((spl ws i zs).set (i + zs.length) cy) j = at0 (spl ws i zs) j := by
      unfold at0 List.getD
      rw [List.getElem?_set_ne (by omega)]
    rw [e, spl_at0_out hl (.inr (by omega))]
    exact h0 j (by omega)

set_option maxHeartbeats 1000000 in
set_option maxRecDepth 100000 in
theorem byRows_any (a b : Option Addr) (la lb ca cb : Nat) (xs ys : List Nat) (w : World) (hla : xs.length = la) (hlb : ys.length = lb) (hba : la ≤ 1048576) (hbb : lb ≤ 1048576) (hra : Rd .u64 w a xs) (hrb : Rd .u64 w b ys) (bx : Bd xs) (bY : Bd ys)
    (hold : ∀ p, b = some p → p.block < w.heap.size) :
    Calls Tryd.prog 68 #[.slice a la ca, .slice b lb cb] w fun e w' => ∃ v ws, e = .returned v ∧ own64 w' w.heap.size v ws ∧ ws.length = la + lb ∧ Bd ws ∧ val ws = val xs * val ys ∧ Below w.heap.size w w' := by
  obtain ⟨n, hn⟩ : ∃ n, n = la + lb := ⟨_, rfl⟩
  have rn : (la : Int) + (lb : Int) = (n : Int) := by omega
  go_enter Tryd.func68, Tryd.ntmps68
  have HN := Lib.hid hn
  have hn2 : n ≤ 2097152 := by omega
  clear hn
  go_wp2_with (at_make; refine wpl_make64 rfl _ _ rfl w.heap.size _ _ _ _ n rfl rfl rfl rfl (by omega) (Nat.le_refl _) ?_)
  intro w1 hown hbl hsz
  have HO := Lib.hid hown
  clear hown
  go_wp2
  go_loopw [16] (fun iv wr => ∃ (i : Nat) (ws : List Nat), i ≤ la ∧ iv = .int .i64 i ∧ Hid (own64 wr w.heap.size (.slice (some ⟨w.heap.size, 0, none⟩) n n) ws) ∧ Hid (Bd ws) ∧ Hid (val ws = val (xs.take i) * val ys) ∧ Hid (∀ j, i + lb ≤ j → at0 ws j = 0) ∧ Below w.heap.size w wr) (fun iv _ => la - (intOf iv).toNat)
  case atStart =>
    refine ⟨0, _, Nat.zero_le _, rfl, HO, fun x hx => by rw [List.eq_of_mem_replicate hx]; decide, by show _ = _; rw [val_replicate]; simp [val], fun j _ => ?_, hbl⟩
    unfold at0 List.getD
    by_cases hj : j < n
    · simp [hj]
    · simp [hj]
  case round =>
    clear HO hbl
    obtain ⟨i, ws, hi, rfl, HO, HB, HV, HZ, hbl⟩ := hrel
    have HL : Hid (n = ws.length) := (own64.rd HO.out).1
    have hn3 : n = la + lb := HN.out
    by_cases hlt : i < la
    · obtain ⟨ba, oa, rfl⟩ := hra.isAt (by omega)
      have hc1 := below_cell hbl _ _ (hra.cell (i := i) (by omega))
      have hx64 := bx.at0 i
      obtain ⟨x, hx0⟩ : ∃ x, at0 xs i = x := ⟨_, rfl⟩
      rw [hx0] at hc1 hx64
      have HX := Lib.hid hx0
      clear hx0
      obtain ⟨G, cur, hg, -, hBg, hblk, -, hcm, hcs, hsg⟩ := own64.blk HO.out
      cases hg
      have hsegl : ((ws.drop i).take lb).length = lb := by have := HL.out; simp; omega
      have HSEG := Lib.hid hsegl
      have HSG := Lib.hid hsg
      have HBK := Lib.hid hblk
      have HCS := Lib.hid hcs
      have hrb2 : Rd .u64 wr b ys := hrb.below hbl
      have hil : i + lb < n := by omega
      have hin : i < n := by omega
      clear hsg hblk hcs hsegl hn3
      go_wp2_with fail
      refine (raiseTimes_any w.heap.size i lb (n - i) cur ((ws.drop i).take lb) b cb ys x _ HBK.out (sg_piece HSG.out (by have := HL.out; omega)) HSEG.out (by omega) ((HB.out.drop _).take _) hrb2 hlb bY hx64 (fun p hp => by have := hold p hp; omega)).mono ?_
      rintro e w2 ⟨cy, zs, rfl, hzl, hzb, hcy, hval, hbk2, hC2⟩
      have ho2 := own64.over (ws := ws) (zs := zs) (off := i) (B := w.heap.size) (c := n) (Nat.le_refl _) hcm (by have := HL.out; omega) HCS.out HSG.out (by have := HL.out; omega) hbk2
      rw [← HL.out] at ho2
      have hst := row_step (i := i) (x := x) (ws := ws) (zs := zs) (xs := xs) (ys := ys) (lb := lb) (cy := cy) (by omega) HX.out (by rw [← HL.out, HN.out, hla]) hzl HV.out HZ.out hval
      have hsl : i + lb < (spl ws i zs).length := by rw [spl_length (by have := HL.out; omega), ← HL.out]; exact hil
      have hc2 := own64.cell ho2 (j := i + lb) hsl
      have hf2 := own64.free ho2 (i + lb)
      have hos := own64.set ho2 (i + lb) cy
      have HOS := Lib.hid hos
      have HST := Lib.hid hst
      have HBS : Hid (Bd ((spl ws i zs).set (i + lb) cy)) := (HB.out.spl hzb).set hcy
      have hbl2 : Below w.heap.size w w2 := hbl.trans (hC2.below (Nat.le_of_lt HBK.out.lt) (fun k hk => by omega))
      clear ho2 hst hsl hos hval hbk2 hC2 hzb hzl
      generalize at0 (spl ws i zs) (i + lb) = u at hc2
      go_wp2
      go_roundw
      case rel =>
        exact ⟨i + 1, _, by omega, by go_num, HOS.out, HBS.out, HST.out.1, HST.out.2, hbl2.setCell (p := ⟨w.heap.size, i + lb, none⟩) (Nat.le_refl _) _⟩
      case measure => simp [intOf]; omega
    · obtain rfl : la = i := by omega
      go_wp2
      go_ret
      refine ⟨_, ws, rfl, HO.out, by rw [← HL.out]; exact hn3, HB.out, ?_, hbl⟩
      have := HV.out
      rw [← hla, List.take_length] at this
      exact this
end Go.Proofs.YtflmgdfcgggmbaaDoor
