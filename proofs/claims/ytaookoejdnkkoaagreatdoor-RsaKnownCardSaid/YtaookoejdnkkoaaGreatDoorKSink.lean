import Derived.Test.YtaookoejdnkkoaaGreatDoorKWa
namespace Go.Proofs.YtaookoejdnkkoaaGreatDoor
open Go.RowKit

theorem wrap_shl (x r : Nat) : IntKind.u64.wrap ((x : Int) * 2 ^ r) = ((x * 2 ^ r % 18446744073709551616 : Nat) : Int) := by
  rw [IntKind.wrap_u64, show (x : Int) * 2 ^ r = ((x * 2 ^ r : Nat) : Int) by simp]; omega
theorem shl_low (x r : Nat) (hr : r ≤ 64) : x * 2 ^ r % 18446744073709551616 = 2 ^ r * (x % 2 ^ (64 - r)) := by
  have e : (18446744073709551616 : Nat) = 2 ^ r * 2 ^ (64 - r) := by rw [← Nat.pow_add, show r + (64 - r) = 64 by omega]
  rw [e, Nat.mul_comm x, Nat.mul_mod_mul_left]
theorem shl_split (x r : Nat) (hr : r ≤ 64) : x * 2 ^ r = x * 2 ^ r % 18446744073709551616 + 18446744073709551616 * (x / 2 ^ (64 - r)) := by
  rw [shl_low x r hr]
  have e : (18446744073709551616 : Nat) = 2 ^ r * 2 ^ (64 - r) := by rw [← Nat.pow_add, show r + (64 - r) = 64 by omega]
  rw [e, Nat.mul_assoc, ← Nat.mul_add, Nat.mod_add_div, Nat.mul_comm]
theorem or_low (y x r : Nat) (hr : r ≤ 64) (hy : y < 2 ^ r) : bits BinOp.or IntKind.u64 (y : Int) ((x * 2 ^ r % 18446744073709551616 : Nat) : Int) = ((y + x * 2 ^ r % 18446744073709551616 : Nat) : Int) ∧ y + x * 2 ^ r % 18446744073709551616 < 18446744073709551616 := by
  have e : (18446744073709551616 : Nat) = 2 ^ r * 2 ^ (64 - r) := by rw [← Nat.pow_add, show r + (64 - r) = 64 by omega]
  have hb : 2 ^ r * (x % 2 ^ (64 - r)) + 2 ^ r ≤ 18446744073709551616 := by
    rw [e, ← Nat.mul_succ]
    exact Nat.mul_le_mul_left _ (Nat.mod_lt _ (Nat.two_pow_pos _))
  rw [shl_low x r hr]
  generalize x % 2 ^ (64 - r) = m at *
  have h1 : (BitVec.ofInt 64 (y : Int)).toNat = y := by
    rw [BitVec.ofInt_natCast, BitVec.toNat_ofNat]; exact Nat.mod_eq_of_lt (by omega)
  have h2 : (BitVec.ofInt 64 ((2 ^ r * m : Nat) : Int)).toNat = 2 ^ r * m := by
    rw [BitVec.ofInt_natCast, BitVec.toNat_ofNat]; exact Nat.mod_eq_of_lt (by have := Nat.two_pow_pos r; omega)
  refine ⟨?_, by omega⟩
  show IntKind.u64.wrap ((BitVec.ofInt 64 (y : Int) ||| BitVec.ofInt 64 ((2 ^ r * m : Nat) : Int)).toNat : Int) = _
  rw [BitVec.toNat_or, h1, h2, Nat.or_comm, ← Nat.two_pow_add_eq_or_of_lt hy, IntKind.wrap_u64]
  omega
theorem shr_top (x r : Nat) (hx : x < 18446744073709551616) (hr : r < 64) : x / 2 ^ (64 - r) < 2 ^ r := by
  rw [Nat.div_lt_iff_lt_mul (Nat.two_pow_pos _), ← Nat.pow_add, show r + (64 - r) = 64 by omega]; exact hx
theorem lift_step {ws xs : List Nat} {i k p x y r s lo t : Nat} (hi : i < xs.length) (hx : at0 xs i = x) (h4 : x * 2 ^ r = lo + 18446744073709551616 * t) (hs : s = 64 * k + r) (hp : p = i + k) (hy : at0 ws p = y) (hw : p + 1 < ws.length) (hz : at0 ws (p + 1) = 0)
    (hv : val ws = val (xs.take i) * 2 ^ s) : val ((ws.set p (y + lo)).set (p + 1) t) = val (xs.take (i + 1)) * 2 ^ s := by
  have h1 := set_val (ws := ws) (q := p) (y := y + lo) (by omega)
  have h2 := set_val (ws := ws.set p (y + lo)) (q := p + 1) (y := t) (by simp; omega)
  have h3 : at0 (ws.set p (y + lo)) (p + 1) = 0 := by rw [at0_set (by omega), if_neg (by omega)]; exact hz
  rw [h3, Nat.mul_zero, Nat.add_zero] at h2
  rw [hy] at h1
  rw [h2, take_val_snoc hi, hx, Nat.add_mul, ← hv]
  have h5 : 18446744073709551616 ^ p * (x * 2 ^ r) = 18446744073709551616 ^ i * x * 2 ^ s := by
    rw [hp, hs, Nat.pow_add, Nat.pow_add, Nat.pow_mul, show (2 : Nat) ^ 64 = 18446744073709551616 from rfl]
    simp only [Nat.mul_assoc, Nat.mul_comm, Nat.mul_left_comm]
  rw [← h5, h4, Nat.mul_add, Nat.pow_succ, Nat.mul_assoc]
  rw [Nat.mul_add] at h1
  omega
set_option maxHeartbeats 1000000 in
set_option maxRecDepth 100000 in
theorem lift_any (a : Option Addr) (la ca k r : Nat) (xs : List Nat) (w : World) (hla : xs.length = la) (hba : la ≤ 1048576) (hk : k ≤ 1048576) (hr : r < 64) (hra : Rd .u64 w a xs) (bx : Bd xs) :
    Calls Tryz.prog 223 #[.slice a la ca, .int .i64 (64 * k + r : Nat)] w fun e w' => ∃ v ws, e = .returned v ∧ own64 w' w.heap.size v ws ∧ ws.length = la + k + 1 ∧ Bd ws ∧ val ws = val xs * 2 ^ (64 * k + r) ∧ Below w.heap.size w w' := by
  obtain ⟨n, hn⟩ : ∃ n, n = la + k + 1 := ⟨_, rfl⟩
  obtain ⟨s, hs⟩ : ∃ s, s = 64 * k + r := ⟨_, rfl⟩
  rw [← hs]
  have rk : (s : Int).tdiv 64 = (k : Int) := by rw [Int.tdiv_eq_ediv_of_nonneg (by omega)]; omega
  have rr : (s : Int).tmod 64 = (r : Int) := by rw [Int.tmod_eq_emod_of_nonneg (by omega)]; omega
  have rn : (la : Int) + (k : Int) + 1 = (n : Int) := by omega
  go_enter Tryz.func223, Tryz.ntmps223
  have HN := Lib.hid hn
  have HS := Lib.hid hs
  have hn2 : n ≤ 2097153 := by omega
  clear hn hs
  go_wp2_with (at_make; refine wpl_make64 rfl _ _ rfl w.heap.size _ _ _ _ n rfl rfl rfl rfl (by omega) (Nat.le_refl _) ?_)
  intro w1 hown hbl hsz
  have HO := Lib.hid hown
  clear hown
  go_wp2
  go_loopw [22] (fun iv wr => ∃ (i : Nat) (ws : List Nat), i ≤ la ∧ iv = .int .i64 i ∧ Hid (own64 wr w.heap.size (.slice (some ⟨w.heap.size, 0, none⟩) n n) ws) ∧ Hid (Bd ws) ∧ Hid (val ws = val (xs.take i) * 2 ^ s) ∧ Hid (∀ j, i + k < j → at0 ws j = 0) ∧ Hid (at0 ws (i + k) < 2 ^ r) ∧ Hid (Below w.heap.size w wr)) (fun iv _ => la - (intOf iv).toNat)
  case atStart =>
    have hz : ∀ j, at0 (List.replicate n 0) j = 0 := fun j => by
      unfold at0 List.getD
      by_cases hj : j < n
      · simp [hj]
      · simp [hj]
    exact ⟨0, _, Nat.zero_le _, rfl, HO, (fun x hx => by rw [List.eq_of_mem_replicate hx]; decide), by show _ = _; rw [val_replicate]; simp [val], (fun j _ => hz j), by show _ < _; rw [hz]; exact Nat.two_pow_pos _, hbl⟩
  case round =>
    clear HO hbl
    obtain ⟨i, ws, hi, rfl, HO, HB, HV, HZ, HT, hbl⟩ := hrel
    have HL : Hid (n = ws.length) := (own64.rd HO.out).1
    have hn3 : n = la + k + 1 := HN.out
    by_cases hlt : i < la
    · obtain ⟨ba, oa, rfl⟩ := hra.isAt (by omega)
      have hc1 := below_cell hbl.out _ _ (hra.cell (i := i) (by omega))
      have hx64 := bx.at0 i
      obtain ⟨x, hx0⟩ : ∃ x, at0 xs i = x := ⟨_, rfl⟩
      rw [hx0] at hc1 hx64
      obtain ⟨p, hp⟩ : ∃ p, p = i + k := ⟨_, rfl⟩
      have rp : (i : Int) + (k : Int) = (p : Int) := by omega
      have hpn : p + 1 < n := by omega
      have hc2 := HO.out.cell (j := p) (by rw [← HL.out]; omega)
      have hf2 := HO.out.free p
      have hf3 := HO.out.free (p + 1)
      have hc3 := HO.out.cell (j := p + 1) (by rw [← HL.out]; omega)
      obtain ⟨y, hy0⟩ : ∃ y, at0 ws p = y := ⟨_, rfl⟩
      rw [hy0] at hc2
      have hy : y < 2 ^ r := by rw [← hy0, hp]; exact HT.out
      have HX := Lib.hid hx0
      have HY := Lib.hid hy0
      have HP := Lib.hid hp
      have HN3 := Lib.hid hn3
      have hm : ((64 : Int) - (r : Int)) = ((64 - r : Nat) : Int) := by omega
      clear hx0 hy0 hra hp hn3
      have e1 : IntKind.u64.wrap ((x : Int) * 2 ^ r) = ((x * 2 ^ r % 18446744073709551616 : Nat) : Int) := wrap_shl x r
      obtain ⟨e2, e3⟩ := or_low y x r (Nat.le_of_lt hr) hy
      have HT2 := Lib.hid (shr_top x r hx64 hr)
      obtain ⟨lo, hlo⟩ : ∃ lo, lo = x * 2 ^ r % 18446744073709551616 := ⟨_, rfl⟩
      obtain ⟨t, ht⟩ : ∃ t, t = x / 2 ^ (64 - r) := ⟨_, rfl⟩
      have e4 : (x : Int) / 2 ^ (64 - r) = (t : Int) := by rw [ht]; simp
      rw [← hlo] at e1 e2 e3
      rw [← ht] at HT2
      obtain ⟨z, hz⟩ : ∃ z, z = y + lo := ⟨_, rfl⟩
      rw [← hz] at e2 e3
      have HLO := Lib.hid hlo
      have HTT := Lib.hid ht
      have HZZ := Lib.hid hz
      have HR := Lib.hid hr
      clear hlo ht hz hy
      go_wp2_with fail
      go_region
      go_wp2
      go_roundw
      case rel =>
        have hL : p + 1 < ws.length := by rw [← HL.out]; omega
        have h4 := shl_split x r (Nat.le_of_lt HR.out)
        rw [← HLO.out, ← HTT.out] at h4
        have hv := lift_step (by omega) HX.out h4 HS.out HP.out HY.out hL (HZ.out _ (by have := HP.out; omega)) HV.out
        rw [← HZZ.out] at hv
        have ht64 : t < 18446744073709551616 := Nat.lt_of_lt_of_le HT2.out (Nat.pow_le_pow_right (by decide) (Nat.le_of_lt HR.out))
        refine ⟨i + 1, (ws.set p z).set (p + 1) t, by omega, by go_num, (HO.out.set p z).set (p + 1) t, (HB.out.set e3).set ht64, hv, ?_, ?_, (hbl.out.setCell (p := ⟨w.heap.size, p, none⟩) (Nat.le_refl _) _).drew.setCell (p := ⟨w.heap.size, p + 1, none⟩) (Nat.le_refl _) _⟩
        · intro j hj
          have hp := HP.out
          rw [at0_set (by simp; omega), if_neg (by omega), at0_set (by omega), if_neg (by omega)]
          exact HZ.out j (by omega)
        · show _ < _
          have hp := HP.out
          rw [show i + 1 + k = p + 1 by omega, at0_set (by simp; omega), if_pos rfl]
          exact HT2.out
      case measure => simp [intOf]; omega
    · obtain rfl : i = la := by omega
      have hq : decide (i < i) = false := by simp
      go_wp2
      go_ret
      refine ⟨_, ws, rfl, HO.out, by rw [← HL.out]; exact HN.out, HB.out, ?_, hbl.out⟩
      have := HV.out
      rw [List.take_of_length_le (by omega)] at this
      exact this

theorem val_digits {zs : List Nat} {V : Nat} (h : ∀ q, q < zs.length → at0 zs q = V / 18446744073709551616 ^ q % 18446744073709551616) : ∀ m, m ≤ zs.length → val (zs.take m) = V % 18446744073709551616 ^ m := by
  intro m
  induction m with
  | zero => intro _; simp [val, Nat.mod_one]
  | succ m ih =>
    intro hm
    rw [take_val_snoc (by omega), ih (by omega), h m (by omega), Nat.pow_succ, Nat.mod_mul]
/-- A limb of what is moved down. -/
theorem sink_digit {xs : List Nat} {k r q x x1 : Nat} (bx : Bd xs) (hr : r < 64) (h : k + q < xs.length) (hx : at0 xs (k + q) = x) (hx1 : at0 xs (k + q + 1) = x1) :
    val xs / 2 ^ (64 * k + r) / 18446744073709551616 ^ q % 18446744073709551616 = x / 2 ^ r + x1 * 2 ^ (64 - r) % 18446744073709551616 := by
  have e : (18446744073709551616 : Nat) = 2 ^ r * 2 ^ (64 - r) := by rw [← Nat.pow_add, show r + (64 - r) = 64 by omega]
  have hd : val xs / 18446744073709551616 ^ (k + q) = val (xs.drop (k + q)) := by
    have h1 := val_at xs (k + q) h
    have h2 := val_lt (bx.take (k + q))
    rw [List.length_take, Nat.min_eq_left (by omega)] at h2
    rw [h1, drop_val h, Nat.add_comm, Nat.mul_add_div (Nat.pow_pos (by decide)), Nat.div_eq_of_lt h2, Nat.add_zero]
  have h3 : val xs / 2 ^ (64 * k + r) / 18446744073709551616 ^ q = val (xs.drop (k + q)) / 2 ^ r := by
    rw [← hd, Nat.div_div_eq_div_mul, Nat.div_div_eq_div_mul, Nat.pow_add, Nat.pow_mul, show (2 : Nat) ^ 64 = 18446744073709551616 from rfl, Nat.pow_add]
    congr 1
    simp only [Nat.mul_assoc, Nat.mul_comm]
  rw [h3, drop_val h, hx]
  have hy : ∃ u, val (xs.drop (k + q + 1)) = x1 + 18446744073709551616 * u := by
    by_cases h4 : k + q + 1 < xs.length
    · exact ⟨_, by rw [drop_val h4, hx1]⟩
    · refine ⟨0, ?_⟩
      rw [List.drop_of_length_le (by omega), ← hx1]
      unfold at0 List.getD
      rw [List.getElem?_eq_none (by omega)]
      rfl
  obtain ⟨u, hu⟩ := hy
  rw [hu, shl_low x1 (64 - r) (by omega), show 64 - (64 - r) = r by omega]
  have h5 : x + 18446744073709551616 * (x1 + 18446744073709551616 * u) = 2 ^ r * (2 ^ (64 - r) * (x1 + 18446744073709551616 * u)) + x := by
    rw [← Nat.mul_assoc, ← e, Nat.add_comm]
  rw [h5, Nat.mul_add_div (Nat.two_pow_pos _)]
  have hx64 : x < 18446744073709551616 := by rw [← hx]; exact bx.at0 _
  have h6 : x / 2 ^ r < 2 ^ (64 - r) := by
    rw [Nat.div_lt_iff_lt_mul (Nat.two_pow_pos _), Nat.mul_comm, ← e]; exact hx64
  have h7 : x1 + 18446744073709551616 * u = 2 ^ r * (x1 / 2 ^ r + 2 ^ (64 - r) * u) + x1 % 2 ^ r := by
    rw [Nat.mul_add, ← Nat.mul_assoc, ← e]
    have := Nat.div_add_mod x1 (2 ^ r)
    omega
  rw [h7, Nat.mul_add, ← Nat.mul_assoc, Nat.mul_comm (2 ^ (64 - r)) (2 ^ r), ← e, Nat.add_assoc, Nat.mul_add_mod]
  have hm : x1 % 2 ^ r < 2 ^ r := Nat.mod_lt _ (Nat.two_pow_pos _)
  have h8 : 2 ^ (64 - r) * (x1 % 2 ^ r) + 2 ^ (64 - r) ≤ 18446744073709551616 := by
    rw [e, Nat.mul_comm (2 ^ r), ← Nat.mul_succ]
    exact Nat.mul_le_mul_left _ hm
  rw [Nat.mod_eq_of_lt (by omega), Nat.add_comm]

/-- What sinking leaves: all but its own block. -/
structure Sunk (S : Nat → Prop) (B : Nat) (w w' : World) : Prop where
  below : Below B w w'
  chg : Chg S w w'
theorem Sunk.refl (S : Nat → Prop) (B : Nat) (w : World) : Sunk S B w w := ⟨Below.refl _ _, Chg.refl _ _⟩
theorem Sunk.setCell {S : Nat → Prop} {B : Nat} {a w : World} (h : Sunk S B a w) {p : Addr} (hp : B ≤ p.block) (hs : S p.block) (u : Value) : Sunk S B a (w.setCell p u) := ⟨h.below.setCell hp u, h.chg.setCell hs u⟩

set_option maxHeartbeats 1000000 in
set_option maxRecDepth 100000 in
theorem sink_keep (S : Nat → Prop) (a : Option Addr) (la ca k r B : Nat) (xs : List Nat) (w : World) (hS : ∀ q, (Value.slice a la ca).ownBlock = some q → S q) (hla : xs.length = la) (hba : la ≤ 1099511627776) (hk : k ≤ 1099511627776) (hr : r < 64) (bx : Bd xs) (ho : own64 w B (.slice a la ca) xs) :
    Calls Tryz.prog 225 #[.slice a la ca, .int .i64 (64 * k + r : Nat)] w fun e w' => ∃ v zs, e = .returned v ∧ own64 w' B v zs ∧ Num zs (val xs / 2 ^ (64 * k + r)) ∧ Sunk S B w w' ∧ (∀ q, v.ownBlock = some q → S q) := by
  obtain ⟨s, hs⟩ : ∃ s, s = 64 * k + r := ⟨_, rfl⟩
  rw [← hs]
  have rk : (s : Int).tdiv 64 = (k : Int) := by rw [Int.tdiv_eq_ediv_of_nonneg (by omega)]; omega
  have rr : (s : Int).tmod 64 = (r : Int) := by rw [Int.tmod_eq_emod_of_nonneg (by omega)]; omega
  have HS := Lib.hid hs
  go_enter Tryz.func225, Tryz.ntmps225
  clear hs
  by_cases hbig : la ≤ k
  · have hz : Hid (val xs / 2 ^ s = 0) := by
      show _ = _
      refine Nat.div_eq_of_lt (Nat.lt_of_lt_of_le (val_lt bx) ?_)
      rw [hla, HS.out, pow_64]
      exact Nat.pow_le_pow_right (by decide) (by omega)
    go_wp2
    go_ret
    refine ⟨_, [], rfl, own64_nil _ _, ?_, Sunk.refl _ _ _, fun q hq => by cases hq⟩
    rw [hz.out]; exact Num.nil
  · have hkl : k < la := by omega
    have hq : decide (la ≤ k) = false := by simp; omega
    clear hbig
    obtain ⟨g, c, hga, hBg, hgl⟩ := own64.isAt ho (by omega)
    obtain ⟨rfl, rfl, rfl⟩ : a = some ⟨g, 0, none⟩ ∧ la = xs.length ∧ ca = c := by simpa using hga
    clear hga
    have hSg : S g := hS g rfl
    clear hS
    obtain ⟨n, hn⟩ : ∃ n, n = xs.length := ⟨_, rfl⟩
    rw [← hn] at ho hba hkl hq ⊢
    have HLN := Lib.hid hn
    have HO := Lib.hid ho
    clear hn ho hla
    go_wp2
    go_loopw [7] (fun iv wr => ∃ (j : Nat) (ws : List Nat), k + j ≤ n ∧ iv = .int .i64 (k + j : Nat) ∧ Hid (own64 wr B (.slice (some ⟨g, 0, none⟩) n ca) ws) ∧ Hid (Bd ws) ∧ Hid (∀ q, j ≤ q → at0 ws q = at0 xs q) ∧ Hid (∀ q, q < j → at0 ws q = val xs / 2 ^ s / 18446744073709551616 ^ q % 18446744073709551616) ∧ Hid (Sunk S B w wr)) (fun iv _ => n - (intOf iv).toNat)
    case atStart => exact ⟨0, xs, by omega, rfl, HO, bx, (fun _ _ => rfl), (fun q hq => by omega), Sunk.refl _ _ _⟩
    case round =>
      clear HO
      obtain ⟨j, ws, hj, rfl, HO, HB, HX, HD, hbl⟩ := hrel
      have HL : Hid (n = ws.length) := (own64.rd HO.out).1
      obtain ⟨p, hp⟩ : ∃ p, p = k + j := ⟨_, rfl⟩
      rw [← hp] at hj ⊢
      have HP := Lib.hid hp
      by_cases hlt : p < n
      · have rj : (p : Int) - (k : Int) = (j : Int) := by omega
        have hc1 := HO.out.cell (j := p) (by rw [← HL.out]; omega)
        rw [HX.out p (by omega)] at hc1
        have hf1 := HO.out.free j
        have hc3 := HO.out.cell (j := j) (by rw [← HL.out]; omega)
        rw [HX.out j (Nat.le_refl _)] at hc3
        have hjn : j < n := by omega
        obtain ⟨x, hx⟩ : ∃ x, at0 xs p = x := ⟨_, rfl⟩
        rw [hx] at hc1
        have hx64 := bx.at0 p
        rw [hx] at hx64
        obtain ⟨x1, hx1⟩ : ∃ x1, at0 xs (p + 1) = x1 := ⟨_, rfl⟩
        have hD := sink_digit (r := r) (k := k) (q := j) (x := x) (x1 := x1) bx hr (by have := HLN.out; omega) (by rw [← hp, hx]) (by rw [← hp, hx1])
        obtain ⟨t, ht⟩ : ∃ t, t = x / 2 ^ r := ⟨_, rfl⟩
        have e1 : (x : Int) / 2 ^ r = (t : Int) := by rw [ht]; simp
        have ht2 : t < 2 ^ (64 - r) := by
          have e : (18446744073709551616 : Nat) = 2 ^ r * 2 ^ (64 - r) := by rw [← Nat.pow_add, show r + (64 - r) = 64 by omega]
          rw [ht, Nat.div_lt_iff_lt_mul (Nat.two_pow_pos _), Nat.mul_comm, ← e]; exact hx64
        rw [← ht, ← HS.out] at hD
        have e2 := wrap_shl x1 (64 - r)
        obtain ⟨e3, e4⟩ := or_low t x1 (64 - r) (by omega) ht2
        obtain ⟨lo, hlo⟩ : ∃ lo, lo = x1 * 2 ^ (64 - r) % 18446744073709551616 := ⟨_, rfl⟩
        rw [← hlo] at hD e2 e3 e4
        obtain ⟨z, hz⟩ : ∃ z, z = t + lo := ⟨_, rfl⟩
        rw [← hz] at hD e3 e4
        have HDD := Lib.hid hD
        have HZ := Lib.hid hz
        have HLO := Lib.hid hlo
        have HR := Lib.hid hr
        have hm : ((64 : Int) - (r : Int)) = ((64 - r : Nat) : Int) := by omega
        have ht64 : t < 18446744073709551616 := by have h : 2 ^ (64 - r) ≤ 2 ^ 64 := Nat.pow_le_pow_right (by decide) (by omega); omega
        have e5 : z < 18446744073709551616 := e4
        clear hD hz hlo ht ht2 hx hp
        have rel : ∀ wr', Hid (own64 wr' B (.slice (some ⟨g, 0, none⟩) n ca) (ws.set j z)) → Hid (Sunk S B w wr') → ∃ (j' : Nat) (ws' : List Nat), k + j' ≤ n ∧ Value.int .i64 ((p : Int) + 1) = .int .i64 (k + j' : Nat) ∧ Hid (own64 wr' B (.slice (some ⟨g, 0, none⟩) n ca) ws') ∧ Hid (Bd ws') ∧ Hid (∀ q, j' ≤ q → at0 ws' q = at0 xs q) ∧ Hid (∀ q, q < j' → at0 ws' q = val xs / 2 ^ s / 18446744073709551616 ^ q % 18446744073709551616) ∧ Hid (Sunk S B w wr') := by
          intro wr' ho hb
          have hp := HP.out
          have hL : j < ws.length := by rw [← HL.out]; exact hjn
          refine ⟨j + 1, ws.set j z, by omega, by congr 1; omega, ho, HB.out.set e5, ?_, ?_, hb⟩
          · intro q hq
            rw [at0_set hL, if_neg (by omega)]
            exact HX.out q (by omega)
          · intro q hq
            rw [at0_set hL]
            by_cases e : j = q
            · subst e; rw [if_pos rfl]; exact HDD.out.symm
            · rw [if_neg e]; exact HD.out q (by omega)
        have REL := Lib.hid rel
        clear rel
        by_cases hl1 : p + 1 < n
        · have hc2 := HO.out.cell (j := p + 1) (by rw [← HL.out]; omega)
          rw [HX.out (p + 1) (by have := HP.out; omega), hx1] at hc2
          have HX1 := Lib.hid hx1
          clear hx1
          have hq2 : decide ((p : Int) + 1 < (n : Int)) = true := by simp; omega
          go_wp2
          go_roundw
          case rel => exact REL.out _ (HO.out.set j z) (hbl.out.setCell (p := ⟨g, j, none⟩) hBg hSg _)
          case measure => simp [intOf]; omega
        · have h0 : x1 = 0 := by
            rw [← hx1]
            unfold at0 List.getD
            rw [List.getElem?_eq_none (by rw [← HLN.out]; omega)]; rfl
          have hzt : z = t := by rw [HZ.out, HLO.out, h0, Nat.zero_mul]; rfl
          clear e3
          have HX1 := Lib.hid hx1
          clear hx1 h0
          subst hzt
          have hq2 : decide ((p : Int) + 1 < (n : Int)) = false := by simp; omega
          go_wp2
          go_roundw
          case rel => exact REL.out _ (HO.out.set j z) (hbl.out.setCell (p := ⟨g, j, none⟩) hBg hSg _)
          case measure => simp [intOf]; omega
      · have hq2 : decide (p < n) = false := by simp; omega
        have rm : (n : Int) - (k : Int) = (j : Int) := by omega
        have hroom := (own64.room HO.out).1
        have hjn : j ≤ n := by omega
        have HJ : Hid (n = k + j) := by show _ = _; omega
        have hrd := Rd.take (own64.rd HO.out).2 j
        have e1 : Hid ((ws.take j).length = j) := by show _ = _; rw [List.length_take, ← HL.out]; omega
        have hv : Hid (val (ws.take j) = val xs / 2 ^ s) := by
          show _ = _
          have h1 := val_digits (zs := ws.take j) (V := val xs / 2 ^ s) (fun q hq => by rw [e1.out] at hq; rw [at0_take hq]; exact HD.out q hq) j (by rw [e1.out]; exact Nat.le_refl _)
          rw [List.take_of_length_le (by rw [e1.out]; exact Nat.le_refl _)] at h1
          rw [h1]
          refine Nat.mod_eq_of_lt (Nat.div_lt_of_lt_mul ?_)
          have h2 := val_lt bx
          rw [← HLN.out, HJ.out, Nat.pow_add] at h2
          refine Nat.lt_of_lt_of_le h2 (Nat.mul_le_mul_right _ ?_)
          rw [HS.out, pow_64]
          exact Nat.pow_le_pow_right (by decide) (by omega)
        have hba2 : j ≤ 1099511627776 := by omega
        have hjc : j ≤ ca := by omega
        clear hj HP hp
        go_wp2_with fail
        refine (form_any (some ⟨g, 0, none⟩) j ca (ws.take j) _ e1.out hba2 hjc hrd).mono ?_
        rintro e w2 ⟨⟨a', c', rfl, g1, g2⟩, rfl⟩
        have G1 := Lib.hid g1
        have G2 := Lib.hid g2
        clear g1 g2 hrd
        go_wp2
        go_ret
        have hnum := num_fm (HB.out.take j)
        rw [hv.out] at hnum
        have hfl := (fl_spec (ws.take j)).1
        rw [e1.out] at hfl
        have hown := own64_take HO.out (k := fl (ws.take j)) (by rw [← HL.out]; omega) G1.out G2.out
        rw [show ws.take (fl (ws.take j)) = fm (ws.take j) by rw [fm, List.take_take, Nat.min_eq_left hfl]] at hown
        refine ⟨_, _, rfl, hown, hnum, hbl.out, fun q hq => ?_⟩
        rcases Nat.eq_zero_or_pos (fl (ws.take j)) with h0 | h0
        · rw [(G2.out h0).1] at hq; cases hq
        · rw [(G1.out h0).1] at hq; cases hq; exact hSg
end Go.Proofs.YtaookoejdnkkoaaGreatDoor
