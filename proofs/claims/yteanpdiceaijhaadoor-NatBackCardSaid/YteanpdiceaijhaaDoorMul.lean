import Derived.Test.YteanpdiceaijhaaDoorRFrom
namespace Go.Proofs.YteanpdiceaijhaaDoor
open Go.RowKit

/-- What 'both' hands on of a number: its form. -/
def FormOf (a : Option Addr) (cap n : Nat) (a' : Option Addr) (c' : Nat) : Prop := (0 < n → a' = a ∧ c' = cap) ∧ (n = 0 → a' = none ∧ c' = 0)
theorem FormOf.rd {k : IntKind} {w : World} {a a' : Option Addr} {cap n c' : Nat} {xs : List Nat} (h : FormOf a cap n a' c') (hr : Rd k w a xs) (hn : n ≤ xs.length) : Rd k w a' (xs.take n) := by
  rcases Nat.eq_zero_or_pos n with rfl | hp
  · rw [List.take_zero]; exact Rd.nil _ _ _
  · rw [(h.1 hp).1]; exact hr.take n
theorem FormOf.cap {a a' : Option Addr} {cap n c' len : Nat} (h : FormOf a cap n a' c') (hc : len ≤ cap) (hn : n ≤ len) : n ≤ c' ∧ (a' = none → c' = 0 ∨ a = none) := by
  rcases Nat.eq_zero_or_pos n with rfl | hp
  · exact ⟨Nat.zero_le _, fun _ => .inl (h.2 rfl).2⟩
  · obtain ⟨rfl, rfl⟩ := h.1 hp
    exact ⟨by omega, fun e => .inr e⟩

def BothPost (a b : Option Addr) (ca cb : Nat) (xs ys : List Nat) (w : World) (e : Ending) (w' : World) : Prop :=
  ((fl xs ≤ 128 ∧ fl ys ≤ 128 ∧ ∃ a' c' b' d', e = .returned (.tuple #[.slice a' (fl xs) c', .slice b' (fl ys) d', .int .i64 0]) ∧ FormOf a ca (fl xs) a' c' ∧ FormOf b cb (fl ys) b' d') ∨
   ((128 < fl xs ∨ 128 < fl ys) ∧ e = .returned (.tuple #[.slice none 0 0, .slice none 0 0, .int .i64 3]))) ∧ w = w'

set_option maxHeartbeats 1000000 in
theorem both_any (a b : Option Addr) (la lb ca cb : Nat) (xs ys : List Nat) (w : World) (hla : xs.length = la) (hlb : ys.length = lb) (hba : la ≤ 1099511627776) (hbb : lb ≤ 1099511627776) (hca : la ≤ ca) (hcb : lb ≤ cb)
    (hra : Rd .u64 w a xs) (hrb : Rd .u64 w b ys) :
    Calls Tryd.prog 70 #[.slice a la ca, .slice b lb cb] w (BothPost a b ca cb xs ys w) := by
  have hfa := (fl_spec xs).1
  have hfb := (fl_spec ys).1
  go_enter Tryd.func70, Tryd.ntmps70
  go_wp2_with fail
  refine (one_any a la ca xs _ hla hba hca hra).mono ?_
  rintro e w1 ⟨hor, rfl⟩
  rcases hor with ⟨h1, a', c', rfl, g1, g2⟩ | ⟨h1, rfl⟩
  · have G1 := Lib.hid g1
    have G2 := Lib.hid g2
    clear g1 g2
    go_wp2_with fail
    refine (one_any b lb cb ys _ hlb hbb hcb hrb).mono ?_
    rintro e w1 ⟨hor, rfl⟩
    rcases hor with ⟨h2, b', d', rfl, k1, k2⟩ | ⟨h2, rfl⟩
    · have K1 := Lib.hid k1
      have K2 := Lib.hid k2
      clear k1 k2
      go_wp2
      go_ret3
      exact ⟨.inl ⟨h1, h2, a', c', b', d', rfl, ⟨G1.out, G2.out⟩, ⟨K1.out, K2.out⟩⟩, rfl⟩
    · go_wp2
      go_ret3
      exact ⟨.inr ⟨.inr h2, rfl⟩, rfl⟩
  · go_wp2
    go_ret3
    exact ⟨.inr ⟨.inl h1, rfl⟩, rfl⟩

/-- How many bits. -/
def BitsIs (n k : Nat) : Prop := (n = 0 ∧ k = 0) ∨ (0 < k ∧ 2 ^ (k - 1) ≤ n ∧ n < 2 ^ k)
def BitsPost (xs : List Nat) (w : World) (e : Ending) (w' : World) : Prop := (∃ k : Nat, e = .returned (.int .i64 (k : Nat)) ∧ BitsIs (val xs) k ∧ k ≤ 64 * fl xs) ∧ w = w'
theorem pow_64 (n : Nat) : (18446744073709551616 : Nat) ^ n = 2 ^ (64 * n) := by rw [Nat.pow_mul]

set_option maxHeartbeats 1000000 in
set_option maxRecDepth 100000 in
theorem bits_any (a : Option Addr) (la ca : Nat) (xs : List Nat) (w : World) (hla : xs.length = la) (hba : la ≤ 1099511627776) (hca : la ≤ ca) (hra : Rd .u64 w a xs) (bx : Bd xs) :
    Calls Tryd.prog 33 #[.slice a la ca] w (BitsPost xs w) := by
  have hfa := (fl_spec xs).1
  go_enter Tryd.func33, Tryd.ntmps33
  go_wp2_with fail
  refine (form_any a la ca xs _ hla hba hca hra).mono ?_
  rintro e w1 ⟨⟨a', c', rfl, g1, g2⟩, rfl⟩
  by_cases h0 : fl xs = 0
  · have hq : ((fl xs : Int) == 0) = true := by simp; omega
    have H0 := Lib.hid h0
    clear g1 g2 h0
    go_wp2
    go_ret
    refine ⟨⟨0, rfl, .inl ⟨?_, rfl⟩, Nat.zero_le _⟩, rfl⟩
    rw [← fm_val, fm, H0.out]; rfl
  · obtain ⟨rfl, rfl⟩ := g1 (by omega)
    obtain ⟨b, off, rfl⟩ := hra.isAt (by omega)
    obtain ⟨m, hm⟩ : ∃ m, fl xs = m + 1 := ⟨fl xs - 1, by omega⟩
    have hc1 := hra.cell (i := m) (by omega)
    have htop : at0 xs m ≠ 0 := by have := (fl_spec xs).2.2 (by omega); rw [hm, Nat.add_sub_cancel] at this; exact this
    have hb1 := bx.at0 m
    have HV : Hid (val xs = val ((fm xs).take m) + 18446744073709551616 ^ m * at0 xs m) := by
      show _ = _
      rw [← fm_val xs, val_at (fm xs) m (by rw [fm_length]; omega), List.drop_of_length_le (by rw [fm_length]; omega)]
      simp only [val, Nat.mul_zero, Nat.add_zero]
      rw [fm, at0_take (by omega)]
    have HL : Hid (val ((fm xs).take m) < 18446744073709551616 ^ m) := by
      have := val_lt ((fm_bd bx).take m)
      rw [List.length_take, fm_length, Nat.min_eq_left (by omega)] at this
      exact this
    have hq : ((fl xs : Int) == 0) = false := by simp; omega
    have hm1 : ((fl xs : Int) - 1) = (m : Int) := by omega
    have hmn : m < fl xs := by omega
    have HM := Lib.hid hm
    clear hm g1 g2 h0
    generalize at0 xs m = x at *
    have HX := Lib.hid htop
    clear htop
    go_wp2_with fail
    refine (Tryd.bits_Len64 (x : Int) _ (by omega) (by omega)).mono ?_
    rintro e w' ⟨rfl, hw⟩
    have hw2 := hw.symm
    subst hw2
    obtain ⟨b1, b2, b3⟩ := Lib.bitLenAux_bounds 64 x (by simpa using hb1) HX.out
    have hb : Lib.bitLenAux 64 x ≤ 64 := Lib.bitLenAux_le 64 x 64 (by simpa using hb1)
    have e1 : Lib.bitLen ((x : Int).toNat) = Lib.bitLenAux 64 x := rfl
    rw [e1]
    have B2 := Lib.hid b2
    have B3 := Lib.hid b3
    clear b2 b3 e1
    generalize Lib.bitLenAux 64 x = t at *
    go_wp2
    go_ret
    refine ⟨⟨64 * m + t, by congr 2, .inr ⟨by omega, ?_, ?_⟩, by omega⟩, rfl⟩
    · rw [HV.out, show 64 * m + t - 1 = 64 * m + (t - 1) by omega, Nat.pow_add, ← pow_64]
      have := Nat.mul_le_mul_left (18446744073709551616 ^ m) B2.out
      omega
    · rw [HV.out, Nat.pow_add, ← pow_64]
      have h1 : 18446744073709551616 ^ m * (x + 1) ≤ 18446744073709551616 ^ m * 2 ^ t := Nat.mul_le_mul_left _ B3.out
      rw [Nat.mul_add] at h1
      have := HL.out
      omega

/-- A list with a piece written over. -/
def spl (ws : List Nat) (off : Nat) (zs : List Nat) : List Nat := ws.take off ++ (zs ++ ws.drop (off + zs.length))
theorem spl_length {ws zs : List Nat} {off : Nat} (h : off + zs.length ≤ ws.length) : (spl ws off zs).length = ws.length := by simp [spl]; omega
theorem spl_at0_in {ws zs : List Nat} {off i : Nat} (h : off ≤ ws.length) (hi : i < zs.length) : at0 (spl ws off zs) (off + i) = at0 zs i := by
  have h1 : (ws.take off).length = off := by simp; omega
  have := at0_append_right (xs := ws.take off) (ys := zs ++ ws.drop (off + zs.length)) i
  rw [h1] at this
  rw [spl, this, at0_append_left hi]
theorem spl_at0_out {ws zs : List Nat} {off j : Nat} (h : off + zs.length ≤ ws.length) (hj : j < off ∨ off + zs.length ≤ j) : at0 (spl ws off zs) j = at0 ws j := by
  have h1 : (ws.take off).length = off := by simp; omega
  rcases hj with hj | hj
  · rw [spl, at0_append_left (by omega), at0_take hj]
  · obtain ⟨d, rfl⟩ : ∃ d, j = off + (zs.length + d) := ⟨j - off - zs.length, by omega⟩
    have h2 := at0_append_right (xs := ws.take off) (ys := zs ++ ws.drop (off + zs.length)) (zs.length + d)
    rw [h1] at h2
    rw [spl, h2, at0_append_right, at0_drop, Nat.add_assoc]
theorem Bd.spl {ws zs : List Nat} {off : Nat} (h : Bd ws) (hz : Bd zs) : Bd (spl ws off zs) := (h.take off).append (hz.append (h.drop _))
theorem sg_spl {cur : Array Value} {ws zs : List Nat} {off : Nat} (h : Sg cur 0 ws) (hl : off + zs.length ≤ ws.length) : Sg (putL cur off zs) 0 (spl ws off zs) := by
  have h1 := h.1
  refine ⟨by rw [putL_size (by omega), spl_length hl]; exact h1, fun i hi => ?_⟩
  rw [spl_length hl] at hi
  rw [Nat.zero_add]
  by_cases hj : i < off ∨ off + zs.length ≤ i
  · rw [putL_out (by omega) hj, spl_at0_out hl hj]
    have := h.2 i hi
    rwa [Nat.zero_add] at this
  · obtain ⟨d, rfl⟩ : ∃ d, i = off + d := ⟨i - off, by omega⟩
    rw [putL_in (by omega) (by omega), spl_at0_in (by omega) (by omega)]
theorem sg_piece {cur : Array Value} {ws : List Nat} {off n : Nat} (h : Sg cur 0 ws) (hl : off + n ≤ ws.length) : Sg cur off ((ws.drop off).take n) := by
  have h1 := h.1
  have hlen : ((ws.drop off).take n).length = n := by simp; omega
  refine ⟨by omega, fun i hi => ?_⟩
  rw [at0_take (by omega), at0_drop]
  have := h.2 (off + i) (by omega)
  rwa [Nat.zero_add] at this
theorem val_spl {ws zs : List Nat} {off : Nat} (hl : off + zs.length ≤ ws.length) : val (spl ws off zs) + 18446744073709551616 ^ off * val ((ws.drop off).take zs.length) = val ws + 18446744073709551616 ^ off * val zs := by
  have h1 := val_take_drop ws off (by omega)
  have h2 := val_take_drop (ws.drop off) zs.length (by simp; omega)
  rw [List.drop_drop] at h2
  rw [spl, val_append, val_append, List.length_take, Nat.min_eq_left (by omega), h1, h2]
  simp only [Nat.mul_add]
  omega
/-- A row's block, written over. -/
theorem own64.over {w' : World} {B g c off : Nat} {cur : Array Value} {ws zs : List Nat} (hB : B ≤ g) (hc : c ≤ maxLen) (hn : ws.length ≤ c) (hs : cur.size = c) (hz : Sg cur 0 ws) (hl : off + zs.length ≤ ws.length) (hb : Blk w' g (putL cur off zs)) :
    own64 w' B (.slice (some ⟨g, 0, none⟩) ws.length c) (spl ws off zs) := by
  have := own64_of_blk (B := B) (c := c) (zs := spl ws off zs) hb hB (by rw [spl_length hl]; exact hn) hc (by rw [putL_size (by have := hz.1; omega)]; exact hs) (sg_spl hz hl)
  rw [spl_length hl] at this
  exact this
end Go.Proofs.YteanpdiceaijhaaDoor
