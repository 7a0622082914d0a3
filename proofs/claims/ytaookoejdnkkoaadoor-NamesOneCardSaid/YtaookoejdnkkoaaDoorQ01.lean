import Derived.Test.YtaookoejdnkkoaaDoorQGB
import Derived.Laws.CopyOwn
import Derived.Shelf.RegionOpenPlain
import Derived.Deep.RegionHeld3
namespace Go.Proofs.YtaookoejdnkkoaaDoor
open Go.RowKit

def RTail (l : List Nat) (v : Value) : Prop := ∃ j : Nat, j ≤ l.length ∧ v = .int .i64 (j : Nat) ∧ bval (l.drop j) = bval l ∧ (at0 (l.drop j) 0 ≠ 0 ∨ l.drop j = [])

/-- What 'both' hands on of a number: its form. -/
def FormOf (a : Option Addr) (cap n : Nat) (a' : Option Addr) (c' : Nat) : Prop := (0 < n → a' = a ∧ c' = cap) ∧ (n = 0 → a' = none ∧ c' = 0)
theorem FormOf.rd {k : IntKind} {w : World} {a a' : Option Addr} {cap n c' : Nat} {xs : List Nat} (h : FormOf a cap n a' c') (hr : Rd k w a xs) (hn : n ≤ xs.length) : Rd k w a' (xs.take n) := by
  rcases Nat.eq_zero_or_pos n with rfl | hp
  · rw [List.take_zero]; exact Rd.nil _ _ _
  · rw [(h.1 hp).1]; exact hr.take n
theorem FormOf.cap {a a' : Option Addr} {cap n c' len : Nat} (h : FormOf a cap n a' c') (hc : len ≤ cap) (hn : n ≤ len) : n ≤ c' ∧ (a' = none → c' = 0 ∨ a = none) := by
  rcases Nat.eq_zero_or_pos n with rfl | hp
  · exact ⟨Nat.zero_le _, fun _ => .inl (h.2 rfl).2⟩
  · obtain ⟨rfl, rfl⟩ := h.1 hp
    exact ⟨by omega, fun e => .inr e⟩

/-- How many bits. -/
def BitsIs (n k : Nat) : Prop := (n = 0 ∧ k = 0) ∨ (0 < k ∧ 2 ^ (k - 1) ≤ n ∧ n < 2 ^ k)
def BitsPost (xs : List Nat) (w : World) (e : Ending) (w' : World) : Prop := (∃ k : Nat, e = .returned (.int .i64 (k : Nat)) ∧ BitsIs (val xs) k ∧ k ≤ 64 * fl xs) ∧ w = w'
theorem pow_64 (n : Nat) : (18446744073709551616 : Nat) ^ n = 2 ^ (64 * n) := by rw [Nat.pow_mul]

set_option maxHeartbeats 1000000 in
set_option maxRecDepth 100000 in
theorem bits_any (a : Option Addr) (la ca : Nat) (xs : List Nat) (w : World) (hla : xs.length = la) (hba : la ≤ 1099511627776) (hca : la ≤ ca) (hra : Rd .u64 w a xs) (bx : Bd xs) :
    Calls Tryd.prog 36 #[.slice a la ca] w (BitsPost xs w) := by
  have hfa := (fl_spec xs).1
  go_enter Tryd.func36, Tryd.ntmps36
  go_wp2_with fail
  refine (form_any a la ca xs _ hla hba hca hra).mono ?_
  rintro e w1 ⟨⟨a', c', rfl, g1, g2⟩, rfl⟩
  by_cases h0 : fl xs = 0
  · have hq : ((fl xs : Int) == 0) = true := by simp; omega
    have H0 := Lib.hid h0
    clear g1 g2 h0
    go_wp2
    go_ret
    refine ⟨⟨0, rfl, .inl ⟨?_, rfl⟩, Nat.zero_le _⟩, rfl⟩
    rw [← fm_val, fm, H0.out]; rfl
  · obtain ⟨rfl, rfl⟩ := g1 (by omega)
    obtain ⟨b, off, rfl⟩ := hra.isAt (by omega)
    obtain ⟨m, hm⟩ : ∃ m, fl xs = m + 1 := ⟨fl xs - 1, by omega⟩
    have hc1 := hra.cell (i := m) (by omega)
    have htop : at0 xs m ≠ 0 := by have := (fl_spec xs).2.2 (by omega); rw [hm, Nat.add_sub_cancel] at this; exact this
    have hb1 := bx.at0 m
    have HV : Hid (val xs = val ((fm xs).take m) + 18446744073709551616 ^ m * at0 xs m) := by
      show _ = _
      rw [← fm_val xs, val_at (fm xs) m (by rw [fm_length]; omega), List.drop_of_length_le (by rw [fm_length]; omega)]
      simp only [val, Nat.mul_zero, Nat.add_zero]
      rw [fm, at0_take (by omega)]
    have HL : Hid (val ((fm xs).take m) < 18446744073709551616 ^ m) := by
      have := val_lt ((fm_bd bx).take m)
      rw [List.length_take, fm_length, Nat.min_eq_left (by omega)] at this
      exact this
    have hq : ((fl xs : Int) == 0) = false := by simp; omega
    have hm1 : ((fl xs : Int) - 1) = (m : Int) := by omega
    have hmn : m < fl xs := by omega
    have HM := Lib.hid hm
    clear hm g1 g2 h0
    generalize at0 xs m = x at *
    have HX := Lib.hid htop
    clear htop
    go_wp2_with fail
    refine (Tryd.bits_Len64 (x : Int) _ (by omega) (by omega)).mono ?_
    rintro e w' ⟨rfl, hw⟩
    have hw2 := hw.symm
    subst hw2
    obtain ⟨b1, b2, b3⟩ := Lib.bitLenAux_bounds 64 x (by simpa using hb1) HX.out
    have hb : Lib.bitLenAux 64 x ≤ 64 := Lib.bitLenAux_le 64 x 64 (by simpa using hb1)
    have e1 : Lib.bitLen ((x : Int).toNat) = Lib.bitLenAux 64 x := rfl
    rw [e1]
    have B2 := Lib.hid b2
    have B3 := Lib.hid b3
    clear b2 b3 e1
    generalize Lib.bitLenAux 64 x = t at *
    go_wp2
    go_ret
    refine ⟨⟨64 * m + t, by congr 2, .inr ⟨by omega, ?_, ?_⟩, by omega⟩, rfl⟩
    · rw [HV.out, show 64 * m + t - 1 = 64 * m + (t - 1) by omega, Nat.pow_add, ← pow_64]
      have := Nat.mul_le_mul_left (18446744073709551616 ^ m) B2.out
      omega
    · rw [HV.out, Nat.pow_add, ← pow_64]
      have h1 : 18446744073709551616 ^ m * (x + 1) ≤ 18446744073709551616 ^ m * 2 ^ t := Nat.mul_le_mul_left _ B3.out
      rw [Nat.mul_add] at h1
      have := HL.out
      omega

/-- A list with a piece written over. -/
def spl (ws : List Nat) (off : Nat) (zs : List Nat) : List Nat := ws.take off ++ (zs ++ ws.drop (off + zs.length))
theorem spl_length {ws zs : List Nat} {off : Nat} (h : off + zs.length ≤ ws.length) : (spl ws off zs).length = ws.length := by simp [spl]; omega
theorem spl_at0_in {ws zs : List Nat} {off i : Nat} (h : off ≤ ws.length) (hi : i < zs.length) : at0 (spl ws off zs) (off + i) = at0 zs i := by
  have h1 : (ws.take off).length = off := by simp; omega
  have := at0_append_right (xs := ws.take off) (ys := zs ++ ws.drop (off + zs.length)) i
  rw [h1] at this
  rw [spl, this, at0_append_left hi]
theorem spl_at0_out {ws zs : List Nat} {off j : Nat} (h : off + zs.length ≤ ws.length) (hj : j < off ∨ off + zs.length ≤ j) : at0 (spl ws off zs) j = at0 ws j := by
  have h1 : (ws.take off).length = off := by simp; omega
  rcases hj with hj | hj
  · rw [spl, at0_append_left (by omega), at0_take hj]
  · obtain ⟨d, rfl⟩ : ∃ d, j = off + (zs.length + d) := ⟨j - off - zs.length, by omega⟩
    have h2 := at0_append_right (xs := ws.take off) (ys := zs ++ ws.drop (off + zs.length)) (zs.length + d)
    rw [h1] at h2
    rw [spl, h2, at0_append_right, at0_drop, Nat.add_assoc]
theorem Bd.spl {ws zs : List Nat} {off : Nat} (h : Bd ws) (hz : Bd zs) : Bd (spl ws off zs) := (h.take off).append (hz.append (h.drop _))
theorem sg_spl {cur : Array Value} {ws zs : List Nat} {off : Nat} (h : Sg cur 0 ws) (hl : off + zs.length ≤ ws.length) : Sg (putL cur off zs) 0 (spl ws off zs) := by
  have h1 := h.1
  refine ⟨by rw [putL_size (by omega), spl_length hl]; exact h1, fun i hi => ?_⟩
  rw [spl_length hl] at hi
  rw [Nat.zero_add]
  by_cases hj : i < off ∨ off + zs.length ≤ i
  · rw [putL_out (by omega) hj, spl_at0_out hl hj]
    have := h.2 i hi
    rwa [Nat.zero_add] at this
  · obtain ⟨d, rfl⟩ : ∃ d, i = off + d := ⟨i - off, by omega⟩
    rw [putL_in (by omega) (by omega), spl_at0_in (by omega) (by omega)]
/-- A row's block, written over. -/
theorem own64.over {w' : World} {B g c off : Nat} {cur : Array Value} {ws zs : List Nat} (hB : B ≤ g) (hc : c ≤ maxLen) (hn : ws.length ≤ c) (hs : cur.size = c) (hz : Sg cur 0 ws) (hl : off + zs.length ≤ ws.length) (hb : Blk w' g (putL cur off zs)) :
    own64 w' B (.slice (some ⟨g, 0, none⟩) ws.length c) (spl ws off zs) := by
  have := own64_of_blk (B := B) (c := c) (zs := spl ws off zs) hb hB (by rw [spl_length hl]; exact hn) hc (by rw [putL_size (by have := hz.1; omega)]; exact hs) (sg_spl hz hl)
  rw [spl_length hl] at this
  exact this

theorem old_of_rd {k : IntKind} {w : World} {b : Option Addr} {ys : List Nat} (h : Rd k w b ys) (h0 : 0 < ys.length) : ∀ p, b = some p → p.block < w.heap.size := by
  intro p hp
  obtain ⟨bb, ob, rfl⟩ := h.isAt h0
  cases hp
  exact World.block_lt_of_cell? w _ (h.cell (i := 0) h0)
theorem FormOf.old {k : IntKind} {w : World} {a a' : Option Addr} {cap n c' : Nat} {xs : List Nat} (h : FormOf a cap n a' c') (hr : Rd k w a xs) (hn : n ≤ xs.length) : ∀ p, a' = some p → p.block < w.heap.size := by
  rcases Nat.eq_zero_or_pos n with rfl | hp
  · intro p hp; rw [(h.2 rfl).1] at hp; cases hp
  · rw [(h.1 hp).1]; exact old_of_rd hr (by omega)
/-- Two lists that are the same are found to be. -/
def YesPost (w : World) (e : Ending) (w' : World) : Prop := e = .returned (.bool true) ∧ ∃ n, w' = w.drewN n
theorem words_same (a b : Option Addr) (n ca cb : Nat) (xs : List Nat) (w : World) (hla : xs.length = n) (hba : n ≤ 1099511627776) 
    (hra : Rd .u64 w a xs) (hrb : Rd .u64 w b xs) :
    Calls Tryd.prog 30 #[.slice a n ca, .slice b n cb] w (YesPost w) := by
  go_enter Tryd.func30, Tryd.ntmps30
  have hne : ((n : Int) != (n : Int)) = false := by simp
  go_wp2
  go_loopw [5] (fun v wr => ∃ i n' : Nat, i ≤ n ∧ v = .int .i64 (i : Nat) ∧ wr = w.drewN n') (fun v _ => n - (intOf v).toNat)
  case atStart => exact ⟨0, 0, Nat.zero_le _, rfl, rfl⟩
  case round =>
    obtain ⟨i, n', hi, rfl, rfl⟩ := hrel
    by_cases h0 : i < n
    · obtain ⟨ba, oa, rfl⟩ := hra.isAt (by omega)
      obtain ⟨bb, ob, rfl⟩ := hrb.isAt (by omega)
      have hc1 := hra.cell (i := i) (by omega)
      have hc2 := hrb.cell (i := i) (by omega)
      have h00 : (0 : Int) ≤ (i : Int) := by omega
      clear hra hrb
      generalize at0 xs i = x at *
      have hxx : ((x : Int) != (x : Int)) = false := by simp
      go_wp2
      go_quiet (fail)
      go_wp2
      go_roundw
      case rel => exact ⟨i + 1, n' + nq, by omega, by go_num, by first | rfl | exact World.drewN_drewN _ _ _⟩
      case measure => simp [intOf]; omega
    · have hq : decide (i < n) = false := by simp; omega
      go_wp2
      go_ret
      exact ⟨rfl, n', rfl⟩

abbrev own8 (w : World) (B : Nat) (v : Value) (zs : List Nat) : Prop := w.ownsRow B 5 1 v zs.length (u8s zs)
theorem u8s_at (xs : List Nat) (i : Nat) (h : i < xs.length) : (u8s xs)[i]? = some (.int .u8 (at0 xs i : Nat)) := by simp [u8s, h, at0_getElem]
theorem u8s_setL (xs : List Nat) (i x : Nat) : (u8s xs).set i (.int .u8 (x : Nat)) = u8s (xs.set i x) := by simp [u8s, List.map_set]
theorem own8.set {w : World} {B g n c : Nat} {zs : List Nat} (h : w.ownsRow B 5 1 (.slice (some ⟨g, 0, none⟩) n c) n (u8s zs)) (j x : Nat) : (w.setCell ⟨g, j, none⟩ (.int .u8 (x : Nat))).ownsRow B 5 1 (.slice (some ⟨g, 0, none⟩) n c) n (u8s (zs.set j x)) := by
  rw [← u8s_setL]
  exact (World.ownsRow.stored h j _).1
theorem at0_set {xs : List Nat} {i j x : Nat} (h : i < xs.length) : at0 (xs.set i x) j = if i = j then x else at0 xs j := by
  unfold at0
  simp only [List.getD, List.getElem?_set]
  by_cases e : i = j
  · subst e; simp [h]
  · simp [e]

theorem Rd.alloc {k : IntKind} {w : World} {a : Option Addr} {xs : List Nat} (h : Rd k w a xs) (o : Obj) : Rd k (w.alloc o) a xs := h.below ((Below.refl _ _).alloc (Nat.le_refl _) _)
theorem Below.drewM {B : Nat} {a w : World} (h : Below B a w) (n : Nat) : Below B a (w.drewN n) := ⟨h.os, h.tape, h.output, h.size, h.block⟩
theorem Rd.drewM {k : IntKind} {w : World} {a : Option Addr} {xs : List Nat} (h : Rd k w a xs) (n : Nat) : Rd k (w.drewN n) a xs := h

def sg (z : Int) : Int := if z = 0 then 0 else if z < 0 then -1 else 1
theorem own64.under {w w' : World} {B : Nat} {v : Value} {zs : List Nat} (h : own64 w B v zs) (hb : Below w.heap.size w w') : own64 w' B v zs :=
  ((Chg.of_below hb).owns h fun k hk he => by have := (World.ownsRow.lt h k hk).2; omega)
/-- A whole number as a value. -/
def WV (n : Bool) (a : Option Addr) (la ca : Nat) : Value := .agg #[.bool n, .slice a la ca]

theorem heap_new (w : World) (o : Obj) : (w.alloc o).heap[w.heap.size]? = some o := by
  show (w.heap.push o)[w.heap.size]? = _
  simp

theorem val_one (x : Nat) : val [x] = x := by simp [val]
def FromTells (l : List Nat) (k : Int) (zs : List Nat) : Prop :=
  (18446744073709551616 ^ 128 ≤ bval l ∧ k = 3 ∧ zs = []) ∨ (bval l < 18446744073709551616 ^ 128 ∧ k = 0 ∧ Num zs (bval l))
def Told (Q : Int → List Nat → Prop) (w : World) (e : Ending) (w' : World) : Prop :=
  Below w.heap.size w w' ∧ ∃ a c k zs, e = .returned (.tuple #[.slice a zs.length c, .int .i64 k]) ∧ own64 w' w.heap.size (.slice a zs.length c) zs ∧ zs.length ≤ 128 ∧ Q k zs
theorem FromPost.told {l : List Nat} {w w' : World} {e : Ending} (h : FromPost l w e w') : Told (FromTells l) w e w' := by
  obtain ⟨hb, h | h⟩ := h
  · exact ⟨hb, none, 0, 3, [], h.2, own64_nil _ _, by decide, .inl ⟨h.1, rfl, rfl⟩⟩
  · obtain ⟨h3, v, zs, rfl, ho, hn⟩ := h
    obtain ⟨a, c, rfl, _⟩ := own64.form ho
    exact ⟨hb, a, c, 0, zs, rfl, ho, hn.len_le.2 h3, .inr ⟨h3, rfl, hn⟩⟩
theorem FromTells.one {l : List Nat} {k k' : Int} {zs zs' : List Nat} (h : FromTells l k zs) (h' : FromTells l k' zs') : k = k' ∧ zs = zs' := by
  rcases h with ⟨h1, rfl, rfl⟩ | ⟨h3, rfl, h4⟩ <;>
  rcases h' with ⟨g1, rfl, rfl⟩ | ⟨g3, rfl, g4⟩ <;>
  first | exact ⟨rfl, rfl⟩ | exact ⟨rfl, h4.unique g4⟩ | (exfalso; omega)

theorem bits_lt {n k : Nat} (h : BitsIs n k) : n < 2 ^ k := by
  rcases h with ⟨rfl, rfl⟩ | ⟨_, _, h⟩
  · decide
  · exact h
theorem bits_unique {n j k : Nat} (h1 : BitsIs n j) (h2 : BitsIs n k) : j = k := by
  have key : ∀ {j k : Nat}, BitsIs n j → BitsIs n k → j ≤ k := by
    intro j k h1 h2
    apply Decidable.byContradiction; intro hn
    have hlt := bits_lt h2
    rcases h1 with ⟨_, rfl⟩ | ⟨h0, h1, _⟩
    · omega
    · have : 2 ^ k ≤ 2 ^ (j - 1) := Nat.pow_le_pow_right (by decide) (by omega)
      omega
  exact Nat.le_antisymm (key h1 h2) (key h2 h1)
end Go.Proofs.YtaookoejdnkkoaaDoor
