import Derived.Test.YthhchpmlljfpjaaGreatPtE
import Derived.Shelf.Abstract
namespace Go.Proofs.YthhchpmlljfpjaaGreat
open Go.RowKit

/-! Sets of bytes in the program. -/
theorem wrap_u8_nat (c : Nat) (h : c < 256) : IntKind.u8.wrap (c : Int) = (c : Int) := wrap_u8_in c h
/-- A set's cells. -/
def S4.cells (s : S4) : List Value := [.int .u64 (s.a : Nat), .int .u64 (s.b : Nat), .int .u64 (s.c : Nat), .int .u64 (s.d : Nat)]
@[reducible] def S4.val (s : S4) : Value := .agg #[.int .u64 (s.a : Nat), .int .u64 (s.b : Nat), .int .u64 (s.c : Nat), .int .u64 (s.d : Nat)]
def S4.put (s : S4) (i x : Nat) : S4 := match i with | 0 => { s with a := x } | 1 => { s with b := x } | 2 => { s with c := x } | _ => { s with d := x }
theorem S4.cells_at (s : S4) (i : Nat) (h : i < 4) : s.cells[i]? = some (.int .u64 (s.word i : Nat)) := by
  rcases (show i = 0 ∨ i = 1 ∨ i = 2 ∨ i = 3 by omega) with rfl | rfl | rfl | rfl <;> rfl
theorem S4.cells_put (s : S4) (i x : Nat) (h : i < 4) : s.cells.set i (.int .u64 (x : Nat)) = (s.put i x).cells := by
  rcases (show i = 0 ∨ i = 1 ∨ i = 2 ∨ i = 3 by omega) with rfl | rfl | rfl | rfl <;> rfl
theorem S4.word_put (s : S4) (i j x : Nat) (h : i < 4) (h2 : j < 4) : (s.put i x).word j = if j = i then x else s.word j := by
  rcases (show i = 0 ∨ i = 1 ∨ i = 2 ∨ i = 3 by omega) with rfl | rfl | rfl | rfl <;> rcases (show j = 0 ∨ j = 1 ∨ j = 2 ∨ j = 3 by omega) with rfl | rfl | rfl | rfl <;> rfl
theorem S4.word_lt {s : S4} (h : s.fit) (i : Nat) : s.word i < 2 ^ 64 := by
  obtain ⟨h1, h2, h3, h4⟩ := h
  unfold S4.word
  split <;> assumption
theorem S4.put_fit {s : S4} (h : s.fit) (i : Nat) {x : Nat} (hx : x < 2 ^ 64) : (s.put i x).fit := by
  obtain ⟨h1, h2, h3, h4⟩ := h
  unfold S4.put
  split <;> exact ⟨by assumption, by assumption, by assumption, by assumption⟩
/-- The bytes below c for which a test holds. -/
def belowS (p : Nat → Bool) (c : Nat) : S4 := S4.of fun x => decide (x < c) && p x
theorem belowS_zero (p : Nat → Bool) : belowS p 0 = .zero := S4.ext (S4.of_fit _) S4.zero_fit fun c hc => by rw [belowS, S4.has_of _ _ hc, S4.has_zero]; simp
theorem belowS_all (p : Nat → Bool) : belowS p 256 = S4.of p := S4.ext (S4.of_fit _) (S4.of_fit _) fun c hc => by rw [belowS, S4.has_of _ _ hc, S4.has_of _ _ hc]; simp [hc]
theorem belowS_no {p : Nat → Bool} {c : Nat} (h : p c = false) : belowS p (c + 1) = belowS p c := S4.ext (S4.of_fit _) (S4.of_fit _) fun x hx => by
  rw [belowS, belowS, S4.has_of _ _ hx, S4.has_of _ _ hx]
  by_cases e : x = c
  · subst e; simp [h]
  · rw [show decide (x < c + 1) = decide (x < c) by rw [Bool.eq_iff_iff]; simp; omega]
theorem S4.has_add {s : S4} (c x : Nat) (hc : c < 256) (hx : x < 256) : (s.put (c / 64) (s.word (c / 64) ||| 2 ^ (c % 64))).has x = (s.has x || decide (x = c)) := by
  unfold S4.has
  rw [S4.word_put _ _ _ _ (by omega) (by omega)]
  by_cases h1 : x / 64 = c / 64
  · rw [if_pos h1, h1, Nat.testBit_or, Nat.testBit_two_pow]
    congr 1
    rw [Bool.eq_iff_iff]; simp; omega
  · rw [if_neg h1]
    have : decide (x = c) = false := by simp; rintro rfl; exact h1 rfl
    rw [this, Bool.or_false]
theorem S4.add_fit {s : S4} (h : s.fit) (c : Nat) : (s.put (c / 64) (s.word (c / 64) ||| 2 ^ (c % 64))).fit :=
  S4.put_fit h _ (Nat.or_lt_two_pow (S4.word_lt h _) (Nat.pow_lt_pow_right (by decide) (Nat.mod_lt _ (by decide))))
theorem belowS_yes {p : Nat → Bool} {c : Nat} (hc : c < 256) (h : p c = true) : (belowS p c).put (c / 64) ((belowS p c).word (c / 64) ||| 2 ^ (c % 64)) = belowS p (c + 1) :=
  S4.ext (S4.add_fit (S4.of_fit _) c) (S4.of_fit _) fun x hx => by
    rw [S4.has_add c x hc hx, belowS, belowS, S4.has_of _ _ hx, S4.has_of _ _ hx]
    by_cases e : x = c
    · subst e; simp [h]
    · rw [show decide (x < c + 1) = decide (x < c) by rw [Bool.eq_iff_iff]; simp; omega]
      simp [e]
theorem wrap_pow (r : Nat) (h : r < 64) : IntKind.u64.wrap ((2 : Int) ^ r) = ((2 ^ r : Nat) : Int) := by
  have h1 : 2 ^ r < 2 ^ 64 := Nat.pow_lt_pow_right (by decide) h
  rw [IntKind.wrap_u64, show ((2 : Int) ^ r) = ((2 ^ r : Nat) : Int) by rw [Int.natCast_pow]; rfl]
  generalize 2 ^ r = m at h1
  omega
theorem infoSet : (Tryz.prog.info? 39).map (·.size) = some 4 := by kernel_rfl
/-- A block of a set. -/
def SB (w : World) (g : Nat) (s : S4) : Prop := CB w 39 g s.cells
theorem SB.put {w : World} {g : Nat} {s : S4} (h : SB w g s) (i x : Nat) (hi : i < 4) : SB (w.setCell ⟨g, i, none⟩ (.int .u64 (x : Nat))) g (s.put i x) := by
  unfold SB
  rw [← S4.cells_put s i x hi]
  exact CB.set h i _
theorem SB.word {w : World} {g : Nat} {s : S4} (h : SB w g s) (i : Nat) (hi : i < 4) : w.cell? ⟨g, i, none⟩ = some (.int .u64 (s.word i : Nat)) := by rw [CB.cell h i, S4.cells_at s i hi]
theorem SB.four {w : World} {g : Nat} {s : S4} (h : SB w g s) : w.cell? ⟨g, 0, none⟩ = some (.int .u64 (s.a : Nat)) ∧ w.cell? ⟨g, 1, none⟩ = some (.int .u64 (s.b : Nat)) ∧ w.cell? ⟨g, 2, none⟩ = some (.int .u64 (s.c : Nat)) ∧ w.cell? ⟨g, 3, none⟩ = some (.int .u64 (s.d : Nat)) :=
  ⟨CB.cell h 0, CB.cell h 1, CB.cell h 2, CB.cell h 3⟩
theorem Below.set4 {B g : Nat} {w w' : World} (h : Below B w w') (hg : B ≤ g) (a b c d : Value) : Below B w ((((w'.setCell ⟨g, 0, none⟩ a).setCell ⟨g, 1, none⟩ b).setCell ⟨g, 2, none⟩ c).setCell ⟨g, 3, none⟩ d) :=
  (((h.setCell (p := ⟨g, 0, none⟩) hg _).setCell (p := ⟨g, 1, none⟩) hg _).setCell (p := ⟨g, 2, none⟩) hg _).setCell (p := ⟨g, 3, none⟩) hg _
/-- A set is answered; what was there stays. -/
def SetRet (s : S4) (w : World) (e : Ending) (w' : World) : Prop := ∃ S : S4, e = .returned S.val ∧ Hid (S = s) ∧ Below w.heap.size w w'
/-- A test of bytes, as a function's value. -/
def Tests (k : Nat) (caps : Array Value) (p : Nat → Bool) (w0 : World) : Prop :=
  ∀ c : Nat, c < 256 → ∀ w, Below w0.heap.size w0 w → Calls Tryz.prog k (#[.int .u8 (c : Nat)] ++ caps) w fun e w' => e = .returned (.bool (p c)) ∧ w = w'
set_option maxHeartbeats 1000000 in
set_option maxRecDepth 100000 in
theorem p_those (k : Nat) (caps : Array Value) (p : Nat → Bool) (w : World) (hk : Enters Tryz.prog k) (hp : Tests k caps p w) :
    Calls Tryz.prog 128 #[.func (.func k) #[] caps] w fun e w' => SetRet (S4.of p) w e w' := by
  have HP := Lib.hid hp
  clear hp
  obtain ⟨S, hS⟩ : ∃ S, S4.of p = S := ⟨_, rfl⟩
  have HSS := Lib.hid hS
  clear hS
  go_enter Tryz.func128, Tryz.ntmps128
  go_wp2
  go_loopw [5] (fun cv wr => ∃ c : Nat, c ≤ 256 ∧ cv = .int .i64 (c : Nat) ∧ Hid (SB wr (w.heap.size + 1) (belowS p c)) ∧ Hid (SB wr w.heap.size .zero) ∧ Hid (Below w.heap.size w wr)) (fun cv _ => 256 - (intOf cv).toNat)
  case atStart => exact ⟨0, by omega, rfl, by rw [belowS_zero]; exact cb2 _ _ _ S4.zero.cells, CB.alloc (CB.new _ _ S4.zero.cells) _, ((Below.refl _ _).alloc (Nat.le_refl _) _).alloc (by simp) _⟩
  case round =>
    obtain ⟨c, hc, rfl, HS, HZ, HB⟩ := hrel
    by_cases hlt : c < 256
    · obtain ⟨b, hb⟩ : ∃ b, p c = b := ⟨_, rfl⟩
      have hwc : IntKind.u8.wrap (c : Int) = (c : Int) := wrap_u8_nat c hlt
      have hcall := HP.out c hlt wr HB.out
      rw [hb] at hcall
      obtain ⟨q, hq⟩ : ∃ q, c / 64 = q := ⟨_, rfl⟩
      obtain ⟨r, hr⟩ : ∃ r, c % 64 = r := ⟨_, rfl⟩
      have hq4 : q < 4 := by omega
      have hr64 : r < 64 := by omega
      have eq1 : ((c : Int) / 64) = (q : Int) := by omega
      have er1 : ((c : Int) % 64) = (r : Int) := by omega
      have ht1 := Lib.hid (wrap_pow r hr64)
      obtain ⟨m, hm⟩ : ∃ m, 2 ^ r = m := ⟨_, rfl⟩
      obtain ⟨x, hx⟩ : ∃ x, (belowS p c).word q = x := ⟨_, rfl⟩
      have hw := HS.out.word q hq4
      have hf := CB.free HS.out q
      rw [hx] at hw
      have hm64 : m < 18446744073709551616 := by rw [← hm]; exact Nat.lt_of_lt_of_le (Nat.pow_lt_pow_right (by decide) hr64) (by decide)
      have hx64 : x < 18446744073709551616 := by rw [← hx]; exact S4.word_lt (S4.of_fit _) q
      have hor := or_nat x m hx64 hm64
      have hpw : IntKind.u64.wrap ((2 : Int) ^ r) = (m : Int) := by rw [← hm]; exact ht1.out
      have HN : Hid (b = true → SB (wr.setCell ⟨w.heap.size + 1, q, none⟩ (.int .u64 ((x ||| m : Nat) : Int))) (w.heap.size + 1) (belowS p (c + 1))) := fun hbt => by
        rw [← belowS_yes hlt (hb.trans hbt), hq, hr, hm, hx]
        exact HS.out.put q _ hq4
      have HN2 : Hid (b = false → belowS p (c + 1) = belowS p c) := fun hbt => belowS_no (hb.trans hbt)
      have HK := Lib.hid hk
      have hent := fun args W => hk args W
      clear hb hq hr hm hx ht1 hk
      cases b
      · go_wp2_with (refine hcall.mono ?_; rintro e w' ⟨rfl, rfl⟩)
        go_roundw
        case rel => exact ⟨c + 1, by omega, by go_num, by rw [HN2.out (by trivial)]; exact HS, HZ, HB⟩
        case measure => simp [intOf]; omega
      · go_wp2_with (refine hcall.mono ?_; rintro e w' ⟨rfl, rfl⟩)
        go_region
        all_goals
          go_wp2
          go_roundw
          case rel => exact ⟨c + 1, by omega, by go_num, HN.out (by trivial), CB.other HZ.out _ (by simp) _, HB.out.drew.setCell (p := ⟨w.heap.size + 1, q, none⟩) (by simp) _⟩
          case measure => simp [intOf]; omega
    · obtain rfl : c = 256 := by omega
      rw [belowS_all, HSS.out] at HS
      clear hk
      obtain ⟨h0, h1, h2, h3⟩ := HS.out.four
      obtain ⟨z0, z1, z2, z3⟩ := HZ.out.four
      have hfr := CB.free HZ.out
      go_wp2
      refine bodyPost_ret (ret_row rfl rfl (CB.set4 HZ.out _ _ _ _) _ Tryz.underlying39 rfl infoSet) rfl ⟨S, rfl, HSS.out.symm, ?_⟩
      exact Below.set4 HB.out (Nat.le_refl _) _ _ _ _
end Go.Proofs.YthhchpmlljfpjaaGreat
