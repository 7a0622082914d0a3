import Derived.Test.YtaookoejdnkkoaaGreatDoorKGC
import Derived.Deep.RegionHeld3
namespace Go.Proofs.YtaookoejdnkkoaaGreatDoor
open Go.RowKit

/-- A whole number's worth, and its sign. -/
def wv (n : Bool) (xs : List Nat) : Int := if n then -(val xs : Int) else (val xs : Int)
def sg (z : Int) : Int := if z = 0 then 0 else if z < 0 then -1 else 1
/-- A whole number as a value. -/
def WV (n : Bool) (a : Option Addr) (la ca : Nat) : Value := .agg #[.bool n, .slice a la ca]

theorem heap_new (w : World) (o : Obj) : (w.alloc o).heap[w.heap.size]? = some o := by
  show (w.heap.push o)[w.heap.size]? = _
  simp

set_option exponentiation.threshold 10000 in
set_option maxHeartbeats 1000000 in
theorem norm_any (a : Option Addr) (la ca : Nat) (xs : List Nat) (w : World) (hla : xs.length = la) (hba : la ≤ 1048576) (hca : la ≤ ca) (hna : a = none → ca = 0) (hra : Rd .u64 w a xs) (bx : Bd xs) :
    Calls Tryz.prog 163 #[.slice a la ca] w (NumPost (fl xs ≤ 128) (val xs) w) := by
  have hfa := (fl_spec xs).1
  have hnum : Hid (Num (fm xs) (val xs)) := num_fm bx
  go_enter Tryz.func163, Tryz.ntmps163
  go_wp2_with fail
  refine (one_any a la ca xs _ hla (by omega) hca hra).mono ?_
  rintro e w1 ⟨hor, rfl⟩
  rcases hor with ⟨h1, a', c', rfl, g1, g2⟩ | ⟨h1, rfl⟩
  · have fa : FormOf a ca (fl xs) a' c' := ⟨g1, g2⟩
    have hra' := fa.rd hra hfa
    have hna' : Hid (a' = none → c' = 0) := fun h => ((fa.cap hca (by omega)).2 h).elim id (fun h2 => by
      rcases Nat.eq_zero_or_pos (fl xs) with h0 | hp
      · exact (fa.2 h0).2
      · rw [(fa.1 hp).2]; exact hna h2)
    have e1 : Hid ((fm xs).length = fl xs) := fm_length xs
    have HR : Hid (Rd .u64 w a' (fm xs)) := hra'
    clear fa g1 g2 hra hna hra'
    go_wp2_with fail
    refine (copied_any a' (fl xs) c' (fm xs) _ e1.out (by omega) (fun _ h => hna'.out h) HR.out).mono ?_
    rintro e w2 ⟨v, rfl, hown, hbl, hnil⟩
    have HO := Lib.hid hown
    clear hown hnil
    go_wp2
    go_ret2
    refine ⟨hbl, .inr ⟨h1, ?_, v, fm xs, rfl, HO.out, hnum.out⟩⟩
    rw [← hnum.out.len_le, e1.out]; exact h1
  · go_wp2
    go_ret2
    exact ⟨Below.refl _ _, .inl ⟨fun h => by omega, rfl⟩⟩

theorem val_one (x : Nat) : val [x] = x := by simp [val]
def FromTells (l : List Nat) (k : Int) (zs : List Nat) : Prop :=
  (18446744073709551616 ^ 128 ≤ bval l ∧ k = 3 ∧ zs = []) ∨ (bval l < 18446744073709551616 ^ 128 ∧ k = 0 ∧ Num zs (bval l))
def Told (Q : Int → List Nat → Prop) (w : World) (e : Ending) (w' : World) : Prop :=
  Below w.heap.size w w' ∧ ∃ a c k zs, e = .returned (.tuple #[.slice a zs.length c, .int .i64 k]) ∧ own64 w' w.heap.size (.slice a zs.length c) zs ∧ zs.length ≤ 128 ∧ Q k zs
theorem FromPost.told {l : List Nat} {w w' : World} {e : Ending} (h : FromPost l w e w') : Told (FromTells l) w e w' := by
  obtain ⟨hb, h | h⟩ := h
  · exact ⟨hb, none, 0, 3, [], h.2, own64_nil _ _, by decide, .inl ⟨h.1, rfl, rfl⟩⟩
  · obtain ⟨h3, v, zs, rfl, ho, hn⟩ := h
    obtain ⟨a, c, rfl, _⟩ := own64.form ho
    exact ⟨hb, a, c, 0, zs, rfl, ho, hn.len_le.2 h3, .inr ⟨h3, rfl, hn⟩⟩
theorem FromTells.one {l : List Nat} {k k' : Int} {zs zs' : List Nat} (h : FromTells l k zs) (h' : FromTells l k' zs') : k = k' ∧ zs = zs' := by
  rcases h with ⟨h1, rfl, rfl⟩ | ⟨h3, rfl, h4⟩ <;>
  rcases h' with ⟨g1, rfl, rfl⟩ | ⟨g3, rfl, g4⟩ <;>
  first | exact ⟨rfl, rfl⟩ | exact ⟨rfl, h4.unique g4⟩ | (exfalso; omega)

theorem bits_lt {n k : Nat} (h : BitsIs n k) : n < 2 ^ k := by
  rcases h with ⟨rfl, rfl⟩ | ⟨_, _, h⟩
  · decide
  · exact h
theorem bits_unique {n j k : Nat} (h1 : BitsIs n j) (h2 : BitsIs n k) : j = k := by
  have key : ∀ {j k : Nat}, BitsIs n j → BitsIs n k → j ≤ k := by
    intro j k h1 h2
    apply Decidable.byContradiction; intro hn
    have hlt := bits_lt h2
    rcases h1 with ⟨_, rfl⟩ | ⟨h0, h1, _⟩
    · omega
    · have : 2 ^ k ≤ 2 ^ (j - 1) := Nat.pow_le_pow_right (by decide) (by omega)
      omega
  exact Nat.le_antisymm (key h1 h2) (key h2 h1)
end Go.Proofs.YtaookoejdnkkoaaGreatDoor
