import Derived.Test.YtaookoejdnkkoaaGreatDoorKBkW
import Derived.Test.YtaookoejdnkkoaaGreatDoorKRl
import Derived.Laws.StructEq
namespace Go.Proofs.YtaookoejdnkkoaaGreatDoor
open Go.RowKit
/-! What the laws of rsa share (out of Rn and Rr). -/
theorem VerTells.off {N E : Nat} {m s : List Nat} {v : Int} (h : VerTells N E m s v) (hk : KeyOk N E) (hs : ¬ SigOk N s) : v = 81 := by
  obtain ⟨k, b, h1, rfl⟩ := h
  rcases h1 with ⟨h, _⟩ | ⟨_, _, rfl, _⟩ | ⟨_, h, _⟩
  · exact absurd hk h
  · rfl
  · exact absurd h hs
/-- What is verified is what satisfies the equation. -/
theorem VerTells.eqn {N E : Nat} {m s : List Nat} {v : Int} (h : VerTells N E m s v) (hk : KeyOk N E) (hs : SigOk N s) :
    (v = 0 ∧ bval s ^ E % N = bval (encL (shaN m) (szN N))) ∨ (v = 82 ∧ bval s ^ E % N ≠ bval (encL (shaN m) (szN N))) := by
  obtain ⟨k, b, h1, rfl⟩ := h
  rcases h1 with ⟨h, _⟩ | ⟨_, h, _⟩ | ⟨_, _, rfl, h3, h4, h5⟩
  · exact absurd hk h
  · exact absurd hs h
  · have hsz := hk.size
    have hl := encL_len (shaN_len m) (show 38 ≤ szN N by omega)
    by_cases he : b = encL (shaN m) (szN N)
    · exact .inl ⟨by rw [if_pos rfl, if_pos he], by rw [← h5, he]⟩
    · refine .inr ⟨by rw [if_pos rfl, if_neg he], fun h => he ?_⟩
      exact bval_inj h4 (encL_8 (shaN_8 m)) (h3.trans hl.symm) (h5.trans h)
theorem pick8_any (i : Int) (n : Nat) (w : World) (_h1 : -9223372036854775808 ≤ i) (_h2 : i ≤ 9223372036854775807) (hn : 0 < n) (hn2 : n ≤ 1099511627776) :
    Calls Tryz.prog 64 #[.int .i64 i, .int .i64 (n : Nat)] w fun e w' => ∃ m : Nat, e = .returned (.int .i64 (m : Nat)) ∧ m < n ∧ w = w' := by
  have g1 : i.tmod n < n := Int.tmod_lt_of_pos _ (by omega)
  have g2 : -(n : Int) < i.tmod n := by
    have h : (-i).tmod n < n := Int.tmod_lt_of_pos _ (by omega)
    rw [Int.neg_tmod] at h
    omega
  have hq : decide ((n : Int) < 1) = false := decide_eq_false (by omega)
  have hn0 : ((n : Int) = 0) = False := by simp; omega
  go_enter Tryz.func64, Tryz.ntmps64
  obtain ⟨t, ht⟩ : ∃ t, i.tmod n = t := ⟨_, rfl⟩
  rw [ht] at g1 g2
  by_cases hneg : t < 0
  · have hd : decide (t < 0) = true := decide_eq_true hneg
    go_wp2_with (simp only [ht])
    go_ret
    exact ⟨(t + n).toNat, ret_int (by omega), by omega, rfl⟩
  · have hd : decide (t < 0) = false := decide_eq_false hneg
    go_wp2_with (simp only [ht])
    go_ret
    exact ⟨t.toNat, ret_int (by omega), by omega, rfl⟩

def LRow (w : World) (B g n d : Nat) (xs : List Nat) : Prop := w.ownsRow B 47 1 (.slice (some ⟨g, 0, none⟩) (n + 16) d) (n + 16) (u64s xs ++ mksw 16)
theorem LRow.rd {w : World} {B g n d : Nat} {xs : List Nat} (h : LRow w B g n d xs) (hn : xs.length = n) : Rd .u64 w (some ⟨g, 0, none⟩) xs := fun _ _ => ⟨g, 0, rfl, fun i hi => by
  rw [Nat.zero_add, World.ownsRow.cellAt h i (by omega), List.getElem?_append_left (by rw [u64s_len]; exact hi), u64s, List.getElem?_map, List.getElem?_eq_getElem hi, List.getD_eq_getElem?_getD, List.getElem?_eq_getElem hi]; rfl⟩
theorem LRow.cap {w : World} {B g n d : Nat} {xs : List Nat} (h : LRow w B g n d xs) : n ≤ d := by
  rcases h.2 with ⟨h, _⟩ | ⟨g', c', cur, h, _, _, hn, _⟩
  · cases h
  · cases h; omega
theorem LRow.below {w w' : World} {B g n d : Nat} {xs : List Nat} (h : LRow w B g n d xs) (hb : Below w.heap.size w w') : LRow w' B g n d xs :=
  (Chg.of_below hb).owns h (fun k hk => by have := (World.ownsRow.lt h k hk).2; omega)
theorem LRow.base {w : World} {B B' g n d : Nat} {xs : List Nat} (h : LRow w B g n d xs) (hB : B' ≤ B) : LRow w B' g n d xs := owns_base h hB
end Go.Proofs.YtaookoejdnkkoaaGreatDoor
