import Derived.Test.YthccccpcjafdcaaDoorWholeC
import Derived.Test.YthccccpcjafdcaaDoorTold
namespace Go.Proofs.YthccccpcjafdcaaDoor
open Go.RowKit

/-- What Text answers. -/
def WText (n : Bool) (xs : List Nat) (w : World) (e : Ending) (w' : World) : Prop :=
  Below w.heap.size w w' ∧
  ((LIM ≤ val xs ∧ e = .returned (.tuple #[.string ⟨#[]⟩, .int .i64 3])) ∨
   (val xs < LIM ∧ ∃ l, IsDec l (val xs) ∧ e = .returned (.tuple #[.string ⟨(if wv n xs < 0 then 45 :: l else l).toArray⟩, .int .i64 0])))
theorem sg_neg (z : Int) : decide (sg z < 0) = decide (z < 0) := by
  rw [decide_eq_decide]; unfold sg; split <;> (try split) <;> omega
set_option maxHeartbeats 1000000 in
set_option maxRecDepth 100000 in
theorem wtext_any (n : Bool) (a : Option Addr) (la ca : Nat) (xs : List Nat) (w : World) (hla : xs.length = la) (hba : la ≤ 1048576) (hca : la ≤ ca) (hna : a = none → ca = 0) (hra : Rd .u64 w a xs) (bx : Bd xs) :
    Calls Tryd.prog 62 #[.agg #[.bool n, .slice a la ca]] w (WText n xs w) := by
  have HN := Lib.hid hna
  have HR : Hid (∀ W, Below w.heap.size w W → Rd .u64 W a xs) := fun W h => hra.below h
  have HBX := Lib.hid bx
  clear hna hra bx
  go_enter Tryd.func62, Tryd.ntmps62
  go_wp2_with fail
  refine (wfits_any n a la ca xs _ hla hba hca (HR.out _ ((Below.refl _ _).alloc (Nat.le_refl _) _)) HBX.out).mono ?_
  rintro e w1 ⟨rfl, rfl⟩
  by_cases hlim : val xs < LIM
  · rw [decide_eq_true hlim]
    have HL := Lib.hid hlim
    clear hlim
    go_wp2_with fail
    have hb2 : Below w.heap.size w ((w.alloc (WO n a la ca)).alloc (WO n a la ca)) := ((Below.refl _ _).alloc (Nat.le_refl _) _).alloc (by simp) _
    refine (text_any a la ca xs _ hla hba hca HN.out (HR.out _ hb2) HBX.out).mono ?_
    rintro e w3 ht
    obtain ⟨hb3, ⟨hnf, _⟩ | ⟨_, l, hd, rfl⟩⟩ := ht.tells HBX.out
    · exact absurd (Nat.le_trans (lim_fl HBX.out HL.out) (by decide)) hnf
    have hb : Below w.heap.size w w3 := hb2.trans (hb3.mono hb2.size)
    have hc : w3.heap[w.heap.size]? = some (WO n a la ca) := by
      rw [hb3.block _ (by simp; omega)]; exact heap_kept (heap_new _ _) _
    have hc0 : w3.cell? ⟨w.heap.size, 0, none⟩ = some (.bool n) := by unfold WO at hc; simp [World.cell?, hc]
    have hc1 : w3.cell? ⟨w.heap.size, 1, none⟩ = some (.slice a la ca) := by unfold WO at hc; simp [World.cell?, hc]
    have HD := Lib.hid hd
    have HB := Lib.hid hb
    have hlen : l.length ≤ 2467 := hd.len_le (Nat.lt_of_lt_of_le HL.out lim_lt)
    clear hd hb hb2 hb3 ht hc
    go_wp2_with fail
    refine (wsign_any n a la ca xs _ hla hba hca (HR.out _ HB.out) HBX.out).mono ?_
    rintro e w4 ⟨rfl, rfl⟩
    have hs := sg_neg (wv n xs)
    by_cases hneg : wv n xs < 0
    · have hq : decide (sg (wv n xs) < 0) = true := by rw [hs, decide_eq_true_iff]; exact hneg
      have hadd : ∀ w, (Op.stringOp .add ⟨#[45]⟩ ⟨l.toArray⟩).run Tryd.prog w = .ok (.string ⟨(45 :: l).toArray⟩) w := fun w => run_string_add_lists w [45] l (by decide) (by omega)
      have HNEG := Lib.hid hneg
      clear hneg hs
      go_wp2
      go_ret2
      exact ⟨HB.out.alloc HB.out.size _, .inr ⟨HL.out, l, HD.out, by rw [if_pos HNEG.out]; rfl⟩⟩
    · have hq : decide (sg (wv n xs) < 0) = false := by rw [hs, decide_eq_false_iff_not]; exact hneg
      have HNEG := Lib.hid hneg
      clear hneg hs
      go_wp2
      go_ret2
      exact ⟨HB.out.alloc HB.out.size _, .inr ⟨HL.out, l, HD.out, by rw [if_neg (show ¬ (wv n xs < 0) by have := HNEG.out; omega)]; rfl⟩⟩
  · rw [decide_eq_false hlim]
    have HL := Lib.hid hlim
    clear hlim
    go_wp2
    go_ret2
    exact ⟨((Below.refl _ _).alloc (Nat.le_refl _) _).alloc (by simp) _, .inl ⟨Nat.le_of_not_lt HL.out, rfl⟩⟩

/-- A whole number and an error, told by what is known of them. -/
def WTold (Q : Int → Bool → List Nat → Prop) (w : World) (e : Ending) (w' : World) : Prop :=
  Below w.heap.size w w' ∧ ∃ n a c k zs, e = .returned (.tuple #[.agg #[.bool n, .slice a zs.length c], .int .i64 k]) ∧ own64 w' w.heap.size (.slice a zs.length c) zs ∧ Q k n zs
theorem WTold.set {Q : Int → Bool → List Nat → Prop} {w w' : World} {e : Ending} (h : WTold Q w e w') {g : Nat} (hg : RBlk w' g) (hw : w.heap.size ≤ g) (u0 u1 : Value) : WTold Q w e ((w'.setCell ⟨g, 0, none⟩ u0).setCell ⟨g, 1, none⟩ u1) := by
  obtain ⟨h0, n, a, c, k, zs, he, ho, hQ⟩ := h
  refine ⟨(h0.setCell hw u0).setCell hw u1, n, a, c, k, zs, he, ?_, hQ⟩
  have h1 := own64.aside ho hg 0 u0
  refine ((Chg.refl (fun k => k = g) _).setCell rfl u1).owns h1 fun k hk he => ?_
  obtain rfl : k = g := he
  rcases ho.2 with ⟨h0, _⟩ | ⟨g', c', cur, h0, _, hh, _⟩
  · rw [h0] at hk; cases hk
  · rw [h0] at hk
    obtain rfl : g' = k := by simpa [Value.ownBlock] using hk
    have h2 := hg.blk
    rw [hh] at h2
    simp [WO] at h2
theorem WTold.from {Q : Int → Bool → List Nat → Prop} {w0 w w' : World} {e : Ending} (h : WTold Q w e w') (hb : Below w0.heap.size w0 w) : WTold Q w0 e w' := by
  obtain ⟨h0, n, a, c, k, zs, he, ho, hQ⟩ := h
  exact ⟨hb.trans (h0.mono hb.size), n, a, c, k, zs, he, owns_base ho hb.size, hQ⟩
theorem WTold.told {Q : Int → Bool → List Nat → Prop} {w w' : World} {e : Ending} (h : WTold Q w e w') : ∃ n a l c k, e = .returned (.tuple #[.agg #[.bool n, .slice a l c], .int .i64 k]) := by
  obtain ⟨_, n, a, c, k, zs, he, _⟩ := h
  exact ⟨_, _, _, _, _, he⟩

/-- What the closure tells. -/
def MadeTells (n : Bool) (k0 : Int) (N : Nat) (k : Int) (m : Bool) (zs : List Nat) : Prop :=
  (k0 ≠ 0 ∧ k = k0 ∧ m = false ∧ zs = []) ∨ (k0 = 0 ∧ LIM ≤ N ∧ k = 3 ∧ m = false ∧ zs = []) ∨ (k0 = 0 ∧ N < LIM ∧ k = 0 ∧ m = (n && decide (0 < N)) ∧ Num zs N)
set_option maxHeartbeats 1000000 in
theorem mader_any (n : Bool) (p N : Nat) (a : Option Addr) (c : Nat) (zs : List Nat) (k0 : Int) (w0 w1 : World) (hp : w1.cell? ⟨p, 0, none⟩ = some (.bool n)) (hb : Below w0.heap.size w0 w1)
    (ho : own64 w1 w0.heap.size (.slice a zs.length c) zs) (hl : zs.length ≤ 1048576) (hN : k0 = 0 → Num zs N) :
    Calls Tryd.prog 89 #[.slice a zs.length c, .int .i64 k0, .pointer (some ⟨p, 0, none⟩)] w1 fun e w' => Below w1.heap.size w1 w' ∧ WTold (MadeTells n k0 N) w0 e w' := by
  by_cases hk : k0 = 0
  · subst hk
    refine (made_num n a zs.length c p N zs w1 hp rfl hl (own64.room ho).1 (own64.rd ho).2 (hN rfl)).mono ?_
    rintro e w2 ⟨hb2, ⟨h1, rfl⟩ | ⟨h1, rfl⟩⟩
    · exact ⟨hb2, hb.trans (hb2.mono hb.size), false, none, 0, 3, [], rfl, own64_nil _ _, .inr (.inl ⟨rfl, h1, rfl, rfl, rfl⟩)⟩
    · exact ⟨hb2, hb.trans (hb2.mono hb.size), _, a, c, 0, zs, rfl, own64.under ho hb2, .inr (.inr ⟨rfl, h1, rfl, rfl, hN rfl⟩)⟩
  · refine (made_err a zs.length c p k0 w1 (by simpa using hk)).mono ?_
    rintro e w2 ⟨rfl, hb2⟩
    exact ⟨hb2, hb.trans (hb2.mono hb.size), false, none, 0, k0, [], rfl, own64_nil _ _, .inl ⟨hk, rfl, rfl, rfl⟩⟩

/-- What Parse tells. -/
def WParseTells (l : List UInt8) (k : Int) (m : Bool) (zs : List Nat) : Prop :=
  (65536 < l.length ∧ k = 3 ∧ m = false ∧ zs = []) ∨ (l.length ≤ 65536 ∧ decB (Lib.trimPrefix l [45]) = false ∧ k = 12 ∧ m = false ∧ zs = []) ∨
  (l.length ≤ 65536 ∧ decB (Lib.trimPrefix l [45]) = true ∧ LIM ≤ dval (Lib.trimPrefix l [45]) ∧ k = 3 ∧ m = false ∧ zs = []) ∨
  (l.length ≤ 65536 ∧ decB (Lib.trimPrefix l [45]) = true ∧ dval (Lib.trimPrefix l [45]) < LIM ∧ k = 0 ∧ m = (Lib.hasPrefix l [45] && decide (0 < dval (Lib.trimPrefix l [45]))) ∧ Num zs (dval (Lib.trimPrefix l [45])))
theorem trimPrefix_len (l p : List UInt8) : (Lib.trimPrefix l p).length ≤ l.length := by unfold Lib.trimPrefix; split <;> simp
end Go.Proofs.YthccccpcjafdcaaDoor
