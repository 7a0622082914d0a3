import Derived.Test.YthccccpcjafdcaaDoorWPow
import Derived.Test.YthccccpcjafdcaaDoorBt
import Derived.Test.YthccccpcjafdcaaDoorNParts
import Derived.Deep.DeepCutAuto
namespace Go.Proofs.YthccccpcjafdcaaDoor
open Go.RowKit

theorem St.top {w0 W : World} {L : List (Value × Int)} {G : List (Nat × Bool × Option Addr × Nat × Nat)} {g : Nat} {n : Bool} {a : Option Addr} {l c : Nat} (h : St w0 L ((g, n, a, l, c) :: G) W) :
    W.cell? ⟨g, 0, none⟩ = some (.bool n) ∧ W.cell? ⟨g, 1, none⟩ = some (.slice a l c) ∧ W.frozen? ⟨g, 0, none⟩ = false ∧ W.frozen? ⟨g, 1, none⟩ = false := h.cells List.mem_cons_self
theorem St.fresh {w0 W : World} {L : List (Value × Int)} {G : List (Nat × Bool × Option Addr × Nat × Nat)} (h : St w0 L G W) : (∀ p ∈ G, p.1 ≠ W.heap.size) ∧ w0.heap.size ≤ W.heap.size :=
  ⟨fun p hp => Nat.ne_of_lt (lt_of_block (h.boxes p hp)), h.bel.size⟩
/-- A number, if it fits; its error's number. -/
def pz (Z : Int) : Int := if Z.natAbs < LIM then Z else 0
def pk (Z : Int) : Int := if Z.natAbs < LIM then 0 else 3
theorem pz_fits {Z : Int} (h : Z.natAbs < LIM) : pz Z = Z := if_pos h
theorem pk_fits {Z : Int} (h : Z.natAbs < LIM) : pk Z = 0 := if_pos h
theorem s_mulC {w0 W : World} {L : List (Value × Int)} {G : List (Nat × Bool × Option Addr × Nat × Nat)} (h : St w0 L G W) (ht : Tabs W) (hT : Trig W) {v1 v2 : Value} {W1 W2 : Int} (h1 : (v1, W1) ∈ L) (h2 : (v2, W2) ∈ L) :
    Calls Tryd.prog 35 #[v1, v2] W fun e W' => SE w0 L G (pz (W1 * W2)) (pk (W1 * W2)) e W' := by
  refine (s_mul h ht hT h1 h2).mono ?_
  rintro e w' (⟨hl, hs⟩ | ⟨hl, hs⟩)
  · rw [pz_fits hl, pk_fits hl]; exact hs
  · rw [show pz (W1 * W2) = 0 from if_neg (by omega), show pk (W1 * W2) = 3 from if_neg (by omega)]; exact hs
theorem s_powC {w0 W : World} {L : List (Value × Int)} {G : List (Nat × Bool × Option Addr × Nat × Nat)} (h : St w0 L G W) (ht : Tabs W) (hT : Trig W) {v1 v2 : Value} {W1 W2 : Int} (h1 : (v1, W1) ∈ L) (h2 : (v2, W2) ∈ L) (h0 : 0 ≤ W2) :
    Calls Tryd.prog 34 #[v1, v2] W fun e W' => SE w0 L G (pz (W1 ^ W2.toNat)) (pk (W1 ^ W2.toNat)) e W' := by
  obtain ⟨a, ca, xs, rfl, ho1, hN1, hl1⟩ := h.val h1
  obtain ⟨b, cb, ys, rfl, ho2, hN2, hl2⟩ := h.val h2
  refine (wpow_any _ _ a b _ ca _ cb xs ys W rfl rfl (len_lim hN1 hl1) (len_lim hN2 hl2) (own64.room ho1).1 (own64.room ho2).1 (own64.rd ho1).2 (own64.rd ho2).2 hN1.bd hN2.bd ht hT).mono ?_
  rw [wv_int hN1, wv_int hN2]
  intro e w' hp
  have hx : val xs < LIM ∧ val ys < LIM := by rw [hN1.vl, hN2.vl]; exact ⟨hl1, hl2⟩
  have h00 : (0 : Int).natAbs < LIM := Nat.lt_of_lt_of_le Nat.zero_lt_one (Nat.succ_le_of_lt (lim_one (x := 0) (by decide)))
  by_cases hl : (W1 ^ W2.toNat).natAbs < LIM
  · rw [pz_fits hl, pk_fits hl]
    refine h.se hl hp fun k p zs hq => ?_
    rcases hq with ⟨g, _⟩ | ⟨_, g, _⟩ | ⟨_, _, g, _⟩ | ⟨_, _, _, g⟩
    · exact absurd hx g
    · omega
    · omega
    · exact g
  · rw [show pz (W1 ^ W2.toNat) = 0 from if_neg hl, show pk (W1 ^ W2.toNat) = 3 from if_neg hl]
    refine h.se h00 hp fun k p zs hq => ?_
    rcases hq with ⟨g, _⟩ | ⟨_, g, _⟩ | ⟨_, _, _, rfl, rfl, rfl⟩ | ⟨_, _, g, _⟩
    · exact absurd hx g
    · omega
    · exact ⟨rfl, rfl, Num.nil⟩
    · exact absurd g hl
theorem s_powB {w0 W : World} {L : List (Value × Int)} {G : List (Nat × Bool × Option Addr × Nat × Nat)} (h : St w0 L G W) (ht : Tabs W) (hT : Trig W) {v1 v2 : Value} {W1 W2 : Int} (h1 : (v1, W1) ∈ L) (h2 : (v2, W2) ∈ L) (h0 : W2 < 0) :
    Calls Tryd.prog 34 #[v1, v2] W fun e W' => SE w0 L G 0 20 e W' := by
  obtain ⟨a, ca, xs, rfl, ho1, hN1, hl1⟩ := h.val h1
  obtain ⟨b, cb, ys, rfl, ho2, hN2, hl2⟩ := h.val h2
  refine (wpow_any _ _ a b _ ca _ cb xs ys W rfl rfl (len_lim hN1 hl1) (len_lim hN2 hl2) (own64.room ho1).1 (own64.room ho2).1 (own64.rd ho1).2 (own64.rd ho2).2 hN1.bd hN2.bd ht hT).mono ?_
  rw [wv_int hN1, wv_int hN2]
  intro e w' hp
  have hx : val xs < LIM ∧ val ys < LIM := by rw [hN1.vl, hN2.vl]; exact ⟨hl1, hl2⟩
  have h00 : (0 : Int).natAbs < LIM := Nat.lt_of_lt_of_le Nat.zero_lt_one (Nat.succ_le_of_lt (lim_one (x := 0) (by decide)))
  refine h.se h00 hp fun k p zs hq => ?_
  rcases hq with ⟨g, _⟩ | ⟨_, _, rfl, rfl, rfl⟩ | ⟨_, g, _⟩ | ⟨_, g, _⟩
  · exact absurd hx g
  · exact ⟨rfl, rfl, Num.nil⟩
  · omega
  · omega

theorem s_mulE {w0 W : World} {L : List (Value × Int)} {G : List (Nat × Bool × Option Addr × Nat × Nat)} (h : St w0 L G W) (ht : Tabs W) (hT : Trig W) {v1 v2 : Value} {W1 W2 : Int} (h1 : (v1, W1) ∈ L) (h2 : (v2, W2) ∈ L) {Z K : Int} (hz : W1 * W2 = Z) (hk : pk Z = K) :
    Calls Tryd.prog 35 #[v1, v2] W fun e W' => SE w0 L G (pz Z) K e W' := by
  subst hz hk; exact s_mulC h ht hT h1 h2
theorem s_powE {w0 W : World} {L : List (Value × Int)} {G : List (Nat × Bool × Option Addr × Nat × Nat)} (h : St w0 L G W) (ht : Tabs W) (hT : Trig W) {v1 v2 : Value} {W1 W2 : Int} (h1 : (v1, W1) ∈ L) (h2 : (v2, W2) ∈ L) (n : Nat) (hn : W2 = (n : Int)) {Z K : Int} (hz : W1 ^ n = Z) (hk : pk Z = K) :
    Calls Tryd.prog 34 #[v1, v2] W fun e W' => SE w0 L G (pz Z) K e W' := by
  subst hz hk hn
  have h0 := s_powC h ht hT h1 h2 (Int.natCast_nonneg n)
  rw [Int.toNat_natCast] at h0
  exact h0
theorem s_powF {w0 W : World} {L : List (Value × Int)} {G : List (Nat × Bool × Option Addr × Nat × Nat)} (h : St w0 L G W) (ht : Tabs W) (hT : Trig W) {v1 v2 : Value} {W1 W2 : Int} (h1 : (v1, W1) ∈ L) (h2 : (v2, W2) ∈ L) (n : Nat) (hn : W2 = (n : Int)) (hl : (W1 ^ n).natAbs < LIM) :
    Calls Tryd.prog 34 #[v1, v2] W fun e W' => SE w0 L G (W1 ^ n) 0 e W' := by
  have h0 := s_powE h ht hT h1 h2 n hn rfl (pk_fits hl)
  rw [pz_fits hl] at h0
  exact h0
set_option maxHeartbeats 1000000 in
theorem pick21_any (i : Int) (w : World) (_h1 : -9223372036854775808 ≤ i) (_h2 : i ≤ 9223372036854775807) :
    Calls Tryd.prog 32 #[.int .i64 i, .int .i64 21] w fun e w' => ∃ m : Nat, e = .returned (.int .i64 (m : Nat)) ∧ m < 21 ∧ w = w' := by
  have g1 : i.tmod 21 < 21 := Int.tmod_lt_of_pos _ (by decide)
  have g2 : -21 < i.tmod 21 := by
    have h : (-i).tmod 21 < 21 := Int.tmod_lt_of_pos _ (by decide)
    rw [Int.neg_tmod] at h
    omega
  go_enter Tryd.func32, Tryd.ntmps32
  obtain ⟨t, ht⟩ : ∃ t, i.tmod 21 = t := ⟨_, rfl⟩
  rw [ht] at g1 g2
  by_cases hn : t < 0
  · have hd : decide (t < 0) = true := by simp; omega
    go_wp2_with (simp only [ht])
    go_ret
    exact ⟨(t + 21).toNat, ret_int (by omega), by omega, rfl⟩
  · have hd : decide (t < 0) = false := by simp; omega
    go_wp2_with (simp only [ht])
    go_ret
    exact ⟨t.toNat, ret_int (by omega), by omega, rfl⟩
end Go.Proofs.YthccccpcjafdcaaDoor
