import Derived.Test.YtfjhmnbbjknflaaGreatDoorWGen
namespace Go.Proofs.YtfjhmnbbjknflaaGreatDoor
open Go.RowKit

/-- What a law knows: numbers and their worths, structs in their blocks. -/
structure St (w0 : World) (L : List (Value × Int)) (G : List (Nat × Bool × Option Addr × Nat × Nat)) (W : World) : Prop where
  vals : ∀ p ∈ L, IsW w0.heap.size W p.1 p.2
  boxes : ∀ p ∈ G, W.heap[p.1]? = some (WO p.2.1 p.2.2.1 p.2.2.2.1 p.2.2.2.2)
  bel : Below w0.heap.size w0 W
theorem St.init (w0 : World) : St w0 [] [] w0 := ⟨fun _ h => (by cases h), fun _ h => (by cases h), Below.refl _ _⟩
theorem St.below {w0 W W' : World} {L : List (Value × Int)} {G : List (Nat × Bool × Option Addr × Nat × Nat)} (h : St w0 L G W) (hb : Below W.heap.size W W') : St w0 L G W' :=
  ⟨fun p hp => (h.vals p hp).below hb, fun p hp => by rw [hb.block _ (lt_of_block (h.boxes p hp))]; exact h.boxes p hp, h.bel.trans (hb.mono h.bel.size)⟩
theorem St.drew {w0 W : World} {L : List (Value × Int)} {G : List (Nat × Bool × Option Addr × Nat × Nat)} (h : St w0 L G W) : St w0 L G W.drew := h.below ((Below.refl _ _).drew)
theorem St.push {w0 W : World} {L : List (Value × Int)} {G : List (Nat × Bool × Option Addr × Nat × Nat)} (h : St w0 L G W) {v : Value} {Z : Int} (hv : IsW w0.heap.size W v Z) : St w0 ((v, Z) :: L) G W :=
  ⟨fun p hp => by
    rcases List.mem_cons.1 hp with rfl | hp
    · exact hv
    · exact h.vals p hp, h.boxes, h.bel⟩
theorem St.new {w0 W : World} {L : List (Value × Int)} {G : List (Nat × Bool × Option Addr × Nat × Nat)} (h : St w0 L G W) (g : Nat) (hg : W.heap.size = g) (n : Bool) (a : Option Addr) (l c : Nat) : St w0 L ((g, n, a, l, c) :: G) (W.alloc (.cells #[.bool n, .slice a l c] 24)) := by
  have h2 := h.below ((Below.refl _ _).alloc (Nat.le_refl _) (.cells #[.bool n, .slice a l c] 24))
  refine ⟨h2.vals, fun p hp => ?_, h2.bel⟩
  rcases List.mem_cons.1 hp with rfl | hp
  · subst hg; exact heap_new _ _
  · exact h2.boxes p hp
theorem St.box {w0 W : World} {L : List (Value × Int)} {G : List (Nat × Bool × Option Addr × Nat × Nat)} (h : St w0 L G W) {g : Nat} {n : Bool} {a : Option Addr} {l c : Nat} (hm : (g, n, a, l, c) ∈ G) :
    W.cell? ⟨g, 0, none⟩ = some (.bool n) ∧ W.cell? ⟨g, 1, none⟩ = some (.slice a l c) := by
  have h2 := wo_cells (h.boxes _ hm)
  exact ⟨h2.1, h2.2.1⟩
theorem St.val {w0 W : World} {L : List (Value × Int)} {G : List (Nat × Bool × Option Addr × Nat × Nat)} (h : St w0 L G W) {v : Value} {Z : Int} (hm : (v, Z) ∈ L) : IsW w0.heap.size W v Z := h.vals _ hm
theorem St.env {w0 W : World} {L : List (Value × Int)} {G : List (Nat × Bool × Option Addr × Nat × Nat)} (h : St w0 L G W) : Env w0.heap.size W L := ⟨h.bel.size, h.vals⟩
theorem IsW.form {B : Nat} {w : World} {v : Value} {Z : Int} (h : IsW B w v Z) : ∃ n a l c, v = .agg #[.bool n, .slice a l c] := by
  obtain ⟨a, c, zs, h1, _⟩ := h
  exact ⟨_, a, _, c, h1⟩
theorem IsW.worth {B : Nat} {w : World} {n : Bool} {a : Option Addr} {l c : Nat} {Z : Int} (h : IsW B w (.agg #[.bool n, .slice a l c]) Z) : IsW B w (.agg #[.bool false, .slice a l c]) Z.natAbs := by
  obtain ⟨a', c', zs, h1, h2, h3, h4⟩ := h
  simp only [Value.agg.injEq, Array.mk.injEq, List.cons.injEq, Value.slice.injEq, and_true] at h1
  obtain ⟨_, rfl, rfl, rfl⟩ := h1
  exact ⟨a, c, zs, by rw [decide_eq_false (by omega)], h2, h3, h4⟩
theorem isw_zero (B : Nat) (w : World) : IsW B w (.agg #[.bool false, .slice none 0 0]) 0 := ⟨none, 0, [], rfl, own64_nil _ _, Num.nil, Nat.lt_of_lt_of_le Nat.zero_lt_one (Nat.succ_le_of_lt (lim_one (x := 0) (by decide)))⟩
/-- An answer in its form. -/
def SV (w0 : World) (L : List (Value × Int)) (G : List (Nat × Bool × Option Addr × Nat × Nat)) (Z : Int) (e : Ending) (W : World) : Prop :=
  ∃ n a l c, e = .returned (.agg #[.bool n, .slice a l c]) ∧ St w0 ((.agg #[.bool n, .slice a l c], Z) :: L) G W
/-- An answer and its error's number. -/
def SE (w0 : World) (L : List (Value × Int)) (G : List (Nat × Bool × Option Addr × Nat × Nat)) (Z : Int) (k : Int) (e : Ending) (W : World) : Prop :=
  ∃ n a l c, e = .returned (.tuple #[.agg #[.bool n, .slice a l c], .int .i64 k]) ∧ St w0 ((.agg #[.bool n, .slice a l c], Z) :: L) G W
theorem St.sv {w0 W W' : World} {L : List (Value × Int)} {G : List (Nat × Bool × Option Addr × Nat × Nat)} (h : St w0 L G W) {Z : Int} {e : Ending} (hl : Z.natAbs < LIM) (hp : IPost Z W e W') : SV w0 L G Z e W' := by
  obtain ⟨hb, a, c, zs, rfl, ho, hN⟩ := hp
  exact ⟨_, a, _, c, rfl, (h.below hb).push ⟨a, c, zs, rfl, owns_base ho h.bel.size, hN, hl⟩⟩
theorem St.se {w0 W W' : World} {L : List (Value × Int)} {G : List (Nat × Bool × Option Addr × Nat × Nat)} (h : St w0 L G W) {Z k : Int} {e : Ending} {Q : Int → Bool → List Nat → Prop} (hl : Z.natAbs < LIM) (hp : WTold Q W e W')
    (hq : ∀ k' p zs, Q k' p zs → k' = k ∧ p = decide (Z < 0) ∧ Num zs Z.natAbs) : SE w0 L G Z k e W' := by
  obtain ⟨hb, p, a, c, k', zs, rfl, ho, hQ⟩ := hp
  obtain ⟨rfl, rfl, hN⟩ := hq _ _ _ hQ
  exact ⟨_, a, _, c, rfl, (h.below hb).push ⟨a, c, zs, rfl, owns_base ho h.bel.size, hN, hl⟩⟩
theorem len_lim64 {zs : List Nat} {n : Nat} (h : Num zs n) (hn : n < LIM) : zs.length ≤ 1048575 := by
  have := (h.len_le (k := 64)).2 hn; omega
theorem s_mul {w0 W : World} {L : List (Value × Int)} {G : List (Nat × Bool × Option Addr × Nat × Nat)} (h : St w0 L G W) (ht : Tabs W) (hT : Trig W) {v1 v2 : Value} {W1 W2 : Int} (h1 : (v1, W1) ∈ L) (h2 : (v2, W2) ∈ L) :
    Calls Tryz.prog 17 #[v1, v2] W fun e W' => ((W1 * W2).natAbs < LIM ∧ SE w0 L G (W1 * W2) 0 e W') ∨ (LIM ≤ (W1 * W2).natAbs ∧ SE w0 L G 0 3 e W') := by
  obtain ⟨a, ca, xs, rfl, ho1, hN1, hl1⟩ := h.val h1
  obtain ⟨b, cb, ys, rfl, ho2, hN2, hl2⟩ := h.val h2
  have e1 := wv_int hN1
  have e2 := wv_int hN2
  refine (wmul_any _ _ a b _ ca _ cb xs ys W rfl rfl (len_lim hN1 hl1) (len_lim hN2 hl2) (own64.room ho1).1 (own64.room ho2).1 (own64.rd ho1).2 (own64.rd ho2).2 hN1.bd hN2.bd ht hT).mono ?_
  rw [e1, e2]
  intro e w' hp
  have hx : val xs < LIM ∧ val ys < LIM := by rw [hN1.vl, hN2.vl]; exact ⟨hl1, hl2⟩
  by_cases hl : (W1 * W2).natAbs < LIM
  · refine .inl ⟨hl, h.se hl hp fun k p zs hq => ?_⟩
    rcases hq with ⟨g, _⟩ | ⟨_, _, g⟩
    · exact absurd ⟨hx, hl⟩ g
    · exact g
  · refine .inr ⟨Nat.le_of_not_lt hl, h.se (Z := 0) (Nat.lt_of_lt_of_le Nat.zero_lt_one (Nat.succ_le_of_lt (lim_one (x := 0) (by decide)))) hp fun k p zs hq => ?_⟩
    rcases hq with ⟨_, rfl, rfl, rfl⟩ | ⟨_, g, _⟩
    · exact ⟨rfl, rfl, Num.nil⟩
    · exact absurd g hl
theorem s_sub {w0 W : World} {L : List (Value × Int)} {G : List (Nat × Bool × Option Addr × Nat × Nat)} (h : St w0 L G W) (ht : TabSum W) {v1 v2 : Value} {W1 W2 : Int} (h1 : (v1, W1) ∈ L) (h2 : (v2, W2) ∈ L) (hl : (W1 - W2).natAbs < LIM) :
    Calls Tryz.prog 16 #[v1, v2] W fun e W' => SE w0 L G (W1 - W2) 0 e W' := by
  obtain ⟨a, ca, xs, rfl, ho1, hN1, hl1⟩ := h.val h1
  obtain ⟨b, cb, ys, rfl, ho2, hN2, hl2⟩ := h.val h2
  have e1 := wv_int hN1
  have e2 := wv_int hN2
  refine (wsub_any _ _ a b _ ca _ cb xs ys W rfl rfl (len_lim hN1 hl1) (len_lim hN2 hl2) (own64.room ho1).1 (own64.room ho2).1 (own64.rd ho1).2 (own64.rd ho2).2 hN1.bd hN2.bd ht (own64.none ho1) (own64.none ho2)).mono ?_
  rw [e1, e2]
  intro e w' hp
  have hx : val xs < LIM ∧ val ys < LIM := by rw [hN1.vl, hN2.vl]; exact ⟨hl1, hl2⟩
  refine h.se hl hp fun k p zs hq => ?_
  rcases hq with ⟨g, _⟩ | ⟨_, _, g⟩
  · exact absurd ⟨hx, hl⟩ g
  · exact g
theorem s_neg {w0 W : World} {L : List (Value × Int)} {G : List (Nat × Bool × Option Addr × Nat × Nat)} (h : St w0 L G W) {v1 : Value} {W1 : Int} (h1 : (v1, W1) ∈ L) :
    Calls Tryz.prog 20 #[v1] W fun e W' => SE w0 L G (-W1) 0 e W' := by
  obtain ⟨a, ca, xs, rfl, ho1, hN1, hl1⟩ := h.val h1
  have e1 := wv_int hN1
  refine (wneg_any _ a _ ca xs W rfl (len_lim hN1 hl1) (own64.room ho1).1 (own64.none ho1) (own64.rd ho1).2 hN1.bd).mono ?_
  rw [e1]
  intro e w' hp
  have hl : (-W1).natAbs < LIM := by rw [Int.natAbs_neg]; exact hl1
  refine h.se hl hp fun k p zs hq => ?_
  rcases hq with ⟨g, _⟩ | ⟨_, _, g⟩
  · exact absurd ⟨trivial, hl⟩ g
  · exact g
theorem s_quo {w0 W : World} {L : List (Value × Int)} {G : List (Nat × Bool × Option Addr × Nat × Nat)} (h : St w0 L G W) (ht : Tabs W) {v1 v2 : Value} {W1 W2 : Int} (h1 : (v1, W1) ∈ L) (h2 : (v2, W2) ∈ L) (h0 : W2 ≠ 0) :
    Calls Tryz.prog 18 #[v1, v2] W fun e W' => SE w0 L G (Int.tdiv W1 W2) 0 e W' := by
  obtain ⟨a, ca, xs, rfl, ho1, hN1, hl1⟩ := h.val h1
  obtain ⟨b, cb, ys, rfl, ho2, hN2, hl2⟩ := h.val h2
  have e1 := wv_int hN1
  have e2 := wv_int hN2
  refine (wquo_any _ _ a b _ ca _ cb xs ys W rfl rfl (len_lim64 hN1 hl1) (len_lim64 hN2 hl2) (own64.room ho1).1 (own64.room ho2).1 (own64.none ho1) (own64.rd ho1).2 (own64.rd ho2).2 hN1.bd hN2.bd ht).mono ?_
  rw [e1, e2]
  intro e w' hp
  have hx : val xs < LIM ∧ val ys < LIM := by rw [hN1.vl, hN2.vl]; exact ⟨hl1, hl2⟩
  have h3 : 0 < val ys := by rw [hN2.vl]; omega
  have hl : (Int.tdiv W1 W2).natAbs < LIM := by rw [Int.natAbs_tdiv]; exact Nat.lt_of_le_of_lt (Nat.div_le_self _ _) hl1
  refine h.se hl hp fun k p zs hq => ?_
  rcases hq with ⟨g, _⟩ | ⟨_, g, _⟩ | ⟨_, _, g⟩
  · exact absurd hx g
  · omega
  · exact g
theorem s_quo0 {w0 W : World} {L : List (Value × Int)} {G : List (Nat × Bool × Option Addr × Nat × Nat)} (h : St w0 L G W) (ht : Tabs W) {v1 v2 : Value} {W1 W2 : Int} (h1 : (v1, W1) ∈ L) (h2 : (v2, W2) ∈ L) (h0 : W2 = 0) :
    Calls Tryz.prog 18 #[v1, v2] W fun e W' => SE w0 L G 0 11 e W' := by
  obtain ⟨a, ca, xs, rfl, ho1, hN1, hl1⟩ := h.val h1
  obtain ⟨b, cb, ys, rfl, ho2, hN2, hl2⟩ := h.val h2
  have e1 := wv_int hN1
  have e2 := wv_int hN2
  refine (wquo_any _ _ a b _ ca _ cb xs ys W rfl rfl (len_lim64 hN1 hl1) (len_lim64 hN2 hl2) (own64.room ho1).1 (own64.room ho2).1 (own64.none ho1) (own64.rd ho1).2 (own64.rd ho2).2 hN1.bd hN2.bd ht).mono ?_
  rw [e1, e2]
  intro e w' hp
  have hx : val xs < LIM ∧ val ys < LIM := by rw [hN1.vl, hN2.vl]; exact ⟨hl1, hl2⟩
  have h3 : val ys = 0 := by rw [hN2.vl]; omega
  refine h.se (Z := 0) (Nat.lt_of_lt_of_le Nat.zero_lt_one (Nat.succ_le_of_lt (lim_one (x := 0) (by decide)))) hp fun k p zs hq => ?_
  rcases hq with ⟨g, _⟩ | ⟨_, _, rfl, rfl, rfl⟩ | ⟨_, g, _⟩
  · exact absurd hx g
  · exact ⟨rfl, rfl, Num.nil⟩
  · omega
theorem s_rem {w0 W : World} {L : List (Value × Int)} {G : List (Nat × Bool × Option Addr × Nat × Nat)} (h : St w0 L G W) {v1 v2 : Value} {W1 W2 : Int} (h1 : (v1, W1) ∈ L) (h2 : (v2, W2) ∈ L) (h0 : W2 ≠ 0) :
    Calls Tryz.prog 19 #[v1, v2] W fun e W' => SE w0 L G (Int.tmod W1 W2) 0 e W' := by
  obtain ⟨a, ca, xs, rfl, ho1, hN1, hl1⟩ := h.val h1
  obtain ⟨b, cb, ys, rfl, ho2, hN2, hl2⟩ := h.val h2
  have e1 := wv_int hN1
  have e2 := wv_int hN2
  refine (wrem_any _ _ a b _ ca _ cb xs ys W rfl rfl (len_lim64 hN1 hl1) (len_lim64 hN2 hl2) (own64.room ho1).1 (own64.room ho2).1 (own64.none ho1) (own64.rd ho1).2 (own64.rd ho2).2 hN1.bd hN2.bd).mono ?_
  rw [e1, e2]
  intro e w' hp
  have hx : val xs < LIM ∧ val ys < LIM := by rw [hN1.vl, hN2.vl]; exact ⟨hl1, hl2⟩
  have h3 : 0 < val ys := by rw [hN2.vl]; omega
  have hl : (Int.tmod W1 W2).natAbs < LIM := by rw [Int.natAbs_tmod]; exact Nat.lt_of_le_of_lt (Nat.mod_le _ _) hl1
  refine h.se hl hp fun k p zs hq => ?_
  rcases hq with ⟨g, _⟩ | ⟨_, g, _⟩ | ⟨_, _, g⟩
  · exact absurd hx g
  · omega
  · exact g
theorem s_rem0 {w0 W : World} {L : List (Value × Int)} {G : List (Nat × Bool × Option Addr × Nat × Nat)} (h : St w0 L G W) {v1 v2 : Value} {W1 W2 : Int} (h1 : (v1, W1) ∈ L) (h2 : (v2, W2) ∈ L) (h0 : W2 = 0) :
    Calls Tryz.prog 19 #[v1, v2] W fun e W' => SE w0 L G 0 11 e W' := by
  obtain ⟨a, ca, xs, rfl, ho1, hN1, hl1⟩ := h.val h1
  obtain ⟨b, cb, ys, rfl, ho2, hN2, hl2⟩ := h.val h2
  have e1 := wv_int hN1
  have e2 := wv_int hN2
  refine (wrem_any _ _ a b _ ca _ cb xs ys W rfl rfl (len_lim64 hN1 hl1) (len_lim64 hN2 hl2) (own64.room ho1).1 (own64.room ho2).1 (own64.none ho1) (own64.rd ho1).2 (own64.rd ho2).2 hN1.bd hN2.bd).mono ?_
  rw [e1, e2]
  intro e w' hp
  have hx : val xs < LIM ∧ val ys < LIM := by rw [hN1.vl, hN2.vl]; exact ⟨hl1, hl2⟩
  have h3 : val ys = 0 := by rw [hN2.vl]; omega
  refine h.se (Z := 0) (Nat.lt_of_lt_of_le Nat.zero_lt_one (Nat.succ_le_of_lt (lim_one (x := 0) (by decide)))) hp fun k p zs hq => ?_
  rcases hq with ⟨g, _⟩ | ⟨_, _, rfl, rfl, rfl⟩ | ⟨_, g, _⟩
  · exact absurd hx g
  · exact ⟨rfl, rfl, Num.nil⟩
  · omega
theorem s_int {w0 W : World} {L : List (Value × Int)} {G : List (Nat × Bool × Option Addr × Nat × Nat)} (h : St w0 L G W) (z : Int) (h1 : -9223372036854775808 ≤ z) (h2 : z ≤ 9223372036854775807) :
    Calls Tryz.prog 37 #[.int .i64 z] W fun e W' => SV w0 L G z e W' :=
  (int_any z W h1 h2).mono fun _ _ hp => h.sv (lim_one (by omega)) hp
theorem s_sign {w0 W : World} {L : List (Value × Int)} {G : List (Nat × Bool × Option Addr × Nat × Nat)} (h : St w0 L G W) {v : Value} {Z : Int} (h1 : (v, Z) ∈ L) :
    Calls Tryz.prog 33 #[v] W fun e W' => e = .returned (.int .i64 (sg Z)) ∧ St w0 L G W' := by
  obtain ⟨a, ca, xs, rfl, ho1, hN1, hl1⟩ := h.val h1
  refine (wsign_any _ a _ ca xs W rfl (len_lim hN1 hl1) (own64.room ho1).1 (own64.rd ho1).2 hN1.bd).mono ?_
  rintro e w' ⟨rfl, rfl⟩
  rw [wv_int hN1]
  exact ⟨rfl, h.below ((Below.refl W.heap.size W).alloc (Nat.le_refl _) (WO (decide (Z < 0)) a xs.length ca))⟩
theorem s_cmp {w0 W : World} {L : List (Value × Int)} {G : List (Nat × Bool × Option Addr × Nat × Nat)} (h : St w0 L G W) (ht : Tabs W) {v1 v2 : Value} {W1 W2 : Int} (h1 : (v1, W1) ∈ L) (h2 : (v2, W2) ∈ L) :
    Calls Tryz.prog 31 #[v1, v2] W fun e W' => e = .returned (.int .i64 (sg (W1 - W2))) ∧ St w0 L G W' := by
  obtain ⟨a, ca, xs, rfl, ho1, hN1, hl1⟩ := h.val h1
  obtain ⟨b, cb, ys, rfl, ho2, hN2, hl2⟩ := h.val h2
  refine (wcmp_any _ _ a b _ ca _ cb xs ys W rfl rfl (len_lim hN1 hl1) (len_lim hN2 hl2) (own64.room ho1).1 (own64.room ho2).1 (own64.rd ho1).2 (own64.rd ho2).2 hN1.bd hN2.bd ht).mono ?_
  rintro e w' ⟨rfl, hb⟩
  rw [wv_int hN1, wv_int hN2]
  exact ⟨rfl, h.below hb⟩
theorem s_works {w0 W : World} {L : List (Value × Int)} {G : List (Nat × Bool × Option Addr × Nat × Nat)} (h : St w0 L G W) (ht : Tabs W) :
    Calls Tryz.prog 14 #[] W fun e W' => e = .returned (.bool true) ∧ St w0 L G W' :=
  (wworks_any W ht).mono fun _ _ hp => ⟨hp.1, h.below hp.2⟩
end Go.Proofs.YtfjhmnbbjknflaaGreatDoor
