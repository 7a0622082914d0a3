import Derived.Test.YtfjhmnbbjknflaaGreatDoorWPowA
namespace Go.Proofs.YtfjhmnbbjknflaaGreatDoor
open Go.RowKit

theorem St.alloc {w0 W : World} {L : List (Value × Int)} {G : List (Nat × Bool × Option Addr × Nat × Nat)} (h : St w0 L G W) (o : Obj) : St w0 L G (W.alloc o) := h.below ((Below.refl _ _).alloc (Nat.le_refl _) _)
theorem St.held {w0 W : World} {L : List (Value × Int)} {G : List (Nat × Bool × Option Addr × Nat × Nat)} (h : St w0 L G W) {g : Nat} {n : Bool} {a : Option Addr} {l c : Nat} (hm : (g, n, a, l, c) ∈ G) : Held W g := ⟨_, _, _, _, h.boxes _ hm⟩
theorem St.cells {w0 W : World} {L : List (Value × Int)} {G : List (Nat × Bool × Option Addr × Nat × Nat)} (h : St w0 L G W) {g : Nat} {n : Bool} {a : Option Addr} {l c : Nat} (hm : (g, n, a, l, c) ∈ G) :
    W.cell? ⟨g, 0, none⟩ = some (.bool n) ∧ W.cell? ⟨g, 1, none⟩ = some (.slice a l c) ∧ W.frozen? ⟨g, 0, none⟩ = false ∧ W.frozen? ⟨g, 1, none⟩ = false := wo_cells (h.boxes _ hm)
/-- A struct is written anew. -/
theorem St.set {w0 W : World} {L : List (Value × Int)} {G : List (Nat × Bool × Option Addr × Nat × Nat)} {g : Nat} {n : Bool} {a : Option Addr} {l c : Nat} (h : St w0 L ((g, n, a, l, c) :: G) W) (hG : ∀ p ∈ G, p.1 ≠ g) (hg : w0.heap.size ≤ g) (n' : Bool) (a' : Option Addr) (l' c' : Nat) :
    St w0 L ((g, n', a', l', c') :: G) ((W.setCell ⟨g, 0, none⟩ (.bool n')).setCell ⟨g, 1, none⟩ (.slice a' l' c')) := by
  have hb : W.heap[g]? = some (WO n a l c) := h.boxes _ List.mem_cons_self
  have hc : Chg (fun k => k = g) W ((W.setCell ⟨g, 0, none⟩ (.bool n')).setCell ⟨g, 1, none⟩ (.slice a' l' c')) := ((Chg.refl (fun k => k = g) _).setCell (p := ⟨g, 0, none⟩) rfl _).setCell (p := ⟨g, 1, none⟩) rfl _
  refine ⟨fun p hp => ?_, fun p hp => ?_, ((h.bel.setCell (p := ⟨g, 0, none⟩) hg _).setCell (p := ⟨g, 1, none⟩) hg _)⟩
  · obtain ⟨a1, c1, zs, h1, h2, h3⟩ := h.vals p hp
    exact ⟨a1, c1, zs, h1, hc.owns h2 fun k hk he => own64.not_held h2 ⟨_, _, _, _, hb⟩ hk he, h3⟩
  · rcases List.mem_cons.1 hp with rfl | hp
    · have g1 := heap_setCell_same W g 0 _ _ (.bool n') hb
      exact heap_setCell_same _ g 1 _ _ (.slice a' l' c') g1
    · have h2 := h.boxes p (List.mem_cons_of_mem _ hp)
      rw [hc.block _ (lt_of_block h2) (hG p hp)]
      exact h2
theorem St.sub {w0 W : World} {L L' : List (Value × Int)} {G G' : List (Nat × Bool × Option Addr × Nat × Nat)} (h : St w0 L G W) (hL : ∀ p ∈ L', p ∈ L) (hG : ∀ p ∈ G', p ∈ G) : St w0 L' G' W :=
  ⟨fun p hp => h.vals p (hL p hp), fun p hp => h.boxes p (hG p hp), h.bel⟩

/-- What Pow tells. -/
def PowTells (P : Prop) (A N : Int) (k : Int) (s : Bool) (zs : List Nat) : Prop :=
  (¬ P ∧ k = 3 ∧ s = false ∧ zs = []) ∨ (P ∧ N < 0 ∧ k = 20 ∧ s = false ∧ zs = []) ∨
  (P ∧ 0 ≤ N ∧ LIM ≤ (A ^ N.toNat).natAbs ∧ k = 3 ∧ s = false ∧ zs = []) ∨
  (P ∧ 0 ≤ N ∧ (A ^ N.toNat).natAbs < LIM ∧ k = 0 ∧ s = decide (A ^ N.toNat < 0) ∧ Num zs (A ^ N.toNat).natAbs)

set_option maxHeartbeats 1000000 in
set_option maxRecDepth 100000 in
/-- An exponent of the least that serves. -/
theorem turn_any (m : Bool) (b : Option Addr) (lb cb : Nat) (ys : List Nat) (w : World) (hlb : ys.length = lb) (hbb : lb ≤ 1048576) (hcb : lb ≤ cb) (hrb : Rd .u64 w b ys) (bY : Bd ys) :
    Calls Tryz.prog 64 #[.agg #[.bool m, .slice b lb cb]] w fun e w' => ∃ t : Nat, t ≤ 2 ∧ (t = 0 ↔ val ys = 0) ∧ t % 2 = val ys % 2 ∧ IPost (t : Int) w e w' := by
  have HB := Lib.hid (fun (W : World) (h : Below w.heap.size w W) => hrb.below h)
  have HBY := Lib.hid bY
  have HLB := Lib.hid hlb
  clear hrb bY
  go_enter Tryz.func64, Tryz.ntmps64
  go_wp2_with fail
  have hb2 : Below w.heap.size w ((w.alloc (WO m b lb cb)).alloc (WO false none 0 0)) := ((Below.refl _ _).alloc (Nat.le_refl _) _).alloc (by simp) _
  refine (wsign_any m b lb cb ys _ hlb hbb hcb (HB.out _ hb2) HBY.out).mono ?_
  rintro e w1 ⟨rfl, rfl⟩
  have h0 : (sg (wv m ys) == 0) = decide (val ys = 0) := by
    unfold sg wv
    rw [Bool.eq_iff_iff, beq_iff_eq, decide_eq_true_iff]
    split <;> split <;> (try split) <;> omega
  by_cases hz : val ys = 0
  · rw [decide_eq_true hz] at h0
    have HZ := Lib.hid hz
    clear hz
    have HB2 := Lib.hid (hb2.alloc hb2.size (WO m b lb cb))
    clear hb2
    go_wp2_with fail
    refine (int_any 0 _ (by decide) (by decide)).mono ?_
    intro e w2 hp
    have hrb : RBlk w2 (w.heap.size + 1) := by
      have h := heap_new (w.alloc (WO m b lb cb)) (WO false none 0 0)
      rw [show (w.alloc (WO m b lb cb)).heap.size = w.heap.size + 1 by simp] at h
      exact (rblk (heap_kept h (WO m b lb cb))).below hp.1
    have HP : Hid (IPost (0 : Int) w e w2) := by
      obtain ⟨g1, a, c, zs, g2, g3, g4⟩ := hp
      exact ⟨HB2.out.trans (g1.mono HB2.out.size), a, c, zs, g2, owns_base g3 HB2.out.size, g4⟩
    obtain ⟨-, a, c, zs, rfl, -, -⟩ := hp
    generalize decide ((0 : Int) < 0) = sgn at *
    have HRB := Lib.hid hrb
    obtain ⟨_, c0, c1, f0, f1⟩ := hrb
    go_wp2
    refine bodyPost_ret (results_WOset1 rfl rfl HRB.out) rfl ?_
    exact ⟨0, by omega, ⟨fun _ => HZ.out, fun _ => rfl⟩, by rw [HZ.out], HP.out.set HRB.out (by omega) _ _⟩
  · rw [decide_eq_false hz] at h0
    have HZ := Lib.hid hz
    clear hz
    have HB2 := Lib.hid (hb2.alloc hb2.size (WO m b lb cb))
    clear hb2
    have hc := wo_cells (heap_kept (heap_kept (heap_new w (WO m b lb cb)) (WO false none 0 0)) (WO m b lb cb))
    obtain ⟨hc0, hc1, -, -⟩ := hc
    go_wp2_with fail
    clear hc0 hc1
    refine (bit_any b lb cb 0 ys _ hlb (HB.out _ HB2.out) HBY.out (by have h1 : lb ≠ 0 := fun h => HZ.out (by rw [List.length_eq_zero_iff.1 (HLB.out.trans h)]; rfl); omega) hbb).mono ?_
    rintro e w1 ⟨rfl, rfl⟩
    rw [Nat.pow_zero, Nat.div_one]
    by_cases ho : val ys % 2 = 1
    · rw [decide_eq_true ho]
      have HO := Lib.hid ho
      clear ho
      go_wp2_with fail
      refine (int_any 1 _ (by decide) (by decide)).mono ?_
      intro e w2 hp
      have hrb : RBlk w2 (w.heap.size + 1) := by
        have h := heap_new (w.alloc (WO m b lb cb)) (WO false none 0 0)
        rw [show (w.alloc (WO m b lb cb)).heap.size = w.heap.size + 1 by simp] at h
        exact (rblk (heap_kept h (WO m b lb cb))).below hp.1
      have HP : Hid (IPost (1 : Int) w e w2) := by
        obtain ⟨g1, a, c, zs, g2, g3, g4⟩ := hp
        exact ⟨HB2.out.trans (g1.mono HB2.out.size), a, c, zs, g2, owns_base g3 HB2.out.size, g4⟩
      obtain ⟨-, a, c, zs, rfl, -, -⟩ := hp
      generalize decide ((1 : Int) < 0) = sgn at *
      have HRB := Lib.hid hrb
      obtain ⟨_, c0, c1, f0, f1⟩ := hrb
      go_wp2
      refine bodyPost_ret (results_WOset1 rfl rfl HRB.out) rfl ?_
      exact ⟨1, by omega, ⟨fun h => absurd h (by decide), fun h => absurd h HZ.out⟩, by rw [HO.out], HP.out.set HRB.out (by omega) _ _⟩
    · rw [decide_eq_false ho]
      have HO := Lib.hid ho
      clear ho
      go_wp2_with fail
      refine (int_any 2 _ (by decide) (by decide)).mono ?_
      intro e w2 hp
      have hrb : RBlk w2 (w.heap.size + 1) := by
        have h := heap_new (w.alloc (WO m b lb cb)) (WO false none 0 0)
        rw [show (w.alloc (WO m b lb cb)).heap.size = w.heap.size + 1 by simp] at h
        exact (rblk (heap_kept h (WO m b lb cb))).below hp.1
      have HP : Hid (IPost (2 : Int) w e w2) := by
        obtain ⟨g1, a, c, zs, g2, g3, g4⟩ := hp
        exact ⟨HB2.out.trans (g1.mono HB2.out.size), a, c, zs, g2, owns_base g3 HB2.out.size, g4⟩
      obtain ⟨-, a, c, zs, rfl, -, -⟩ := hp
      generalize decide ((2 : Int) < 0) = sgn at *
      have HRB := Lib.hid hrb
      obtain ⟨_, c0, c1, f0, f1⟩ := hrb
      go_wp2
      refine bodyPost_ret (results_WOset1 rfl rfl HRB.out) rfl ?_
      exact ⟨2, by omega, ⟨fun h => absurd h (by decide), fun h => absurd h HZ.out⟩, by have := HO.out; omega, HP.out.set HRB.out (by omega) _ _⟩

theorem s_mulR {w0 W : World} {L : List (Value × Int)} {G : List (Nat × Bool × Option Addr × Nat × Nat)} (h : St w0 L G W) (ht : Tabs W) (hT : Trig W) {v1 : Value} {W1 : Int} (h1 : (v1, W1) ∈ L) (m : Bool) (b : Option Addr) (lb cb : Nat) (ys : List Nat) (hlb : ys.length = lb) (hbb : lb ≤ 1048576) (hcb : lb ≤ cb) (hrb : Rd .u64 W b ys) (bY : Bd ys) (hy : val ys < LIM) :
    Calls Tryz.prog 17 #[v1, .agg #[.bool m, .slice b lb cb]] W fun e W' => ((W1 * wv m ys).natAbs < LIM ∧ SE w0 L G (W1 * wv m ys) 0 e W') ∨ (LIM ≤ (W1 * wv m ys).natAbs ∧ SE w0 L G 0 3 e W') := by
  obtain ⟨a, ca, xs, rfl, ho1, hN1, hl1⟩ := h.val h1
  have e1 := wv_int hN1
  refine (wmul_any _ m a b _ ca lb cb xs ys W rfl hlb (len_lim hN1 hl1) hbb (own64.room ho1).1 hcb (own64.rd ho1).2 hrb hN1.bd bY ht hT).mono ?_
  rw [e1]
  intro e w' hp
  have hx : val xs < LIM ∧ val ys < LIM := by rw [hN1.vl]; exact ⟨hl1, hy⟩
  by_cases hl : (W1 * wv m ys).natAbs < LIM
  · refine .inl ⟨hl, h.se hl hp fun k p zs hq => ?_⟩
    rcases hq with ⟨g, _⟩ | ⟨_, _, g⟩
    · exact absurd ⟨hx, hl⟩ g
    · exact g
  · refine .inr ⟨Nat.le_of_not_lt hl, h.se (Z := 0) (Nat.lt_of_lt_of_le Nat.zero_lt_one (Nat.succ_le_of_lt (lim_one (x := 0) (by decide)))) hp fun k p zs hq => ?_⟩
    rcases hq with ⟨_, rfl, rfl, rfl⟩ | ⟨_, g, _⟩
    · exact ⟨rfl, rfl, Num.nil⟩
    · exact absurd g hl
theorem IsW.opens {B : Nat} {w : World} {n : Bool} {a : Option Addr} {l c : Nat} {Z : Int} (h : IsW B w (.agg #[.bool n, .slice a l c]) Z) : ∃ zs, n = decide (Z < 0) ∧ zs.length = l ∧ own64 w B (.slice a l c) zs ∧ Num zs Z.natAbs ∧ Z.natAbs < LIM := by
  obtain ⟨a', c', zs, h1, h2, h3, h4⟩ := h
  simp only [Value.agg.injEq, Array.mk.injEq, List.cons.injEq, Value.slice.injEq, and_true, Value.bool.injEq] at h1
  obtain ⟨rfl, rfl, rfl, rfl⟩ := h1
  exact ⟨zs, rfl, rfl, h2, h3, h4⟩
/-- What Pow's loop knows of the power. -/
def PI (A : Int) (N j : Nat) (k Z : Int) : Prop := (k = 0 ∧ Z = A ^ (N / 2 ^ j)) ∨ (k = 3 ∧ Z = 0 ∧ LIM ≤ (A ^ N).natAbs)
theorem PI.start (A : Int) {N K : Nat} (h : BitsIs N K) : PI A N K 0 1 := .inl ⟨rfl, by rw [Nat.div_eq_of_lt (bits_lt h), Int.pow_zero]⟩
theorem PI.great {A : Int} {N j : Nat} (h : LIM ≤ (A ^ (N / 2 ^ (j + 1)) * A ^ (N / 2 ^ (j + 1))).natAbs) : PI A N j 3 0 := by
  refine .inr ⟨rfl, rfl, ?_⟩
  rw [← Int.pow_add, Int.natAbs_pow] at h
  rw [Int.natAbs_pow]
  exact nat_pow_lim h pow_sq_le
theorem PI.great2 {A : Int} {N j : Nat} (h : LIM ≤ (A ^ (N / 2 ^ (j + 1)) * A ^ (N / 2 ^ (j + 1)) * A).natAbs) (hb : N / 2 ^ j % 2 = 1) : PI A N j 3 0 := by
  refine .inr ⟨rfl, rfl, ?_⟩
  have h2 := pow_half (A := A) (N := N) (j := j)
  rw [hb, Int.pow_one] at h2
  rw [← h2, Int.natAbs_pow] at h
  rw [Int.natAbs_pow]
  exact nat_pow_lim h (Nat.div_le_self _ _)
theorem PI.odd {A : Int} {N j : Nat} (hb : N / 2 ^ j % 2 = 1) : PI A N j 0 (A ^ (N / 2 ^ (j + 1)) * A ^ (N / 2 ^ (j + 1)) * A) := by
  have h2 := pow_half (A := A) (N := N) (j := j)
  rw [hb, Int.pow_one] at h2
  exact .inl ⟨rfl, h2.symm⟩
theorem PI.even {A : Int} {N j : Nat} (hb : ¬ N / 2 ^ j % 2 = 1) : PI A N j 0 (A ^ (N / 2 ^ (j + 1)) * A ^ (N / 2 ^ (j + 1))) := by
  have h2 := pow_half (A := A) (N := N) (j := j)
  rw [show N / 2 ^ j % 2 = 0 by omega, Int.pow_zero, Int.mul_one] at h2
  exact .inl ⟨rfl, h2.symm⟩
theorem PI.tells {A : Int} {N : Nat} {P : Prop} {E : Int} {k Z : Int} {zs : List Nat} (hP : P) (hE : 0 ≤ E) (hA : A ^ E.toNat = A ^ N) (h : (k = 0 ∧ Z = A ^ N) ∨ (k = 3 ∧ Z = 0 ∧ LIM ≤ (A ^ N).natAbs)) (hN : Num zs Z.natAbs) (hl : Z.natAbs < LIM) :
    PowTells P A E k (decide (Z < 0)) zs := by
  rcases h with ⟨rfl, rfl⟩ | ⟨rfl, rfl, h⟩
  · exact .inr (.inr (.inr ⟨hP, hE, by rw [hA]; exact hl, rfl, by rw [hA], by rw [hA]; exact hN⟩))
  · exact .inr (.inr (.inl ⟨hP, hE, by rw [hA]; exact h, rfl, rfl, hN.unique Num.nil⟩))

set_option maxHeartbeats 4000000 in
set_option maxRecDepth 100000 in
theorem wpow_any (n m : Bool) (a b : Option Addr) (la ca lb cb : Nat) (xs ys : List Nat) (w : World) (hla : xs.length = la) (hlb : ys.length = lb) (hba : la ≤ 1048576) (hbb : lb ≤ 1048576) (hca : la ≤ ca) (hcb : lb ≤ cb)
    (hra : Rd .u64 w a xs) (hrb : Rd .u64 w b ys) (bx : Bd xs) (bY : Bd ys) (ht : Tabs w) (hT : Trig w) :
    Calls Tryz.prog 8 #[.agg #[.bool n, .slice a la ca], .agg #[.bool m, .slice b lb cb]] w (WTold (PowTells (val xs < LIM ∧ val ys < LIM) (wv n xs) (wv m ys)) w) := by
  have HA := Lib.hid (fun (W : World) (h : Below w.heap.size w W) => hra.below h)
  have HB := Lib.hid (fun (W : World) (h : Below w.heap.size w W) => hrb.below h)
  have HT := Lib.hid (fun (W : World) (h : Below w.heap.size w W) => ht.below h)
  have HTR := Lib.hid (fun (W : World) (h : Below w.heap.size w W) => hT.below h)
  have HBX := Lib.hid bx
  have HBY := Lib.hid bY
  have HLA := Lib.hid hla
  have HLB := Lib.hid hlb
  clear hra hrb bx bY ht hT
  go_enter Tryz.func8, Tryz.ntmps8
  go_wp2_with fail
  refine (wfits_any n a la ca xs _ hla hba hca (HA.out _ ((((Below.refl _ _).alloc (Nat.le_refl _) _).alloc (by simp) _).alloc (by simp; omega) _)) HBX.out).mono ?_
  rintro e w1 ⟨rfl, rfl⟩
  by_cases h1 : val xs < LIM
  · rw [decide_eq_true h1]
    go_wp2_with fail
    refine (wfits_any m b lb cb ys _ hlb hbb hcb (HB.out _ (((((Below.refl _ _).alloc (Nat.le_refl _) _).alloc (by simp) _).alloc (by simp; omega) _).alloc (by simp; omega) _)) HBY.out).mono ?_
    rintro e w1 ⟨rfl, rfl⟩
    by_cases h2 : val ys < LIM
    · rw [decide_eq_true h2]
      have H1 := Lib.hid h1
      have H2 := Lib.hid h2
      clear h1 h2
      have HE := Lib.hid ((((((St.init w).new w.heap.size rfl n a la ca).new (w.heap.size + 1) (by simp) m b lb cb).new (w.heap.size + 1 + 1) (by simp) false none 0 0).alloc (WO n a la ca)).alloc (WO m b lb cb))
      go_wp2_with fail
      refine (wsign_any m b lb cb ys _ hlb hbb hcb (HB.out _ HE.out.bel) HBY.out).mono ?_
      rintro e w1 ⟨rfl, rfl⟩
      have HE := Lib.hid (HE.out.alloc (WO m b lb cb))
      have hn0 : decide (sg (wv m ys) < 0) = decide (wv m ys < 0) := sg_neg _
      by_cases hneg : wv m ys < 0
      · rw [decide_eq_true hneg] at hn0
        have HN := Lib.hid hneg
        clear hneg
        generalize sg (wv m ys) = sy at *
        have HHE : Hid (_ = some (WO false none 0 0)) := HE.out.boxes _ List.mem_cons_self
        have HBEL := Lib.hid HE.out.bel
        clear HE
        go_wp2
        refine bodyPost_ret (results_WO2 rfl rfl rfl HHE.out) rfl ?_
        exact ⟨HBEL.out, false, none, 0, 20, [], rfl, own64_nil _ _, .inr (.inl ⟨⟨H1.out, H2.out⟩, HN.out, rfl, rfl, rfl⟩)⟩
      · rw [decide_eq_false hneg] at hn0
        have HN : Hid (0 ≤ wv m ys) := by show _ ≤ _; omega
        clear hneg
        generalize sg (wv m ys) = sy at *
        obtain ⟨W, hW⟩ : ∃ W, W = (((((w.alloc (Obj.cells #[.bool n, .slice a la ca] 24)).alloc (Obj.cells #[.bool m, .slice b lb cb] 24)).alloc (Obj.cells #[.bool false, .slice none 0 0] 24)).alloc (WO n a la ca)).alloc (WO m b lb cb)).alloc (WO m b lb cb) := ⟨_, rfl⟩
        have HE : Hid (St w [] [(w.heap.size + 1 + 1, false, none, 0, 0), (w.heap.size + 1, m, b, lb, cb), (w.heap.size, n, a, la, ca)] W) := by rw [hW]; exact HE
        rw [← hW]
        clear hW
        obtain ⟨a0, a1, -, -⟩ := HE.out.cells (g := w.heap.size) (n := n) (a := a) (l := la) (c := ca) (by simp)
        obtain ⟨b0, b1, f0, f1⟩ := HE.out.cells (g := w.heap.size + 1) (n := m) (a := b) (l := lb) (c := cb) (by simp)
        go_wp2_with fail
        refine (bits_any a la ca xs _ hla (by omega) hca (HA.out _ HE.out.bel) HBX.out).mono ?_
        rintro e w1 ⟨⟨k, rfl, hk, hk2⟩, rfl⟩
        have HK := Lib.hid hk
        clear hk
        by_cases hk3 : k < 2
        · have hq : decide ((k : Int) < 2) = true := by simp; omega
          have HAB : Hid ((wv n xs).natAbs ≤ 1) := by
            show _ ≤ _
            rw [wv_abs]
            have := bits_lt HK.out
            have : (2 : Nat) ^ k ≤ 2 ^ 1 := Nat.pow_le_pow_right (by decide) (by omega)
            omega
          clear hk2 hk3 HK
          go_wp2_with fail
          refine (turn_any m b lb cb ys _ hlb hbb hcb (HB.out _ HE.out.bel) HBY.out).mono ?_
          rintro e w2 ⟨t, ht2, ht0, ht1, hp⟩
          have hTP : Hid ((wv n xs) ^ (wv m ys).toNat = (wv n xs) ^ t) := by
            show _ = _
            have hv : (wv m ys).toNat = val ys := by have h1 := wv_abs m ys; have h2 := HN.out; omega
            rw [hv]
            exact (turn_pow HAB.out ht0 ht1).symm
          clear ht1 ht0
          obtain ⟨n2, b2, lb2, cb2, rfl, hS⟩ := HE.out.sv (lim_one (by omega)) hp
          clear hp a0 a1 b0 b1 f0 f1
          obtain ⟨b0, b1, f0, f1⟩ := hS.cells (g := w.heap.size + 1) (n := m) (a := b) (l := lb) (c := cb) (by simp)
          have hE3 := (hS.sub (L' := [(.agg #[.bool n2, .slice b2 lb2 cb2], (t : Int))]) (G' := [(w.heap.size + 1, m, b, lb, cb), (w.heap.size + 1 + 1, false, none, 0, 0), (w.heap.size, n, a, la, ca)]) (fun p hp => hp) (fun p hp => by simp only [List.mem_cons, List.mem_nil_iff, or_false] at hp ⊢; rcases hp with h | h | h <;> simp [h])).set (fun p hp => by simp at hp; rcases hp with rfl | rfl <;> simp <;> omega) (by omega) n2 b2 lb2 cb2
          have HS := Lib.hid hE3
          clear hE3 hS
          go_wp2_with fail
          clear b0 b1 f0 f1
          generalize ((w2.setCell ⟨w.heap.size + 1, 0, none⟩ (.bool n2)).setCell ⟨w.heap.size + 1, 1, none⟩ (.slice b2 lb2 cb2)) = W2 at *
          obtain ⟨ys2, hn2, hlb2, ho2, hN2, hl2⟩ := (HS.out.val (v := .agg #[.bool n2, .slice b2 lb2 cb2]) (Z := (t : Int)) List.mem_cons_self).opens
          rw [Int.natAbs_natCast] at hN2
          obtain rfl := hN2.vl.symm
          have HB2 := Lib.hid (fun (W : World) (h : Below W2.heap.size W2 W) => (own64.rd (hlb2.symm ▸ ho2)).2.below h)
          have HBW := Lib.hid HS.out.bel
          have hcb2 : lb2 ≤ cb2 := by have := (own64.room (hlb2.symm ▸ ho2)).1; omega
          have hbb2 : lb2 ≤ 1048576 := by rw [← hlb2]; exact len_lim hN2 (lim_one (by omega))
          have HBY2 := Lib.hid hN2.bd
          have HLB2 := Lib.hid hlb2
          have hGS : St W2 [] [(w.heap.size + 1 + 1, false, none, 0, 0), (w.heap.size + 1, n2, b2, lb2, cb2), (w.heap.size, n, a, la, ca)] W2 := ⟨fun _ h => (by cases h), fun p hp => HS.out.boxes p (by simp only [List.mem_cons, List.mem_nil_iff, or_false] at hp ⊢; rcases hp with h | h | h <;> simp [h]), Below.refl _ _⟩
          clear HS hn2 hlb2 ho2 hN2 hl2
          have HS := Lib.hid hGS
          clear hGS
          have HLT : Hid (w.heap.size + 1 + 1 < W2.heap.size) := lt_of_block (HS.out.boxes _ List.mem_cons_self)
          refine (s_int HS.out 1 (by decide) (by decide)).mono ?_
          rintro e w3 ⟨q0, qa0, ql0, qc0, rfl, hS⟩
          have HGT : Hid (w.heap.size + 1 + 1 < w3.heap.size ∧ W2.heap.size ≤ w3.heap.size) := ⟨Nat.lt_of_lt_of_le HLT.out hS.bel.size, hS.bel.size⟩
          have hS := hS.new w3.heap.size rfl q0 qa0 ql0 qc0
          clear HS HLT
          have HS := Lib.hid hS
          clear hS
          obtain ⟨b0, b1, -, -⟩ := HS.out.cells (g := w.heap.size + 1) (n := n2) (a := b2) (l := lb2) (c := cb2) (by simp)
          go_wp2_with fail
          generalize hW3 : w3.alloc (Obj.cells #[.bool q0, .slice qa0 ql0 qc0] 24) = W3 at *
          generalize w3.heap.size = g at *
          clear hW3
          refine (bits_any b2 lb2 cb2 ys2 _ HLB2.out (by omega) hcb2 (HB2.out _ HS.out.bel) HBY2.out).mono ?_
          rintro e w1 ⟨⟨K, rfl, hK, hK2⟩, rfl⟩
          clear b0 b1
          have HKB : Hid (K ≤ 64 * lb2) := by show _ ≤ _; have := (fl_spec ys2).1; have h3 := HLB2.out; omega
          have hK3 : K ≤ 67108864 := by have := HKB.out; omega
          have HK2 := Lib.hid hK
          clear hK hK2
          go_wp2
          go_loopw [7, 8] (fun e i wr => ∃ (j : Nat) (k iv : Int) (q : Bool) (qa : Option Addr) (ql qc : Nat), e = .int .i64 k ∧ i = .int .i64 iv ∧ Hid (iv + 1 = (j : Int)) ∧ j ≤ K ∧ Hid (∃ Z, PI (wv n xs) (val ys2) j k Z ∧ St W2 [(.agg #[.bool q, .slice qa ql qc], Z)] [(g, q, qa, ql, qc), (w.heap.size + 1 + 1, false, none, 0, 0), (w.heap.size + 1, n2, b2, lb2, cb2), (w.heap.size, n, a, la, ca)] wr)) (fun _ i _ => (intOf i + 1).toNat)
          case atStart =>
            exact ⟨K, 0, _, q0, qa0, ql0, qc0, rfl, rfl, by show _ = _; omega, Nat.le_refl _, 1, PI.start _ HK2.out, HS.out⟩
          case round =>
            clear HS
            obtain ⟨j, k, iv, q, qa, ql, qc, rfl, rfl, hiv, hjK, HS⟩ := hrel
            obtain ⟨Z, hPI, hS⟩ := HS.out
            clear HS
            have HS := Lib.hid hS
            clear hS
            by_cases hex : j = 0 ∨ k ≠ 0
            · have HDONE : Hid ((k = 0 ∧ Z = (wv n xs) ^ val ys2) ∨ (k = 3 ∧ Z = 0 ∧ LIM ≤ ((wv n xs) ^ val ys2).natAbs)) := by
                show _ ∨ _
                rcases hPI with ⟨h1, h2⟩ | h
                · refine .inl ⟨h1, ?_⟩
                  obtain rfl : j = 0 := by omega
                  rw [h2, Nat.pow_zero, Nat.div_one]
                · exact .inr h
              have hk3 : j = 0 ∨ k = 3 := by
                rcases hPI with ⟨h1, _⟩ | ⟨h1, _⟩ <;> omega
              clear hex hPI
              have HHE := Lib.hid (HS.out.held (g := w.heap.size + 1 + 1) (n := false) (a := none) (l := 0) (c := 0) (by simp))
              obtain ⟨_, _, _, _, d0, d1, d2, d3⟩ := HHE.out.cells
              obtain ⟨c0, c1, -, -⟩ := HS.out.cells (g := g) (n := q) (a := qa) (l := ql) (c := qc) (by simp)
              obtain ⟨zs, rfl, rfl, ho, hN, hl⟩ := (HS.out.val (v := .agg #[.bool q, .slice qa ql qc]) (Z := Z) List.mem_cons_self).opens
              have HO := Lib.hid (owns_base ho HBW.out.size)
              have HTL : Hid (PowTells _ (wv n xs) _ k (decide (Z < 0)) zs) := PI.tells (And.intro H1.out H2.out) HN.out hTP.out HDONE.out hN hl
              have HBEL := Lib.hid (HBW.out.trans (HS.out.bel.mono HBW.out.size))
              clear HS ho hN hl HDONE
              generalize decide (Z < 0) = q at *
              rcases Nat.eq_zero_or_pos j with rfl | hj
              · obtain rfl : iv = -1 := by have := hiv.out; omega
                clear hk3
                go_wp2
                refine bodyPost_ret (results_held rfl rfl rfl HHE.out) rfl ?_
                exact WTold.seth (Q := PowTells _ (wv n xs) _) ⟨HBEL.out, q, qa, qc, k, zs, rfl, HO.out, HTL.out⟩ HHE.out (by omega) _ _
              · obtain rfl : k = 3 := by omega
                obtain ⟨j', rfl⟩ : ∃ j', j = j' + 1 := ⟨j - 1, by omega⟩
                obtain rfl : iv = (j' : Int) := by have := hiv.out; omega
                have hge : decide ((0 : Int) ≤ (j' : Int)) = true := by simp
                clear hk3 hj
                go_wp2
                refine bodyPost_ret (results_held rfl rfl rfl HHE.out) rfl ?_
                exact WTold.seth (Q := PowTells _ (wv n xs) _) ⟨HBEL.out, q, qa, qc, 3, zs, rfl, HO.out, HTL.out⟩ HHE.out (by omega) _ _
            · obtain ⟨j', rfl⟩ : ∃ j', j = j' + 1 := ⟨j - 1, by omega⟩
              obtain rfl : k = 0 := by omega
              obtain rfl : iv = (j' : Int) := by have := hiv.out; omega
              have HZ : Hid (Z = (wv n xs) ^ (val ys2 / 2 ^ (j' + 1))) := by
                rcases hPI with ⟨_, h2⟩ | ⟨h1, _⟩
                · exact h2
                · exact absurd h1 (by decide)
              have hge : decide ((0 : Int) ≤ (j' : Int)) = true := by simp
              clear hPI hex
              obtain ⟨c0, c1, -, -⟩ := HS.out.cells (g := g) (n := q) (a := qa) (l := ql) (c := qc) (by simp)
              go_wp2_with fail
              clear c0 c1
              refine (s_mul HS.out (HT.out _ (HBW.out.trans (HS.out.bel.mono HBW.out.size))) (HTR.out _ (HBW.out.trans (HS.out.bel.mono HBW.out.size))) (v1 := .agg #[.bool q, .slice qa ql qc]) (v2 := .agg #[.bool q, .slice qa ql qc]) List.mem_cons_self List.mem_cons_self).mono ?_
              intro e w4 hor
              rcases hor with ⟨hl, q1, qa1, ql1, qc1, rfl, hS⟩ | ⟨hl, q1, qa1, ql1, qc1, rfl, hS⟩
              · obtain ⟨c0, c1, c2, c3⟩ := hS.cells (g := g) (n := q) (a := qa) (l := ql) (c := qc) (by simp)
                have hS5 := (hS.sub (L' := [(.agg #[.bool q1, .slice qa1 ql1 qc1], Z * Z)]) (fun p hp => by simp only [List.mem_cons, List.mem_nil_iff, or_false] at hp ⊢; exact .inl hp) (fun p hp => hp)).set (fun p hp => by have := HGT.out; simp only [List.mem_cons, List.mem_nil_iff, or_false] at hp; rcases hp with rfl | rfl | rfl <;> simp <;> omega) HGT.out.2 q1 qa1 ql1 qc1
                have HS5 := Lib.hid hS5
                clear hS hS5 HS hl
                obtain ⟨b0, b1, -, -⟩ := HS5.out.cells (g := w.heap.size + 1) (n := n2) (a := b2) (l := lb2) (c := cb2) (by simp)
                go_wp2_with fail
                refine (bit_any b2 lb2 cb2 j' ys2 _ HLB2.out (HB2.out _ HS5.out.bel) HBY2.out (by have := HKB.out; omega) hbb2).mono ?_
                rintro e w1 ⟨rfl, rfl⟩
                clear c0 c1 c2 c3 b0 b1
                generalize (w4.setCell ⟨g, 0, none⟩ (.bool q1)).setCell ⟨g, 1, none⟩ (.slice qa1 ql1 qc1) = w5 at *
                by_cases hbit : val ys2 / 2 ^ j' % 2 = 1
                · rw [decide_eq_true hbit]
                  have HBIT := Lib.hid hbit
                  clear hbit
                  obtain ⟨c0, c1, -, -⟩ := HS5.out.cells (g := g) (n := q1) (a := qa1) (l := ql1) (c := qc1) (by simp)
                  obtain ⟨a0, a1, -, -⟩ := HS5.out.cells (g := w.heap.size) (n := n) (a := a) (l := la) (c := ca) (by simp)
                  go_wp2_with fail
                  clear c0 c1 a0 a1
                  have hbel := Lib.hid (HBW.out.trans (HS5.out.bel.mono HBW.out.size))
                  refine (s_mulR HS5.out (HT.out _ hbel.out) (HTR.out _ hbel.out) (v1 := .agg #[.bool q1, .slice qa1 ql1 qc1]) List.mem_cons_self n a la ca xs HLA.out hba hca (HA.out _ hbel.out) HBX.out H1.out).mono ?_
                  intro e w6 hor
                  rcases hor with ⟨hl, q2, qa2, ql2, qc2, rfl, hS⟩ | ⟨hl, q2, qa2, ql2, qc2, rfl, hS⟩
                  · obtain ⟨c0, c1, c2, c3⟩ := hS.cells (g := g) (n := q1) (a := qa1) (l := ql1) (c := qc1) (by simp)
                    have HS7 := Lib.hid ((hS.sub (L' := [(.agg #[.bool q2, .slice qa2 ql2 qc2], Z * Z * wv n xs)]) (fun p hp => by simp only [List.mem_cons, List.mem_nil_iff, or_false] at hp ⊢; exact .inl hp) (fun p hp => hp)).set (fun p hp => by have := HGT.out; simp only [List.mem_cons, List.mem_nil_iff, or_false] at hp; rcases hp with rfl | rfl | rfl <;> simp <;> omega) HGT.out.2 q2 qa2 ql2 qc2)
                    clear hS HS5 hl
                    go_wp2
                    go_roundw
                    case rel => exact ⟨j', 0, _, q2, qa2, ql2, qc2, rfl, rfl, by show _ = _; omega, by omega, _, by rw [HZ.out]; exact PI.odd HBIT.out, HS7.out⟩
                    case measure => first | (simp [intOf]; done) | (simp [intOf]; omega)
                  · obtain ⟨c0, c1, c2, c3⟩ := hS.cells (g := g) (n := q1) (a := qa1) (l := ql1) (c := qc1) (by simp)
                    have HS7 := Lib.hid ((hS.sub (L' := [(.agg #[.bool q2, .slice qa2 ql2 qc2], 0)]) (fun p hp => by simp only [List.mem_cons, List.mem_nil_iff, or_false] at hp ⊢; exact .inl hp) (fun p hp => hp)).set (fun p hp => by have := HGT.out; simp only [List.mem_cons, List.mem_nil_iff, or_false] at hp; rcases hp with rfl | rfl | rfl <;> simp <;> omega) HGT.out.2 q2 qa2 ql2 qc2)
                    have HGL : Hid (PI (wv n xs) (val ys2) j' 3 0) := PI.great2 (by rw [← HZ.out]; exact hl) HBIT.out
                    clear hS HS5 hl
                    go_wp2
                    go_roundw
                    case rel => exact ⟨j', 3, _, q2, qa2, ql2, qc2, rfl, rfl, by show _ = _; omega, by omega, 0, HGL.out, HS7.out⟩
                    case measure => first | (simp [intOf]; done) | (simp [intOf]; omega)
                · rw [decide_eq_false hbit]
                  have HBIT := Lib.hid hbit
                  clear hbit
                  go_wp2
                  go_roundw
                  case rel => exact ⟨j', 0, _, q1, qa1, ql1, qc1, rfl, rfl, by show _ = _; omega, by omega, _, by rw [HZ.out]; exact PI.even HBIT.out, HS5.out⟩
                  case measure => first | (simp [intOf]; done) | (simp [intOf]; omega)
              · obtain ⟨c0, c1, c2, c3⟩ := hS.cells (g := g) (n := q) (a := qa) (l := ql) (c := qc) (by simp)
                have HS5 := Lib.hid ((hS.sub (L' := [(.agg #[.bool q1, .slice qa1 ql1 qc1], 0)]) (fun p hp => by simp only [List.mem_cons, List.mem_nil_iff, or_false] at hp ⊢; exact .inl hp) (fun p hp => hp)).set (fun p hp => by have := HGT.out; simp only [List.mem_cons, List.mem_nil_iff, or_false] at hp; rcases hp with rfl | rfl | rfl <;> simp <;> omega) HGT.out.2 q1 qa1 ql1 qc1)
                have HGL : Hid (PI (wv n xs) (val ys2) j' 3 0) := PI.great (by rw [← HZ.out]; exact hl)
                clear hS HS hl
                go_wp2
                go_roundw
                case rel => exact ⟨j', 3, _, q1, qa1, ql1, qc1, rfl, rfl, by show _ = _; omega, by omega, 0, HGL.out, HS5.out⟩
                case measure => first | (simp [intOf]; done) | (simp [intOf]; omega)
        · have hq : decide ((k : Int) < 2) = false := by simp; omega
          have hTP : Hid ((wv n xs) ^ (wv m ys).toNat = (wv n xs) ^ val ys) := by
            show _ = _
            have hv : (wv m ys).toNat = val ys := by have h1 := wv_abs m ys; have h2 := HN.out; omega
            rw [hv]
          have HB2 := Lib.hid (fun (W2 : World) (h : Below W.heap.size W W2) => HB.out _ (HE.out.bel.trans (h.mono HE.out.bel.size)))
          have HBW := Lib.hid HE.out.bel
          have hGS : St W [] [(w.heap.size + 1 + 1, false, none, 0, 0), (w.heap.size + 1, m, b, lb, cb), (w.heap.size, n, a, la, ca)] W := ⟨fun _ h => (by cases h), HE.out.boxes, Below.refl _ _⟩
          have HS := Lib.hid hGS
          clear hk2 hk3 HK hGS
          go_wp2_with fail
          clear a0 a1 b0 b1 f0 f1
          generalize W = W2 at *
          generalize m = n2 at *
          generalize b = b2 at *
          generalize lb = lb2 at *
          generalize cb = cb2 at *
          generalize ys = ys2 at *
          have hcb2 : lb2 ≤ cb2 := hcb
          have hbb2 : lb2 ≤ 1048576 := hbb
          have HBY2 := HBY
          have HLB2 := HLB
          have HLT : Hid (w.heap.size + 1 + 1 < W2.heap.size) := lt_of_block (HS.out.boxes _ List.mem_cons_self)
          refine (s_int HS.out 1 (by decide) (by decide)).mono ?_
          rintro e w3 ⟨q0, qa0, ql0, qc0, rfl, hS⟩
          have HGT : Hid (w.heap.size + 1 + 1 < w3.heap.size ∧ W2.heap.size ≤ w3.heap.size) := ⟨Nat.lt_of_lt_of_le HLT.out hS.bel.size, hS.bel.size⟩
          have hS := hS.new w3.heap.size rfl q0 qa0 ql0 qc0
          clear HS HLT
          have HS := Lib.hid hS
          clear hS
          obtain ⟨b0, b1, -, -⟩ := HS.out.cells (g := w.heap.size + 1) (n := n2) (a := b2) (l := lb2) (c := cb2) (by simp)
          go_wp2_with fail
          generalize hW3 : w3.alloc (Obj.cells #[.bool q0, .slice qa0 ql0 qc0] 24) = W3 at *
          generalize w3.heap.size = g at *
          clear hW3
          refine (bits_any b2 lb2 cb2 ys2 _ HLB2.out (by omega) hcb2 (HB2.out _ HS.out.bel) HBY2.out).mono ?_
          rintro e w1 ⟨⟨K, rfl, hK, hK2⟩, rfl⟩
          clear b0 b1
          have HKB : Hid (K ≤ 64 * lb2) := by show _ ≤ _; have := (fl_spec ys2).1; have h3 := HLB2.out; omega
          have hK3 : K ≤ 67108864 := by have := HKB.out; omega
          have HK2 := Lib.hid hK
          clear hK hK2
          go_wp2
          go_loopw [7, 8] (fun e i wr => ∃ (j : Nat) (k iv : Int) (q : Bool) (qa : Option Addr) (ql qc : Nat), e = .int .i64 k ∧ i = .int .i64 iv ∧ Hid (iv + 1 = (j : Int)) ∧ j ≤ K ∧ Hid (∃ Z, PI (wv n xs) (val ys2) j k Z ∧ St W2 [(.agg #[.bool q, .slice qa ql qc], Z)] [(g, q, qa, ql, qc), (w.heap.size + 1 + 1, false, none, 0, 0), (w.heap.size + 1, n2, b2, lb2, cb2), (w.heap.size, n, a, la, ca)] wr)) (fun _ i _ => (intOf i + 1).toNat)
          case atStart =>
            exact ⟨K, 0, _, q0, qa0, ql0, qc0, rfl, rfl, by show _ = _; omega, Nat.le_refl _, 1, PI.start _ HK2.out, HS.out⟩
          case round =>
            clear HS
            obtain ⟨j, k, iv, q, qa, ql, qc, rfl, rfl, hiv, hjK, HS⟩ := hrel
            obtain ⟨Z, hPI, hS⟩ := HS.out
            clear HS
            have HS := Lib.hid hS
            clear hS
            by_cases hex : j = 0 ∨ k ≠ 0
            · have HDONE : Hid ((k = 0 ∧ Z = (wv n xs) ^ val ys2) ∨ (k = 3 ∧ Z = 0 ∧ LIM ≤ ((wv n xs) ^ val ys2).natAbs)) := by
                show _ ∨ _
                rcases hPI with ⟨h1, h2⟩ | h
                · refine .inl ⟨h1, ?_⟩
                  obtain rfl : j = 0 := by omega
                  rw [h2, Nat.pow_zero, Nat.div_one]
                · exact .inr h
              have hk3 : j = 0 ∨ k = 3 := by
                rcases hPI with ⟨h1, _⟩ | ⟨h1, _⟩ <;> omega
              clear hex hPI
              have HHE := Lib.hid (HS.out.held (g := w.heap.size + 1 + 1) (n := false) (a := none) (l := 0) (c := 0) (by simp))
              obtain ⟨_, _, _, _, d0, d1, d2, d3⟩ := HHE.out.cells
              obtain ⟨c0, c1, -, -⟩ := HS.out.cells (g := g) (n := q) (a := qa) (l := ql) (c := qc) (by simp)
              obtain ⟨zs, rfl, rfl, ho, hN, hl⟩ := (HS.out.val (v := .agg #[.bool q, .slice qa ql qc]) (Z := Z) List.mem_cons_self).opens
              have HO := Lib.hid (owns_base ho HBW.out.size)
              have HTL : Hid (PowTells _ (wv n xs) _ k (decide (Z < 0)) zs) := PI.tells (And.intro H1.out H2.out) HN.out hTP.out HDONE.out hN hl
              have HBEL := Lib.hid (HBW.out.trans (HS.out.bel.mono HBW.out.size))
              clear HS ho hN hl HDONE
              generalize decide (Z < 0) = q at *
              rcases Nat.eq_zero_or_pos j with rfl | hj
              · obtain rfl : iv = -1 := by have := hiv.out; omega
                clear hk3
                go_wp2
                refine bodyPost_ret (results_held rfl rfl rfl HHE.out) rfl ?_
                exact WTold.seth (Q := PowTells _ (wv n xs) _) ⟨HBEL.out, q, qa, qc, k, zs, rfl, HO.out, HTL.out⟩ HHE.out (by omega) _ _
              · obtain rfl : k = 3 := by omega
                obtain ⟨j', rfl⟩ : ∃ j', j = j' + 1 := ⟨j - 1, by omega⟩
                obtain rfl : iv = (j' : Int) := by have := hiv.out; omega
                have hge : decide ((0 : Int) ≤ (j' : Int)) = true := by simp
                clear hk3 hj
                go_wp2
                refine bodyPost_ret (results_held rfl rfl rfl HHE.out) rfl ?_
                exact WTold.seth (Q := PowTells _ (wv n xs) _) ⟨HBEL.out, q, qa, qc, 3, zs, rfl, HO.out, HTL.out⟩ HHE.out (by omega) _ _
            · obtain ⟨j', rfl⟩ : ∃ j', j = j' + 1 := ⟨j - 1, by omega⟩
              obtain rfl : k = 0 := by omega
              obtain rfl : iv = (j' : Int) := by have := hiv.out; omega
              have HZ : Hid (Z = (wv n xs) ^ (val ys2 / 2 ^ (j' + 1))) := by
                rcases hPI with ⟨_, h2⟩ | ⟨h1, _⟩
                · exact h2
                · exact absurd h1 (by decide)
              have hge : decide ((0 : Int) ≤ (j' : Int)) = true := by simp
              clear hPI hex
              obtain ⟨c0, c1, -, -⟩ := HS.out.cells (g := g) (n := q) (a := qa) (l := ql) (c := qc) (by simp)
              go_wp2_with fail
              clear c0 c1
              refine (s_mul HS.out (HT.out _ (HBW.out.trans (HS.out.bel.mono HBW.out.size))) (HTR.out _ (HBW.out.trans (HS.out.bel.mono HBW.out.size))) (v1 := .agg #[.bool q, .slice qa ql qc]) (v2 := .agg #[.bool q, .slice qa ql qc]) List.mem_cons_self List.mem_cons_self).mono ?_
              intro e w4 hor
              rcases hor with ⟨hl, q1, qa1, ql1, qc1, rfl, hS⟩ | ⟨hl, q1, qa1, ql1, qc1, rfl, hS⟩
              · obtain ⟨c0, c1, c2, c3⟩ := hS.cells (g := g) (n := q) (a := qa) (l := ql) (c := qc) (by simp)
                have hS5 := (hS.sub (L' := [(.agg #[.bool q1, .slice qa1 ql1 qc1], Z * Z)]) (fun p hp => by simp only [List.mem_cons, List.mem_nil_iff, or_false] at hp ⊢; exact .inl hp) (fun p hp => hp)).set (fun p hp => by have := HGT.out; simp only [List.mem_cons, List.mem_nil_iff, or_false] at hp; rcases hp with rfl | rfl | rfl <;> simp <;> omega) HGT.out.2 q1 qa1 ql1 qc1
                have HS5 := Lib.hid hS5
                clear hS hS5 HS hl
                obtain ⟨b0, b1, -, -⟩ := HS5.out.cells (g := w.heap.size + 1) (n := n2) (a := b2) (l := lb2) (c := cb2) (by simp)
                go_wp2_with fail
                refine (bit_any b2 lb2 cb2 j' ys2 _ HLB2.out (HB2.out _ HS5.out.bel) HBY2.out (by have := HKB.out; omega) hbb2).mono ?_
                rintro e w1 ⟨rfl, rfl⟩
                clear c0 c1 c2 c3 b0 b1
                generalize (w4.setCell ⟨g, 0, none⟩ (.bool q1)).setCell ⟨g, 1, none⟩ (.slice qa1 ql1 qc1) = w5 at *
                by_cases hbit : val ys2 / 2 ^ j' % 2 = 1
                · rw [decide_eq_true hbit]
                  have HBIT := Lib.hid hbit
                  clear hbit
                  obtain ⟨c0, c1, -, -⟩ := HS5.out.cells (g := g) (n := q1) (a := qa1) (l := ql1) (c := qc1) (by simp)
                  obtain ⟨a0, a1, -, -⟩ := HS5.out.cells (g := w.heap.size) (n := n) (a := a) (l := la) (c := ca) (by simp)
                  go_wp2_with fail
                  clear c0 c1 a0 a1
                  have hbel := Lib.hid (HBW.out.trans (HS5.out.bel.mono HBW.out.size))
                  refine (s_mulR HS5.out (HT.out _ hbel.out) (HTR.out _ hbel.out) (v1 := .agg #[.bool q1, .slice qa1 ql1 qc1]) List.mem_cons_self n a la ca xs HLA.out hba hca (HA.out _ hbel.out) HBX.out H1.out).mono ?_
                  intro e w6 hor
                  rcases hor with ⟨hl, q2, qa2, ql2, qc2, rfl, hS⟩ | ⟨hl, q2, qa2, ql2, qc2, rfl, hS⟩
                  · obtain ⟨c0, c1, c2, c3⟩ := hS.cells (g := g) (n := q1) (a := qa1) (l := ql1) (c := qc1) (by simp)
                    have HS7 := Lib.hid ((hS.sub (L' := [(.agg #[.bool q2, .slice qa2 ql2 qc2], Z * Z * wv n xs)]) (fun p hp => by simp only [List.mem_cons, List.mem_nil_iff, or_false] at hp ⊢; exact .inl hp) (fun p hp => hp)).set (fun p hp => by have := HGT.out; simp only [List.mem_cons, List.mem_nil_iff, or_false] at hp; rcases hp with rfl | rfl | rfl <;> simp <;> omega) HGT.out.2 q2 qa2 ql2 qc2)
                    clear hS HS5 hl
                    go_wp2
                    go_roundw
                    case rel => exact ⟨j', 0, _, q2, qa2, ql2, qc2, rfl, rfl, by show _ = _; omega, by omega, _, by rw [HZ.out]; exact PI.odd HBIT.out, HS7.out⟩
                    case measure => first | (simp [intOf]; done) | (simp [intOf]; omega)
                  · obtain ⟨c0, c1, c2, c3⟩ := hS.cells (g := g) (n := q1) (a := qa1) (l := ql1) (c := qc1) (by simp)
                    have HS7 := Lib.hid ((hS.sub (L' := [(.agg #[.bool q2, .slice qa2 ql2 qc2], 0)]) (fun p hp => by simp only [List.mem_cons, List.mem_nil_iff, or_false] at hp ⊢; exact .inl hp) (fun p hp => hp)).set (fun p hp => by have := HGT.out; simp only [List.mem_cons, List.mem_nil_iff, or_false] at hp; rcases hp with rfl | rfl | rfl <;> simp <;> omega) HGT.out.2 q2 qa2 ql2 qc2)
                    have HGL : Hid (PI (wv n xs) (val ys2) j' 3 0) := PI.great2 (by rw [← HZ.out]; exact hl) HBIT.out
                    clear hS HS5 hl
                    go_wp2
                    go_roundw
                    case rel => exact ⟨j', 3, _, q2, qa2, ql2, qc2, rfl, rfl, by show _ = _; omega, by omega, 0, HGL.out, HS7.out⟩
                    case measure => first | (simp [intOf]; done) | (simp [intOf]; omega)
                · rw [decide_eq_false hbit]
                  have HBIT := Lib.hid hbit
                  clear hbit
                  go_wp2
                  go_roundw
                  case rel => exact ⟨j', 0, _, q1, qa1, ql1, qc1, rfl, rfl, by show _ = _; omega, by omega, _, by rw [HZ.out]; exact PI.even HBIT.out, HS5.out⟩
                  case measure => first | (simp [intOf]; done) | (simp [intOf]; omega)
              · obtain ⟨c0, c1, c2, c3⟩ := hS.cells (g := g) (n := q) (a := qa) (l := ql) (c := qc) (by simp)
                have HS5 := Lib.hid ((hS.sub (L' := [(.agg #[.bool q1, .slice qa1 ql1 qc1], 0)]) (fun p hp => by simp only [List.mem_cons, List.mem_nil_iff, or_false] at hp ⊢; exact .inl hp) (fun p hp => hp)).set (fun p hp => by have := HGT.out; simp only [List.mem_cons, List.mem_nil_iff, or_false] at hp; rcases hp with rfl | rfl | rfl <;> simp <;> omega) HGT.out.2 q1 qa1 ql1 qc1)
                have HGL : Hid (PI (wv n xs) (val ys2) j' 3 0) := PI.great (by rw [← HZ.out]; exact hl)
                clear hS HS hl
                go_wp2
                go_roundw
                case rel => exact ⟨j', 3, _, q1, qa1, ql1, qc1, rfl, rfl, by show _ = _; omega, by omega, 0, HGL.out, HS5.out⟩
                case measure => first | (simp [intOf]; done) | (simp [intOf]; omega)
    · have H2 := Lib.hid h2
      rw [decide_eq_false h2]
      clear h1 h2
      go_wp2
      refine bodyPost_ret (results_WO2 rfl rfl rfl (heap_kept (heap_kept (heap_third _ _ _ _) _) _)) rfl ?_
      exact ⟨((((Below.refl _ _).alloc (Nat.le_refl _) _).alloc (by simp) _).alloc (by simp <;> omega) _).alloc (by simp <;> omega) _ |>.alloc (by simp <;> omega) _, false, none, 0, 3, [], rfl, own64_nil _ _, .inl ⟨fun h => H2.out h.2, rfl, rfl, rfl⟩⟩
  · have H1 := Lib.hid h1
    rw [decide_eq_false h1]
    clear h1
    go_wp2
    refine bodyPost_ret (results_WO2 rfl rfl rfl (heap_kept (heap_third _ _ _ _) _)) rfl ?_
    exact ⟨(((Below.refl _ _).alloc (Nat.le_refl _) _).alloc (by simp) _).alloc (by simp <;> omega) _ |>.alloc (by simp <;> omega) _, false, none, 0, 3, [], rfl, own64_nil _ _, .inl ⟨fun h => H1.out h.1, rfl, rfl, rfl⟩⟩

end Go.Proofs.YtfjhmnbbjknflaaGreatDoor
