import Derived.Test.YteanpdiceaijhaaDoorGather
import Derived.Test.YteanpdiceaijhaaDoorAddN
import Derived.Test.YteanpdiceaijhaaDoorWorks
import Derived.Test.YteanpdiceaijhaaDoorSub
import Derived.Test.YteanpdiceaijhaaDoorBkW
import Derived.Outline
namespace Go.Proofs.YteanpdiceaijhaaDoor
open Go.RowKit

/-- A list of limbs of the law's own, told by its worth; k: it stands in its form. -/
def IsN (B : Nat) (w : World) (v : Value) (n : Nat) (k : Bool) : Prop :=
  ∃ a c zs, v = .slice a zs.length c ∧ own64 w B (.slice a zs.length c) zs ∧ Bd zs ∧ val zs = n ∧ zs.length ≤ 128 ∧ (k = true → Num zs n)
theorem own64.keep {w w' : World} {B : Nat} {v : Value} {zs : List Nat} (h : own64 w B v zs) (hb : Below w.heap.size w w') : own64 w' B v zs := (Chg.of_below hb).owns h (fun k hk => by have := h.lt k hk; omega)
theorem below_dn (w : World) (m : Nat) : Below w.heap.size w (w.drewN m) := ⟨rfl, rfl, rfl, Nat.le_refl _, fun _ _ => rfl⟩
theorem IsN.below {B : Nat} {w w' : World} {v : Value} {n : Nat} {k : Bool} (h : IsN B w v n k) (hb : Below w.heap.size w w') : IsN B w' v n k := by
  obtain ⟨a, c, zs, h1, h2, h3⟩ := h
  exact ⟨a, c, zs, h1, own64.keep h2 hb, h3⟩
theorem IsN.lt {B : Nat} {w : World} {v : Value} {n : Nat} {k : Bool} (h : IsN B w v n k) : n < 18446744073709551616 ^ 128 := by
  obtain ⟨a, c, zs, _, _, hb, hv, hl, _⟩ := h
  have h1 := val_lt hb
  rw [hv] at h1
  have : (18446744073709551616 : Nat) ^ zs.length ≤ 18446744073709551616 ^ 128 := Nat.pow_le_pow_right (by decide) hl
  omega
theorem IsN.of_num {B : Nat} {w : World} {v : Value} {zs : List Nat} {n : Nat} (ho : own64 w B v zs) (hN : Num zs n) (hn : n < 18446744073709551616 ^ 128) : IsN B w v n true := by
  obtain ⟨a, c, rfl, _⟩ := own64.form ho
  exact ⟨a, c, zs, rfl, ho, hN.bd, hN.vl, (hN.len_le (k := 128)).2 hn, fun _ => hN⟩
theorem own64_of {w : World} {B k : Nat} {v : Value} {zs : List Nat} (h : w.ownsRow B 55 1 v k (u64s zs)) (h2 : zs.length = k) : own64 w B v zs := by
  subst h2; exact h
theorem IsN.of_own {B : Nat} {w : World} {v : Value} {zs : List Nat} {n : Nat} (ho : own64 w B v zs) (hb : Bd zs) (hv : val zs = n) (hl : zs.length ≤ 128) : IsN B w v n false := by
  obtain ⟨a, c, rfl, _⟩ := own64.form ho
  exact ⟨a, c, zs, rfl, ho, hb, hv, hl, fun h => by cases h⟩
/-- What lists are known. -/
def NEnv (B : Nat) (w : World) (L : List (Value × Nat × Bool)) : Prop := B ≤ w.heap.size ∧ ∀ p ∈ L, IsN B w p.1 p.2.1 p.2.2
theorem NEnv.get {B : Nat} {w : World} {L : List (Value × Nat × Bool)} {v : Value} {n : Nat} {k : Bool} (h : NEnv B w L) (hm : (v, n, k) ∈ L) : IsN B w v n k := h.2 _ hm
theorem NEnv.below {B : Nat} {w w' : World} {L : List (Value × Nat × Bool)} (h : NEnv B w L) (hb : Below w.heap.size w w') : NEnv B w' L :=
  ⟨Nat.le_trans h.1 hb.size, fun p hp => (h.2 p hp).below hb⟩
theorem NEnv.add {B : Nat} {w w' : World} {L : List (Value × Nat × Bool)} {v : Value} {n : Nat} {k : Bool} (h : NEnv B w L) (hb : Below w.heap.size w w') (hv : IsN B w' v n k) : NEnv B w' ((v, n, k) :: L) :=
  ⟨Nat.le_trans h.1 hb.size, fun p hp => by
    rcases List.mem_cons.1 hp with rfl | hp
    · exact hv
    · exact (h.2 p hp).below hb⟩
theorem fl_le_128 {zs : List Nat} (h : zs.length ≤ 128) : fl zs ≤ 128 := Nat.le_trans (fl_spec zs).1 h

set_option exponentiation.threshold 10000 in
theorem n_of_post {B : Nat} {w w' : World} {L : List (Value × Nat × Bool)} {e : Ending} {n : Nat} {fits : Prop} (h : NEnv B w L) (hf : fits) (hl : n < 18446744073709551616 ^ 128) (hp : NumPost fits n w e w') :
    ∃ v, e = .returned (.tuple #[v, .int .i64 0]) ∧ NEnv B w' ((v, n, true) :: L) ∧ Below w.heap.size w w' := by
  obtain ⟨hb, hor⟩ := hp
  rcases hor with ⟨h1, _⟩ | ⟨_, _, v, zs, rfl, ho, hN⟩
  · exact absurd ⟨hf, hl⟩ h1
  · exact ⟨v, rfl, h.add hb (IsN.of_num (owns_base ho h.1) hN hl), hb⟩
theorem n_add {B : Nat} {w : World} {L : List (Value × Nat × Bool)} {v1 v2 : Value} {n1 n2 : Nat} {k1 k2 : Bool} (hE : NEnv B w L) (h1 : (v1, n1, k1) ∈ L) (h2 : (v2, n2, k2) ∈ L) (hl : n1 + n2 < 18446744073709551616 ^ 128) :
    Calls Tryd.prog 35 #[v1, v2] w fun e w' => ∃ v, e = .returned (.tuple #[v, .int .i64 0]) ∧ NEnv B w' ((v, n1 + n2, true) :: L) ∧ Below w.heap.size w w' := by
  obtain ⟨a, ca, xs, rfl, ho1, hb1, rfl, hl1, -⟩ := hE.get h1
  obtain ⟨b, cb, ys, rfl, ho2, hb2, rfl, hl2, -⟩ := hE.get h2
  exact (add_any a b _ _ ca cb xs ys w rfl rfl (by omega) (by omega) (own64.room ho1).1 (own64.room ho2).1 (own64.rd ho1).2 (own64.rd ho2).2 hb1 hb2).mono fun e w' hp => n_of_post hE ⟨fl_le_128 hl1, fl_le_128 hl2⟩ hl hp
theorem n_mul {B : Nat} {w : World} {L : List (Value × Nat × Bool)} {v1 v2 : Value} {n1 n2 : Nat} {k1 k2 : Bool} (hE : NEnv B w L) (hT : Trig w) (h1 : (v1, n1, k1) ∈ L) (h2 : (v2, n2, k2) ∈ L) (hl : n1 * n2 < 18446744073709551616 ^ 128) :
    Calls Tryd.prog 34 #[v1, v2] w fun e w' => ∃ v, e = .returned (.tuple #[v, .int .i64 0]) ∧ NEnv B w' ((v, n1 * n2, true) :: L) ∧ Below w.heap.size w w' := by
  obtain ⟨a, ca, xs, rfl, ho1, hb1, rfl, hl1, -⟩ := hE.get h1
  obtain ⟨b, cb, ys, rfl, ho2, hb2, rfl, hl2, -⟩ := hE.get h2
  exact (mul_any a b _ _ ca cb xs ys w rfl rfl (by omega) (by omega) (own64.room ho1).1 (own64.room ho2).1 (own64.rd ho1).2 (own64.rd ho2).2 hb1 hb2 hT).mono fun e w' hp => n_of_post hE ⟨fl_le_128 hl1, fl_le_128 hl2⟩ hl hp
/-- Sub, where it answers a number; where it is below. -/
theorem n_sub {B : Nat} {w : World} {L : List (Value × Nat × Bool)} {v1 v2 : Value} {n1 n2 : Nat} {k1 k2 : Bool} (hE : NEnv B w L) (h1 : (v1, n1, k1) ∈ L) (h2 : (v2, n2, k2) ∈ L) (hle : n2 ≤ n1) :
    Calls Tryd.prog 26 #[v1, v2] w fun e w' => ∃ v, e = .returned (.tuple #[v, .int .i64 0]) ∧ NEnv B w' ((v, n1 - n2, true) :: L) ∧ Below w.heap.size w w' := by
  have hn1 := (hE.get h1).lt
  obtain ⟨a, ca, xs, rfl, ho1, hb1, rfl, hl1, -⟩ := hE.get h1
  obtain ⟨b, cb, ys, rfl, ho2, hb2, rfl, hl2, -⟩ := hE.get h2
  refine (sub_any a b _ _ ca cb xs ys w rfl rfl (by omega) (by omega) (own64.room ho1).1 (own64.room ho2).1 (own64.room ho1).2 (own64.rd ho1).2 (own64.rd ho2).2 hb1 hb2).mono ?_
  rintro e w' ⟨hb, hor⟩
  have f1 := fl_le_128 hl1
  have f2 := fl_le_128 hl2
  rcases hor with ⟨h, _⟩ | ⟨_, _, h, _⟩ | ⟨_, _, _, v, zs, rfl, ho, hN⟩
  · omega
  · omega
  · exact ⟨v, rfl, hE.add hb (IsN.of_num (owns_base ho hE.1) hN (Nat.lt_of_le_of_lt (Nat.sub_le _ _) hn1)), hb⟩
theorem n_sub_below {B : Nat} {w : World} {L : List (Value × Nat × Bool)} {v1 v2 : Value} {n1 n2 : Nat} {k1 k2 : Bool} (hE : NEnv B w L) (h1 : (v1, n1, k1) ∈ L) (h2 : (v2, n2, k2) ∈ L) (hlt : n1 < n2) :
    Calls Tryd.prog 26 #[v1, v2] w fun e w' => e = .returned (.tuple #[.slice none 0 0, .int .i64 10]) ∧ NEnv B w' L ∧ Below w.heap.size w w' := by
  obtain ⟨a, ca, xs, rfl, ho1, hb1, rfl, hl1, -⟩ := hE.get h1
  obtain ⟨b, cb, ys, rfl, ho2, hb2, rfl, hl2, -⟩ := hE.get h2
  refine (sub_any a b _ _ ca cb xs ys w rfl rfl (by omega) (by omega) (own64.room ho1).1 (own64.room ho2).1 (own64.room ho1).2 (own64.rd ho1).2 (own64.rd ho2).2 hb1 hb2).mono ?_
  rintro e w' ⟨hb, hor⟩
  have f1 := fl_le_128 hl1
  have f2 := fl_le_128 hl2
  rcases hor with ⟨h, _⟩ | ⟨_, _, _, rfl⟩ | ⟨_, _, h, _⟩
  · omega
  · exact ⟨rfl, hE.below hb, hb⟩
  · omega
theorem n_cmp {B : Nat} {w : World} {L : List (Value × Nat × Bool)} {v1 v2 : Value} {n1 n2 : Nat} {k1 k2 : Bool} (hE : NEnv B w L) (h1 : (v1, n1, k1) ∈ L) (h2 : (v2, n2, k2) ∈ L) :
    Calls Tryd.prog 31 #[v1, v2] w fun e w' => e = .returned (.int .i64 (cmpI n1 n2)) ∧ NEnv B w' L ∧ Below w.heap.size w w' := by
  obtain ⟨a, ca, xs, rfl, ho1, hb1, rfl, hl1, -⟩ := hE.get h1
  obtain ⟨b, cb, ys, rfl, ho2, hb2, rfl, hl2, -⟩ := hE.get h2
  refine (cmp_any a b _ _ ca cb xs ys w rfl rfl (by omega) (by omega) (own64.room ho1).1 (own64.room ho2).1 (own64.rd ho1).2 (own64.rd ho2).2 hb1 hb2).mono ?_
  rintro e w' ⟨rfl, m, rfl⟩
  exact ⟨rfl, hE.below (below_dn w m), below_dn w m⟩
theorem n_same {B : Nat} {w : World} {L : List (Value × Nat × Bool)} {v1 v2 : Value} {n1 n2 : Nat} (hE : NEnv B w L) (h1 : (v1, n1, true) ∈ L) (h2 : (v2, n2, true) ∈ L) (he : n1 = n2) :
    Calls Tryd.prog 29 #[v1, v2] w fun e w' => e = .returned (.bool true) ∧ NEnv B w' L ∧ Below w.heap.size w w' := by
  subst he
  obtain ⟨a, ca, xs, rfl, ho1, _, _, hl1, hN1⟩ := hE.get h1
  obtain ⟨b, cb, ys, rfl, ho2, _, _, hl2, hN2⟩ := hE.get h2
  obtain rfl := (hN1 rfl).unique (hN2 rfl)
  refine (words_same a b _ ca cb xs w rfl (by omega) (own64.rd ho1).2 (own64.rd ho2).2).mono ?_
  rintro e w' ⟨he, m, rfl⟩
  exact ⟨he, hE.below (below_dn w m), below_dn w m⟩

set_option maxHeartbeats 1000000 in
theorem n_norm {B : Nat} {w : World} {L : List (Value × Nat × Bool)} {v1 : Value} {n1 : Nat} {k1 : Bool} (hE : NEnv B w L) (h1 : (v1, n1, k1) ∈ L) :
    Calls Tryd.prog 28 #[v1] w fun e w' => ∃ v, e = .returned (.tuple #[v, .int .i64 0]) ∧ NEnv B w' ((v, n1, true) :: L) ∧ Below w.heap.size w w' := by
  have hn1 := (hE.get h1).lt
  obtain ⟨a, ca, xs, rfl, ho1, hb1, rfl, hl1, -⟩ := hE.get h1
  have hroom := own64.room ho1
  have hr := (own64.rd ho1).2
  have hfl := (fl_spec xs).1
  have hnum := num_fm hb1
  have HE := Lib.hid (And.intro hE (And.intro hn1 hnum))
  have HR := Lib.hid hr
  have HO := Lib.hid ho1
  have HM := Lib.hid hroom
  clear hE h1 ho1 hb1 hnum hn1 hr hroom
  obtain ⟨la, hla⟩ : ∃ la, xs.length = la := ⟨_, rfl⟩
  rw [hla] at hl1 hfl HM HO
  have HLA := Lib.hid hla
  rw [hla]
  clear hla
  go_enter Tryd.func28, Tryd.ntmps28
  go_wp2_with fail
  refine (one_any a la ca xs _ HLA.out (by omega) HM.out.1 HR.out).mono ?_
  rintro e w1 ⟨hor, rfl⟩
  rcases hor with ⟨h2, a', c', rfl, g1, g2⟩ | ⟨h2, rfl⟩
  · have hF : FormOf a ca (fl xs) a' c' := ⟨g1, g2⟩
    have hr' := hF.rd HR.out (by rw [HLA.out]; exact hfl)
    have hc0 : fl xs = 0 → a' = none → c' = 0 := fun h _ => (g2 h).2
    have HX := Lib.hid (And.intro hr' hc0)
    clear g1 g2 hF hr' hc0
    go_wp2_with fail
    refine (copied_any a' (fl xs) c' (fm xs) _ (fm_length xs) (by omega) HX.out.2 HX.out.1).mono ?_
    rintro e w2 ⟨v, rfl, ho, hb, -⟩
    have HV := Lib.hid (And.intro ho hb)
    clear ho hb
    go_wp2
    go_ret2
    exact ⟨v, rfl, HE.out.1.add HV.out.2 (IsN.of_num (owns_base HV.out.1 HE.out.1.1) HE.out.2.2 HE.out.2.1), HV.out.2⟩
  · omega
set_option maxHeartbeats 1000000 in
theorem n_sum {B : Nat} {w : World} {L : List (Value × Nat × Bool)} {v1 v2 : Value} {n1 n2 : Nat} {k1 k2 : Bool} (hE : NEnv B w L) (h1 : (v1, n1, k1) ∈ L) (h2 : (v2, n2, k2) ∈ L) (hl : n1 + n2 < 18446744073709551616 ^ 128) :
    Calls Tryd.prog 27 #[v1, v2] w fun e w' => ∃ v, e = .returned v ∧ NEnv B w' ((v, n1 + n2, true) :: L) ∧ Below w.heap.size w w' := by
  have HC := Lib.hid (n_add hE h1 h2 hl)
  clear hE h1 h2 hl
  go_enter Tryd.func27, Tryd.ntmps27
  go_wp2_with fail
  refine HC.out.mono ?_
  rintro e w2 ⟨v, rfl, hp⟩
  have HP := Lib.hid hp
  clear hp
  go_wp2
  go_ret
  exact ⟨v, rfl, HP.out⟩
set_option maxHeartbeats 1000000 in
theorem n_product {B : Nat} {w : World} {L : List (Value × Nat × Bool)} {v1 v2 : Value} {n1 n2 : Nat} {k1 k2 : Bool} (hE : NEnv B w L) (hT : Trig w) (h1 : (v1, n1, k1) ∈ L) (h2 : (v2, n2, k2) ∈ L) (hl : n1 * n2 < 18446744073709551616 ^ 128) :
    Calls Tryd.prog 30 #[v1, v2] w fun e w' => ∃ v, e = .returned v ∧ NEnv B w' ((v, n1 * n2, true) :: L) ∧ Below w.heap.size w w' := by
  have HC := Lib.hid (n_mul hE hT h1 h2 hl)
  clear hE h1 h2 hl hT
  go_enter Tryd.func30, Tryd.ntmps30
  go_wp2_with fail
  refine HC.out.mono ?_
  rintro e w2 ⟨v, rfl, hp⟩
  have HP := Lib.hid hp
  clear hp
  go_wp2
  go_ret
  exact ⟨v, rfl, HP.out⟩

set_option maxHeartbeats 2000000 in
set_option maxRecDepth 100000 in
/-- some: the first limbs of a list. -/
theorem nsome_any (a : Option Addr) (la ca K : Nat) (xs : List Nat) (w : World) (hla : xs.length = la) (hba : la ≤ 9223372036854775807) (hK : K ≤ 128) (hra : Rd .u64 w a xs) (bx : Bd xs) :
    Calls Tryd.prog 25 #[.slice a la ca, .int .i64 (K : Nat)] w fun e w' => ∃ v, e = .returned v ∧ IsN w.heap.size w' v (val (xs.take K)) false ∧ Below w.heap.size w w' := by
  have HBX := Lib.hid bx
  have HR := Lib.hid hra
  clear hra bx
  go_enter Tryd.func25, Tryd.ntmps25
  go_wp2
  go_loopw [5, 6] (fun v i wr => ∃ k : Nat, k ≤ la ∧ k ≤ K ∧ i = .int .i64 k ∧ Hid (wr.ownsRow w.heap.size 55 1 v k (u64s (xs.take k))) ∧ Hid (Below w.heap.size w wr)) (fun _ i _ => K - (intOf i).toNat)
  case atStart => exact ⟨0, Nat.zero_le _, Nat.zero_le _, rfl, World.ownsRow_nil _ _ _ _, Below.refl _ _⟩
  case round =>
    obtain ⟨k, hk, hkK, rfl, HO, HB⟩ := hrel
    by_cases hlt : k < la ∧ k < K
    · obtain ⟨hl1, hl2⟩ := hlt
      obtain ⟨b, off, rfl⟩ := HR.out.isAt (by omega)
      have hcell : wr.cell? ⟨b, off + k, none⟩ = some (.int .u64 (xs.getD k 0 : Nat)) := below_cell HB.out _ _ (HR.out.cell (by omega))
      have hq1 : decide (k < la) = true := by rw [decide_eq_true_iff]; omega
      have hq2 : decide (k < K) = true := by rw [decide_eq_true_iff]; omega
      generalize hxe : xs.getD k 0 = x at hcell
      have hx := Lib.hid hxe
      clear hxe
      have hsz := HB.out.size
      go_wp2_with (at_builtin; refine wpl_app 22 55 Tryd.underlying22 info64 rfl (by decide) rfl _ _ rfl w.heap.size _ k (u64s (xs.take k)) rfl (World.ownsRow.alloc HO.out _) wr.heap.size _ rfl (World.cell?_alloc_at _ _ _ _ rfl) rfl (by omega) (by simp; omega) ?_; intro g cap' w1 hown1 hg1 hBg _ _; have HO1 := Lib.hid hown1; have HG1 := Lib.hid hg1; clear hown1 hg1)
      go_roundw
      case rel =>
        exact ⟨k + 1, by omega, by omega, by go_num, by show World.ownsRow _ _ _ _ _ _ _; rw [u64s_snoc xs k x (by omega) hx]; exact HO1.out, (HB.out.alloc HB.out.size _).grown HG1.out (by have := HB.out.size; simp; omega) (fun j hj => (World.ownsRow.lt HO.out j hj).1)⟩
      case measure => simp [intOf]; omega
    · have hq : (decide (k < la) = false) ∨ (decide (k < la) = true ∧ decide (k < K) = false) := by
        rw [decide_eq_false_iff_not, decide_eq_true_iff, decide_eq_false_iff_not]; omega
      have htk : Hid (xs.take k = xs.take K ∧ (xs.take k).length = k) := by
        refine ⟨?_, by rw [List.length_take]; omega⟩
        rcases Nat.lt_or_ge k la with h | h
        · rw [show k = K by omega]
        · rw [List.take_of_length_le (by omega), List.take_of_length_le (by omega)]
      have HOW := Lib.hid (own64_of HO.out htk.out.2)
      have HBT := Lib.hid (HBX.out.take k)
      clear HO
      have hfin := Lib.hid (IsN.of_own HOW.out HBT.out (show val (xs.take k) = val (xs.take K) by rw [htk.out.1]) (by rw [htk.out.2]; omega))
      rcases hq with hq | ⟨hq, hq2⟩
      all_goals
        go_wp2
        go_ret
        exact ⟨_, rfl, hfin.out, HB.out⟩

theorem IsN.base {B B' : Nat} {w : World} {v : Value} {n : Nat} {k : Bool} (h : IsN B w v n k) (hB : B' ≤ B) : IsN B' w v n k := by
  obtain ⟨a, c, zs, h1, h2, h3⟩ := h
  exact ⟨a, c, zs, h1, owns_base h2 hB, h3⟩
set_option exponentiation.threshold 10000 in
theorem lims {a b c : Nat} (ha : a < 18446744073709551616 ^ 40) (hb : b < 18446744073709551616 ^ 40) (hc : c < 18446744073709551616 ^ 40) :
    a + b < 18446744073709551616 ^ 128 ∧ a * b < 18446744073709551616 ^ 128 ∧ a + b + c < 18446744073709551616 ^ 128 ∧ a * b * c < 18446744073709551616 ^ 128 ∧ a * (b + c) < 18446744073709551616 ^ 128 ∧ a * b + a * c < 18446744073709551616 ^ 128 := by
  have k1 : a * b ≤ 18446744073709551616 ^ 40 * 18446744073709551616 ^ 40 := Nat.mul_le_mul (Nat.le_of_lt ha) (Nat.le_of_lt hb)
  have k2 : a * c ≤ 18446744073709551616 ^ 40 * 18446744073709551616 ^ 40 := Nat.mul_le_mul (Nat.le_of_lt ha) (Nat.le_of_lt hc)
  have k3 : a * b * c ≤ 18446744073709551616 ^ 40 * 18446744073709551616 ^ 40 * 18446744073709551616 ^ 40 := Nat.mul_le_mul k1 (Nat.le_of_lt hc)
  have e1 : (18446744073709551616 : Nat) ^ 40 * 18446744073709551616 ^ 40 = 18446744073709551616 ^ 80 := by rw [← Nat.pow_add]
  have e2 : (18446744073709551616 : Nat) ^ 40 * 18446744073709551616 ^ 40 * 18446744073709551616 ^ 40 = 18446744073709551616 ^ 120 := by rw [← Nat.pow_add, ← Nat.pow_add]
  rw [e1] at k1 k2
  rw [e2] at k3
  have p1 : (18446744073709551616 : Nat) ^ 40 * 4 ≤ 18446744073709551616 ^ 128 := by decide +kernel
  have p2 : (18446744073709551616 : Nat) ^ 80 * 4 ≤ 18446744073709551616 ^ 128 := by decide +kernel
  have p3 : (18446744073709551616 : Nat) ^ 120 < 18446744073709551616 ^ 128 := by decide +kernel
  rw [Nat.mul_add]
  generalize a * b * c = abc at *
  generalize a * b = ab at *
  generalize a * c = ac at *
  generalize (18446744073709551616 : Nat) ^ 40 = m40 at *
  generalize (18446744073709551616 : Nat) ^ 80 = m80 at *
  generalize (18446744073709551616 : Nat) ^ 120 = m120 at *
  generalize (18446744073709551616 : Nat) ^ 128 = m at *
  refine ⟨by omega, by omega, by omega, by omega, by omega, by omega⟩
theorem val_take_lt {xs : List Nat} (bx : Bd xs) (K : Nat) : val (xs.take K) < 18446744073709551616 ^ K := by
  have h1 := val_lt (bx.take K)
  have h2 : (18446744073709551616 : Nat) ^ (xs.take K).length ≤ 18446744073709551616 ^ K := Nat.pow_le_pow_right (by decide) (by rw [List.length_take]; omega)
  omega

set_option maxHeartbeats 8000000 in
set_option maxRecDepth 100000 in
theorem nlaws_any (a1 a2 a3 : Option Addr) (l1 c1 l2 c2 l3 c3 : Nat) (xs1 xs2 xs3 : List Nat) (w : World) (hl1 : xs1.length = l1) (hb1 : l1 ≤ 9223372036854775807) (hr1 : Rd .u64 w a1 xs1) (bx1 : Bd xs1) (hl2 : xs2.length = l2) (hb2 : l2 ≤ 9223372036854775807) (hr2 : Rd .u64 w a2 xs2) (bx2 : Bd xs2) (hl3 : xs3.length = l3) (hb3 : l3 ≤ 9223372036854775807) (hr3 : Rd .u64 w a3 xs3) (bx3 : Bd xs3) (hT : Trig w) :
    Calls Tryd.prog 4 #[.slice a1 l1 c1, .slice a2 l2 c2, .slice a3 l3 c3] w fun e w' => e = .returned (.bool true) ∧ Below w.heap.size w w' := by
  have HT := Lib.hid (fun (W : World) (h : Below w.heap.size w W) => hT.below h)
  have HS1 := Lib.hid (fun (W : World) (h : Below w.heap.size w W) => nsome_any a1 l1 c1 40 xs1 W hl1 hb1 (by decide) (hr1.below h) bx1)
  have HS2 := Lib.hid (fun (W : World) (h : Below w.heap.size w W) => nsome_any a2 l2 c2 40 xs2 W hl2 hb2 (by decide) (hr2.below h) bx2)
  have HS3 := Lib.hid (fun (W : World) (h : Below w.heap.size w W) => nsome_any a3 l3 c3 40 xs3 W hl3 hb3 (by decide) (hr3.below h) bx3)
  have HLA := Lib.hid (val_take_lt bx1 40)
  have HLB := Lib.hid (val_take_lt bx2 40)
  have HLC := Lib.hid (val_take_lt bx3 40)
  clear hT hl1 hb1 hr1 bx1 hl2 hb2 hr2 bx2 hl3 hb3 hr3 bx3
  generalize val (xs1.take 40) = A at *
  generalize val (xs2.take 40) = B at *
  generalize val (xs3.take 40) = C at *
  have HE : Hid (NEnv w.heap.size w [] ∧ Below w.heap.size w w) := ⟨⟨Nat.le_refl _, fun _ h => by cases h⟩, Below.refl _ _⟩
  go_enter Tryd.func4, Tryd.ntmps4
  go_wp2_with fail
  refine (HS1.out _ HE.out.2).mono ?_
  rintro e w1 ⟨vA, rfl, hI, hb⟩
  have hE := HE.out.1.add hb (hI.base HE.out.2.size)
  clear hI
  have HE := Lib.hid (And.intro hE (HE.out.2.trans (hb.mono HE.out.2.size)))
  clear hE hb
  go_wp2_with fail
  refine (HS2.out _ HE.out.2).mono ?_
  rintro e w2 ⟨vB, rfl, hI, hb⟩
  have hE := HE.out.1.add hb (hI.base HE.out.2.size)
  clear hI
  have HE := Lib.hid (And.intro hE (HE.out.2.trans (hb.mono HE.out.2.size)))
  clear hE hb
  go_wp2_with fail
  refine (HS3.out _ HE.out.2).mono ?_
  rintro e w3 ⟨vC, rfl, hI, hb⟩
  have hE := HE.out.1.add hb (hI.base HE.out.2.size)
  clear hI
  have HE := Lib.hid (And.intro hE (HE.out.2.trans (hb.mono HE.out.2.size)))
  clear hE hb
  go_wp2_with fail
  refine (n_sum (v1 := vA) (v2 := vB) HE.out.1 (by repeat first | exact List.mem_cons_self | apply List.mem_cons_of_mem) (by repeat first | exact List.mem_cons_self | apply List.mem_cons_of_mem) (lims HLA.out HLB.out HLC.out).1).mono ?_
  rintro e w4 ⟨s1, rfl, hE, hb⟩
  have HE := Lib.hid (And.intro hE (HE.out.2.trans (hb.mono HE.out.2.size)))
  clear hE hb
  go_wp2_with fail
  refine (n_sub (v1 := s1) (v2 := vB) HE.out.1 (by repeat first | exact List.mem_cons_self | apply List.mem_cons_of_mem) (by repeat first | exact List.mem_cons_self | apply List.mem_cons_of_mem) (Nat.le_add_left _ _)).mono ?_
  rintro e w5 ⟨d1, rfl, hE, hb⟩
  have HE := Lib.hid (And.intro hE (HE.out.2.trans (hb.mono HE.out.2.size)))
  clear hE hb
  go_wp2_with fail
  refine (n_norm (v1 := vA) HE.out.1 (by repeat first | exact List.mem_cons_self | apply List.mem_cons_of_mem)).mono ?_
  rintro e w6 ⟨nA, rfl, hE, hb⟩
  have HE := Lib.hid (And.intro hE (HE.out.2.trans (hb.mono HE.out.2.size)))
  clear hE hb
  go_wp2_with fail
  refine (n_same (v1 := d1) (v2 := nA) HE.out.1 (by repeat first | exact List.mem_cons_self | apply List.mem_cons_of_mem) (by repeat first | exact List.mem_cons_self | apply List.mem_cons_of_mem) (Nat.add_sub_cancel ..)).mono ?_
  rintro e w7 ⟨rfl, hE, hb⟩
  have HE := Lib.hid (And.intro hE (HE.out.2.trans (hb.mono HE.out.2.size)))
  clear hE hb
  go_wp2_with fail
  refine (n_sum (v1 := vA) (v2 := vB) HE.out.1 (by repeat first | exact List.mem_cons_self | apply List.mem_cons_of_mem) (by repeat first | exact List.mem_cons_self | apply List.mem_cons_of_mem) (lims HLA.out HLB.out HLC.out).1).mono ?_
  rintro e w8 ⟨s2, rfl, hE, hb⟩
  have HE := Lib.hid (And.intro hE (HE.out.2.trans (hb.mono HE.out.2.size)))
  clear hE hb
  go_wp2_with fail
  refine (n_sum (v1 := vB) (v2 := vA) HE.out.1 (by repeat first | exact List.mem_cons_self | apply List.mem_cons_of_mem) (by repeat first | exact List.mem_cons_self | apply List.mem_cons_of_mem) (lims HLB.out HLA.out HLC.out).1).mono ?_
  rintro e w9 ⟨s3, rfl, hE, hb⟩
  have HE := Lib.hid (And.intro hE (HE.out.2.trans (hb.mono HE.out.2.size)))
  clear hE hb
  go_wp2_with fail
  refine (n_same (v1 := s2) (v2 := s3) HE.out.1 (by repeat first | exact List.mem_cons_self | apply List.mem_cons_of_mem) (by repeat first | exact List.mem_cons_self | apply List.mem_cons_of_mem) (Nat.add_comm ..)).mono ?_
  rintro e w10 ⟨rfl, hE, hb⟩
  have HE := Lib.hid (And.intro hE (HE.out.2.trans (hb.mono HE.out.2.size)))
  clear hE hb
  go_wp2_with fail
  refine (n_product (v1 := vA) (v2 := vB) HE.out.1 (HT.out _ HE.out.2) (by repeat first | exact List.mem_cons_self | apply List.mem_cons_of_mem) (by repeat first | exact List.mem_cons_self | apply List.mem_cons_of_mem) (lims HLA.out HLB.out HLC.out).2.1).mono ?_
  rintro e w11 ⟨p2, rfl, hE, hb⟩
  have HE := Lib.hid (And.intro hE (HE.out.2.trans (hb.mono HE.out.2.size)))
  clear hE hb
  go_wp2_with fail
  refine (n_product (v1 := vB) (v2 := vA) HE.out.1 (HT.out _ HE.out.2) (by repeat first | exact List.mem_cons_self | apply List.mem_cons_of_mem) (by repeat first | exact List.mem_cons_self | apply List.mem_cons_of_mem) (lims HLB.out HLA.out HLC.out).2.1).mono ?_
  rintro e w12 ⟨p3, rfl, hE, hb⟩
  have HE := Lib.hid (And.intro hE (HE.out.2.trans (hb.mono HE.out.2.size)))
  clear hE hb
  go_wp2_with fail
  refine (n_same (v1 := p2) (v2 := p3) HE.out.1 (by repeat first | exact List.mem_cons_self | apply List.mem_cons_of_mem) (by repeat first | exact List.mem_cons_self | apply List.mem_cons_of_mem) (Nat.mul_comm ..)).mono ?_
  rintro e w13 ⟨rfl, hE, hb⟩
  have HE := Lib.hid (And.intro hE (HE.out.2.trans (hb.mono HE.out.2.size)))
  clear hE hb
  go_wp2_with fail
  refine (n_sum (v1 := vA) (v2 := vB) HE.out.1 (by repeat first | exact List.mem_cons_self | apply List.mem_cons_of_mem) (by repeat first | exact List.mem_cons_self | apply List.mem_cons_of_mem) (lims HLA.out HLB.out HLC.out).1).mono ?_
  rintro e w14 ⟨s4, rfl, hE, hb⟩
  have HE := Lib.hid (And.intro hE (HE.out.2.trans (hb.mono HE.out.2.size)))
  clear hE hb
  go_wp2_with fail
  refine (n_sum (v1 := s4) (v2 := vC) HE.out.1 (by repeat first | exact List.mem_cons_self | apply List.mem_cons_of_mem) (by repeat first | exact List.mem_cons_self | apply List.mem_cons_of_mem) (lims HLA.out HLB.out HLC.out).2.2.1).mono ?_
  rintro e w15 ⟨s5, rfl, hE, hb⟩
  have HE := Lib.hid (And.intro hE (HE.out.2.trans (hb.mono HE.out.2.size)))
  clear hE hb
  go_wp2_with fail
  refine (n_sum (v1 := vB) (v2 := vC) HE.out.1 (by repeat first | exact List.mem_cons_self | apply List.mem_cons_of_mem) (by repeat first | exact List.mem_cons_self | apply List.mem_cons_of_mem) (lims HLB.out HLC.out HLA.out).1).mono ?_
  rintro e w16 ⟨s6, rfl, hE, hb⟩
  have HE := Lib.hid (And.intro hE (HE.out.2.trans (hb.mono HE.out.2.size)))
  clear hE hb
  go_wp2_with fail
  refine (n_sum (v1 := vA) (v2 := s6) HE.out.1 (by repeat first | exact List.mem_cons_self | apply List.mem_cons_of_mem) (by repeat first | exact List.mem_cons_self | apply List.mem_cons_of_mem) (by rw [← Nat.add_assoc]; exact (lims HLA.out HLB.out HLC.out).2.2.1)).mono ?_
  rintro e w17 ⟨s7, rfl, hE, hb⟩
  have HE := Lib.hid (And.intro hE (HE.out.2.trans (hb.mono HE.out.2.size)))
  clear hE hb
  go_wp2_with fail
  refine (n_same (v1 := s5) (v2 := s7) HE.out.1 (by repeat first | exact List.mem_cons_self | apply List.mem_cons_of_mem) (by repeat first | exact List.mem_cons_self | apply List.mem_cons_of_mem) (Nat.add_assoc ..)).mono ?_
  rintro e w18 ⟨rfl, hE, hb⟩
  have HE := Lib.hid (And.intro hE (HE.out.2.trans (hb.mono HE.out.2.size)))
  clear hE hb
  go_wp2_with fail
  refine (n_product (v1 := vA) (v2 := vB) HE.out.1 (HT.out _ HE.out.2) (by repeat first | exact List.mem_cons_self | apply List.mem_cons_of_mem) (by repeat first | exact List.mem_cons_self | apply List.mem_cons_of_mem) (lims HLA.out HLB.out HLC.out).2.1).mono ?_
  rintro e w19 ⟨p4, rfl, hE, hb⟩
  have HE := Lib.hid (And.intro hE (HE.out.2.trans (hb.mono HE.out.2.size)))
  clear hE hb
  go_wp2_with fail
  refine (n_product (v1 := p4) (v2 := vC) HE.out.1 (HT.out _ HE.out.2) (by repeat first | exact List.mem_cons_self | apply List.mem_cons_of_mem) (by repeat first | exact List.mem_cons_self | apply List.mem_cons_of_mem) (lims HLA.out HLB.out HLC.out).2.2.2.1).mono ?_
  rintro e w20 ⟨p5, rfl, hE, hb⟩
  have HE := Lib.hid (And.intro hE (HE.out.2.trans (hb.mono HE.out.2.size)))
  clear hE hb
  go_wp2_with fail
  refine (n_product (v1 := vB) (v2 := vC) HE.out.1 (HT.out _ HE.out.2) (by repeat first | exact List.mem_cons_self | apply List.mem_cons_of_mem) (by repeat first | exact List.mem_cons_self | apply List.mem_cons_of_mem) (lims HLB.out HLC.out HLA.out).2.1).mono ?_
  rintro e w21 ⟨p6, rfl, hE, hb⟩
  have HE := Lib.hid (And.intro hE (HE.out.2.trans (hb.mono HE.out.2.size)))
  clear hE hb
  go_wp2_with fail
  refine (n_product (v1 := vA) (v2 := p6) HE.out.1 (HT.out _ HE.out.2) (by repeat first | exact List.mem_cons_self | apply List.mem_cons_of_mem) (by repeat first | exact List.mem_cons_self | apply List.mem_cons_of_mem) (by rw [← Nat.mul_assoc]; exact (lims HLA.out HLB.out HLC.out).2.2.2.1)).mono ?_
  rintro e w22 ⟨p7, rfl, hE, hb⟩
  have HE := Lib.hid (And.intro hE (HE.out.2.trans (hb.mono HE.out.2.size)))
  clear hE hb
  go_wp2_with fail
  refine (n_same (v1 := p5) (v2 := p7) HE.out.1 (by repeat first | exact List.mem_cons_self | apply List.mem_cons_of_mem) (by repeat first | exact List.mem_cons_self | apply List.mem_cons_of_mem) (Nat.mul_assoc ..)).mono ?_
  rintro e w23 ⟨rfl, hE, hb⟩
  have HE := Lib.hid (And.intro hE (HE.out.2.trans (hb.mono HE.out.2.size)))
  clear hE hb
  go_wp2_with fail
  refine (n_sum (v1 := vB) (v2 := vC) HE.out.1 (by repeat first | exact List.mem_cons_self | apply List.mem_cons_of_mem) (by repeat first | exact List.mem_cons_self | apply List.mem_cons_of_mem) (lims HLB.out HLC.out HLA.out).1).mono ?_
  rintro e w24 ⟨s8, rfl, hE, hb⟩
  have HE := Lib.hid (And.intro hE (HE.out.2.trans (hb.mono HE.out.2.size)))
  clear hE hb
  go_wp2_with fail
  refine (n_product (v1 := vA) (v2 := s8) HE.out.1 (HT.out _ HE.out.2) (by repeat first | exact List.mem_cons_self | apply List.mem_cons_of_mem) (by repeat first | exact List.mem_cons_self | apply List.mem_cons_of_mem) (lims HLA.out HLB.out HLC.out).2.2.2.2.1).mono ?_
  rintro e w25 ⟨p8, rfl, hE, hb⟩
  have HE := Lib.hid (And.intro hE (HE.out.2.trans (hb.mono HE.out.2.size)))
  clear hE hb
  go_wp2_with fail
  refine (n_product (v1 := vA) (v2 := vB) HE.out.1 (HT.out _ HE.out.2) (by repeat first | exact List.mem_cons_self | apply List.mem_cons_of_mem) (by repeat first | exact List.mem_cons_self | apply List.mem_cons_of_mem) (lims HLA.out HLB.out HLC.out).2.1).mono ?_
  rintro e w26 ⟨p9, rfl, hE, hb⟩
  have HE := Lib.hid (And.intro hE (HE.out.2.trans (hb.mono HE.out.2.size)))
  clear hE hb
  go_wp2_with fail
  refine (n_product (v1 := vA) (v2 := vC) HE.out.1 (HT.out _ HE.out.2) (by repeat first | exact List.mem_cons_self | apply List.mem_cons_of_mem) (by repeat first | exact List.mem_cons_self | apply List.mem_cons_of_mem) (lims HLA.out HLC.out HLB.out).2.1).mono ?_
  rintro e w27 ⟨p10, rfl, hE, hb⟩
  have HE := Lib.hid (And.intro hE (HE.out.2.trans (hb.mono HE.out.2.size)))
  clear hE hb
  go_wp2_with fail
  refine (n_sum (v1 := p9) (v2 := p10) HE.out.1 (by repeat first | exact List.mem_cons_self | apply List.mem_cons_of_mem) (by repeat first | exact List.mem_cons_self | apply List.mem_cons_of_mem) (lims HLA.out HLB.out HLC.out).2.2.2.2.2).mono ?_
  rintro e w28 ⟨s9, rfl, hE, hb⟩
  have HE := Lib.hid (And.intro hE (HE.out.2.trans (hb.mono HE.out.2.size)))
  clear hE hb
  go_wp2_with fail
  refine (n_same (v1 := p8) (v2 := s9) HE.out.1 (by repeat first | exact List.mem_cons_self | apply List.mem_cons_of_mem) (by repeat first | exact List.mem_cons_self | apply List.mem_cons_of_mem) (Nat.mul_add ..)).mono ?_
  rintro e w29 ⟨rfl, hE, hb⟩
  have HE := Lib.hid (And.intro hE (HE.out.2.trans (hb.mono HE.out.2.size)))
  clear hE hb
  by_cases hlt : A < B
  · have hc1 : cmpI A B = -1 := by unfold cmpI; rw [if_pos hlt]
    have hc2 : cmpI B A = 1 := by unfold cmpI; rw [if_neg (by omega), if_neg (by omega)]
    go_wp2_with fail
    refine (n_sub_below (v1 := vA) (v2 := vB) HE.out.1 (by repeat first | exact List.mem_cons_self | apply List.mem_cons_of_mem) (by repeat first | exact List.mem_cons_self | apply List.mem_cons_of_mem) hlt).mono ?_
    rintro e w30 ⟨rfl, hE, hb⟩
    have HE := Lib.hid (And.intro hE (HE.out.2.trans (hb.mono HE.out.2.size)))
    clear hE hb
    go_wp2_with fail
    refine (n_cmp (v1 := vA) (v2 := vB) HE.out.1 (by repeat first | exact List.mem_cons_self | apply List.mem_cons_of_mem) (by repeat first | exact List.mem_cons_self | apply List.mem_cons_of_mem)).mono ?_
    rintro e w31 ⟨rfl, hE, hb⟩
    have HE := Lib.hid (And.intro hE (HE.out.2.trans (hb.mono HE.out.2.size)))
    clear hE hb
    rw [hc1]
    go_wp2_with fail
    refine (n_cmp (v1 := vB) (v2 := vA) HE.out.1 (by repeat first | exact List.mem_cons_self | apply List.mem_cons_of_mem) (by repeat first | exact List.mem_cons_self | apply List.mem_cons_of_mem)).mono ?_
    rintro e w32 ⟨rfl, hE, hb⟩
    have HE := Lib.hid (And.intro hE (HE.out.2.trans (hb.mono HE.out.2.size)))
    clear hE hb
    rw [hc2]
    go_wp2_with fail
    refine (works_any _).mono ?_
    rintro e wz ⟨rfl, hbz⟩
    have HZ := Lib.hid (HE.out.2.trans (hbz.mono HE.out.2.size))
    clear hbz
    go_wp2
    go_ret
    exact ⟨rfl, HZ.out⟩
  · by_cases heq : A = B
    · have hc1 : cmpI A B = 0 := by unfold cmpI; rw [if_neg hlt, if_pos heq]
      have hc2 : cmpI B A = 0 := by unfold cmpI; rw [if_neg (by omega), if_pos heq.symm]
      have HEQ := Lib.hid (And.intro heq hlt)
      have hle0 : B ≤ A := by omega
      clear heq hlt
      go_wp2_with fail
      refine (n_sub (v1 := vA) (v2 := vB) HE.out.1 (by repeat first | exact List.mem_cons_self | apply List.mem_cons_of_mem) (by repeat first | exact List.mem_cons_self | apply List.mem_cons_of_mem) hle0).mono ?_
      rintro e w33 ⟨bl, rfl, hE, hb⟩
      have HE := Lib.hid (And.intro hE (HE.out.2.trans (hb.mono HE.out.2.size)))
      clear hE hb
      go_wp2_with fail
      refine (n_cmp (v1 := vA) (v2 := vB) HE.out.1 (by repeat first | exact List.mem_cons_self | apply List.mem_cons_of_mem) (by repeat first | exact List.mem_cons_self | apply List.mem_cons_of_mem)).mono ?_
      rintro e w34 ⟨rfl, hE, hb⟩
      have HE := Lib.hid (And.intro hE (HE.out.2.trans (hb.mono HE.out.2.size)))
      clear hE hb
      rw [hc1]
      go_wp2_with fail
      refine (n_sum (v1 := bl) (v2 := vB) HE.out.1 (by repeat first | exact List.mem_cons_self | apply List.mem_cons_of_mem) (by repeat first | exact List.mem_cons_self | apply List.mem_cons_of_mem) (by rw [Nat.sub_add_cancel hle0]; have := (lims HLA.out HLB.out HLC.out).1; omega)).mono ?_
      rintro e w35 ⟨s10, rfl, hE, hb⟩
      have HE := Lib.hid (And.intro hE (HE.out.2.trans (hb.mono HE.out.2.size)))
      clear hE hb
      go_wp2_with fail
      refine (n_same (v1 := s10) (v2 := nA) HE.out.1 (by repeat first | exact List.mem_cons_self | apply List.mem_cons_of_mem) (by repeat first | exact List.mem_cons_self | apply List.mem_cons_of_mem) (Nat.sub_add_cancel hle0)).mono ?_
      rintro e w36 ⟨rfl, hE, hb⟩
      have HE := Lib.hid (And.intro hE (HE.out.2.trans (hb.mono HE.out.2.size)))
      clear hE hb
      go_wp2_with fail
      refine (n_cmp (v1 := vB) (v2 := vA) HE.out.1 (by repeat first | exact List.mem_cons_self | apply List.mem_cons_of_mem) (by repeat first | exact List.mem_cons_self | apply List.mem_cons_of_mem)).mono ?_
      rintro e w37 ⟨rfl, hE, hb⟩
      have HE := Lib.hid (And.intro hE (HE.out.2.trans (hb.mono HE.out.2.size)))
      clear hE hb
      rw [hc2]
      go_wp2_with fail
      refine (works_any _).mono ?_
      rintro e wz ⟨rfl, hbz⟩
      have HZ := Lib.hid (HE.out.2.trans (hbz.mono HE.out.2.size))
      clear hbz
      go_wp2
      go_ret
      exact ⟨rfl, HZ.out⟩
    · have hc1 : cmpI A B = 1 := by unfold cmpI; rw [if_neg hlt, if_neg heq]
      have hc2 : cmpI B A = -1 := by unfold cmpI; rw [if_pos (by omega)]
      have HEQ := Lib.hid (And.intro heq hlt)
      have hle0 : B ≤ A := by omega
      clear heq hlt
      go_wp2_with fail
      refine (n_sub (v1 := vA) (v2 := vB) HE.out.1 (by repeat first | exact List.mem_cons_self | apply List.mem_cons_of_mem) (by repeat first | exact List.mem_cons_self | apply List.mem_cons_of_mem) hle0).mono ?_
      rintro e w38 ⟨bl, rfl, hE, hb⟩
      have HE := Lib.hid (And.intro hE (HE.out.2.trans (hb.mono HE.out.2.size)))
      clear hE hb
      go_wp2_with fail
      refine (n_cmp (v1 := vA) (v2 := vB) HE.out.1 (by repeat first | exact List.mem_cons_self | apply List.mem_cons_of_mem) (by repeat first | exact List.mem_cons_self | apply List.mem_cons_of_mem)).mono ?_
      rintro e w39 ⟨rfl, hE, hb⟩
      have HE := Lib.hid (And.intro hE (HE.out.2.trans (hb.mono HE.out.2.size)))
      clear hE hb
      rw [hc1]
      go_wp2_with fail
      refine (n_sum (v1 := bl) (v2 := vB) HE.out.1 (by repeat first | exact List.mem_cons_self | apply List.mem_cons_of_mem) (by repeat first | exact List.mem_cons_self | apply List.mem_cons_of_mem) (by rw [Nat.sub_add_cancel hle0]; have := (lims HLA.out HLB.out HLC.out).1; omega)).mono ?_
      rintro e w40 ⟨s10, rfl, hE, hb⟩
      have HE := Lib.hid (And.intro hE (HE.out.2.trans (hb.mono HE.out.2.size)))
      clear hE hb
      go_wp2_with fail
      refine (n_same (v1 := s10) (v2 := nA) HE.out.1 (by repeat first | exact List.mem_cons_self | apply List.mem_cons_of_mem) (by repeat first | exact List.mem_cons_self | apply List.mem_cons_of_mem) (Nat.sub_add_cancel hle0)).mono ?_
      rintro e w41 ⟨rfl, hE, hb⟩
      have HE := Lib.hid (And.intro hE (HE.out.2.trans (hb.mono HE.out.2.size)))
      clear hE hb
      go_wp2_with fail
      refine (n_cmp (v1 := vB) (v2 := vA) HE.out.1 (by repeat first | exact List.mem_cons_self | apply List.mem_cons_of_mem) (by repeat first | exact List.mem_cons_self | apply List.mem_cons_of_mem)).mono ?_
      rintro e w42 ⟨rfl, hE, hb⟩
      have HE := Lib.hid (And.intro hE (HE.out.2.trans (hb.mono HE.out.2.size)))
      clear hE hb
      rw [hc2]
      go_wp2_with fail
      refine (works_any _).mono ?_
      rintro e wz ⟨rfl, hbz⟩
      have HZ := Lib.hid (HE.out.2.trans (hbz.mono HE.out.2.size))
      clear hbz
      go_wp2
      go_ret
      exact ⟨rfl, HZ.out⟩
end Go.Proofs.YteanpdiceaijhaaDoor
