import Derived.Test.YtfjhmnbbjknflaaGreatDoorGC
import Derived.Deep.RegionHeld3
import Derived.Test.YtfjhmnbbjknflaaGreatDoorGB
namespace Go.Proofs.YtfjhmnbbjknflaaGreatDoor
open Go.RowKit

/-- The first worth that does not fit. -/
def LIM : Nat := 18446744073709551616 ^ 64
/-- The block in which a whole number lies. -/
def WO (n : Bool) (a : Option Addr) (la ca : Nat) : Obj := .cells #[.bool n, .slice a la ca] 24
set_option exponentiation.threshold 10000 in
theorem lim_bits {n k : Nat} (h : BitsIs n k) : (k ≤ 4096) = (n < LIM) := by
  have e : LIM = 2 ^ 4096 := by unfold LIM; rw [pow_64]
  rw [e]
  apply propext
  rcases h with ⟨rfl, rfl⟩ | ⟨h0, h1, h2⟩
  · exact ⟨fun _ => Nat.pow_pos (by decide), fun _ => by omega⟩
  · constructor
    · intro hk
      exact Nat.lt_of_lt_of_le h2 (Nat.pow_le_pow_right (by decide) hk)
    · intro hn
      refine Nat.le_of_not_lt fun hk => ?_
      have : 2 ^ 4096 ≤ 2 ^ (k - 1) := Nat.pow_le_pow_right (by decide) (by omega)
      exact absurd (Nat.le_trans this h1) (Nat.not_le.2 hn)
/-- A whole number's worth, and its sign. -/
def wv (n : Bool) (xs : List Nat) : Int := if n then -(val xs : Int) else (val xs : Int)
theorem wv_abs (n : Bool) (xs : List Nat) : (wv n xs).natAbs = val xs := by unfold wv; split <;> omega
def sg (z : Int) : Int := if z = 0 then 0 else if z < 0 then -1 else 1
theorem sg_le (z : Int) : -1 ≤ sg z ∧ sg z ≤ 1 := by unfold sg; split <;> (try split) <;> omega

set_option maxHeartbeats 400000 in
theorem wfits_any (n : Bool) (a : Option Addr) (la ca : Nat) (xs : List Nat) (w : World) (hla : xs.length = la) (hba : la ≤ 1048576) (hca : la ≤ ca) (hra : Rd .u64 w a xs) (bx : Bd xs) :
    Calls Tryz.prog 63 #[.agg #[.bool n, .slice a la ca]] w fun e w' => e = .returned (.bool (decide (val xs < LIM))) ∧ w' = w.alloc (WO n a la ca) := by
  go_enter Tryz.func63, Tryz.ntmps63
  go_wp2_with fail
  refine (bits_any a la ca xs _ hla (by omega) hca (hra.alloc _) bx).mono ?_
  rintro e w1 ⟨⟨k, rfl, hk, hkb⟩, rfl⟩
  have hq : decide ((k : Int) ≤ 4096) = decide (val xs < LIM) := by
    rw [decide_eq_decide, ← lim_bits hk]; omega
  have HK := Lib.hid hk
  clear hk
  go_wp2
  go_ret
  exact ⟨rfl, rfl⟩

set_option maxHeartbeats 400000 in
theorem wsign_any (n : Bool) (a : Option Addr) (la ca : Nat) (xs : List Nat) (w : World) (hla : xs.length = la) (hba : la ≤ 1048576) (hca : la ≤ ca) (hra : Rd .u64 w a xs) (bx : Bd xs) :
    Calls Tryz.prog 33 #[.agg #[.bool n, .slice a la ca]] w fun e w' => e = .returned (.int .i64 (sg (wv n xs))) ∧ w' = w.alloc (WO n a la ca) := by
  go_enter Tryz.func33, Tryz.ntmps33
  go_wp2_with fail
  refine (bits_any a la ca xs _ hla (by omega) hca (hra.alloc _) bx).mono ?_
  rintro e w1 ⟨⟨k, rfl, hk, hkb⟩, rfl⟩
  have hz : (k = 0) ↔ (val xs = 0) := by
    rcases hk with ⟨h1, h2⟩ | ⟨h0, h1, h2⟩
    · omega
    · have : 0 < 2 ^ (k - 1) := Nat.pow_pos (by decide)
      omega
  have HK := Lib.hid hk
  have HZ := Lib.hid hz
  clear hk hz
  by_cases h0 : k = 0
  · have hq : ((k : Int) == 0) = true := by simp; omega
    have hs : sg (wv n xs) = 0 := by
      have := HZ.out.1 h0
      unfold wv sg; rw [this]; cases n <;> rfl
    clear h0
    go_wp2
    go_ret
    exact ⟨by rw [hs]; rfl, rfl⟩
  · have hq : ((k : Int) == 0) = false := by simp; omega
    have hv : val xs ≠ 0 := fun h => h0 (HZ.out.2 h)
    have hs : sg (wv n xs) = if n then -1 else 1 := by
      unfold wv sg; cases n <;> simp [hv] <;> omega
    have HS := Lib.hid hs
    clear h0 hv hs
    cases n
    all_goals
      go_wp2
      go_ret
      exact ⟨by rw [HS.out]; rfl, rfl⟩

/-- Two whole numbers that lie in the call's first two blocks. -/
def Boxes (B : Nat) (n : Bool) (a : Option Addr) (la ca : Nat) (m : Bool) (b : Option Addr) (lb cb : Nat) (w W : World) : Prop :=
  W.cell? ⟨B, 0, none⟩ = some (.bool n) ∧ W.cell? ⟨B, 1, none⟩ = some (.slice a la ca) ∧ W.cell? ⟨B + 1, 0, none⟩ = some (.bool m) ∧ W.cell? ⟨B + 1, 1, none⟩ = some (.slice b lb cb) ∧ Below B w W
theorem boxes0 (n : Bool) (a : Option Addr) (la ca : Nat) (m : Bool) (b : Option Addr) (lb cb : Nat) (w : World) :
    Boxes w.heap.size n a la ca m b lb cb w (((w.alloc (WO n a la ca)).alloc (WO m b lb cb)).drew) := by
  have h1 : (w.alloc (WO n a la ca)).heap.size = w.heap.size + 1 := by simp
  have c : ∀ i v, (w.alloc (WO n a la ca)).cell? ⟨w.heap.size, i, none⟩ = some v → ((w.alloc (WO n a la ca)).alloc (WO m b lb cb)).cell? ⟨w.heap.size, i, none⟩ = some v := fun i v h => below_cell ((Below.refl _ _).alloc (Nat.le_refl _) _) _ _ h
  have d0 := World.cell?_alloc_mark w #[.bool n, .slice a la ca] 24 (0, 0)
  have d1 := World.cell?_alloc_mark (w.alloc (WO n a la ca)) #[.bool m, .slice b lb cb] 24 (0, 0)
  refine ⟨c 0 _ ?_, c 1 _ ?_, ?_, ?_, (((Below.refl _ _).alloc (Nat.le_refl _) _).alloc (by simp) _).drew⟩
  · exact (d0 0).trans rfl
  · exact (d0 1).trans rfl
  · rw [← h1]; exact (d1 0).trans rfl
  · rw [← h1]; exact (d1 1).trans rfl
theorem boxes_alloc {B : Nat} {n : Bool} {a : Option Addr} {la ca : Nat} {m : Bool} {b : Option Addr} {lb cb : Nat} {w W : World} (h : Boxes B n a la ca m b lb cb w W) (hB : w.heap.size = B) (o : Obj) : Boxes B n a la ca m b lb cb w (W.alloc o) := by
  subst hB
  have c := below_cell (w := W) ((Below.refl _ _).alloc (Nat.le_refl _) o)
  exact ⟨c _ _ h.1, c _ _ h.2.1, c _ _ h.2.2.1, c _ _ h.2.2.2.1, h.2.2.2.2.alloc h.2.2.2.2.size _⟩
theorem boxes_below {B : Nat} {n : Bool} {a : Option Addr} {la ca : Nat} {m : Bool} {b : Option Addr} {lb cb : Nat} {w W : World} (h : Boxes B n a la ca m b lb cb w W) : Below B w W := h.2.2.2.2
theorem sg_wrap (z : Int) : IntKind.i64.wrap (sg z + 1) = sg z + 1 := by
  have := sg_le z
  have h : sg z = -1 ∨ sg z = 0 ∨ sg z = 1 := by omega
  rcases h with h | h | h <;> rw [h] <;> decide

set_option maxHeartbeats 1000000 in
set_option maxRecDepth 100000 in
theorem places_any (n m : Bool) (a b : Option Addr) (la ca lb cb : Nat) (xs ys : List Nat) (w : World) (hla : xs.length = la) (hlb : ys.length = lb) (hba : la ≤ 1048576) (hbb : lb ≤ 1048576) (hca : la ≤ ca) (hcb : lb ≤ cb)
    (hra : Rd .u64 w a xs) (hrb : Rd .u64 w b ys) (bx : Bd xs) (bY : Bd ys) :
    Calls Tryz.prog 70 #[.agg #[.bool n, .slice a la ca], .agg #[.bool m, .slice b lb cb]] w fun e w' => e = .returned (.tuple #[.int .i64 (sg (wv n xs) + 1), .int .i64 (sg (wv m ys) + 1)]) ∧ Below w.heap.size w w' := by
  have s1 := sg_wrap (wv n xs)
  have s2 := sg_wrap (wv m ys)
  have HA := Lib.hid (fun (W : World) (h : Below w.heap.size w W) => hra.below h)
  have HB := Lib.hid (fun (W : World) (h : Below w.heap.size w W) => hrb.below h)
  clear hra hrb
  have hS0 : Hid (Boxes w.heap.size n a la ca m b lb cb w (((w.alloc (WO n a la ca)).alloc (WO m b lb cb)).drew)) := boxes0 _ _ _ _ _ _ _ _ _
  have hBl : Hid (∀ W, Boxes w.heap.size n a la ca m b lb cb w W → Below w.heap.size w W) := fun W h => h.2.2.2.2
  have hKp : Hid (∀ W o, Boxes w.heap.size n a la ca m b lb cb w W → Boxes w.heap.size n a la ca m b lb cb w (W.alloc o)) := fun W o h => boxes_alloc h rfl o
  go_enter Tryz.func70, Tryz.ntmps70
  go_wp2
  go_region_held3 (fun W => W.cell? ⟨w.heap.size, 0, none⟩ = some (.bool n) ∧ W.cell? ⟨w.heap.size, 1, none⟩ = some (.slice a la ca) ∧ W.cell? ⟨w.heap.size + 1, 0, none⟩ = some (.bool m) ∧ W.cell? ⟨w.heap.size + 1, 1, none⟩ = some (.slice b lb cb) ∧ Below w.heap.size w W)
    (first | exact hS0.out | exact hKp.out _ _ (by assumption))
    (first
    | (go_at_call 33; (with_reducible refine (wsign_any n a la ca xs _ hla hba hca ?ha bx).mono ?_); (case ha => exact HA.out _ (hBl.out _ (by assumption))); rintro e w1 ⟨rfl, rfl⟩)
    | (go_at_call 33; (with_reducible refine (wsign_any m b lb cb ys _ hlb hbb hcb ?ha bY).mono ?_); (case ha => exact HB.out _ (hBl.out _ (by assumption))); rintro e w1 ⟨rfl, rfl⟩))
  have hB := hBl.out _ (by assumption)
  have HBB := Lib.hid hB
  clear hB
  go_wp2
  go_ret2
  exact ⟨rfl, HBB.out⟩

theorem own64.under {w w' : World} {B : Nat} {v : Value} {zs : List Nat} (h : own64 w B v zs) (hb : Below w.heap.size w w') : own64 w' B v zs :=
  ((Chg.of_below hb).owns h fun k hk he => by have := (World.ownsRow.lt h k hk).2; omega)
/-- A whole number as a value. -/
def WV (n : Bool) (a : Option Addr) (la ca : Nat) : Value := .agg #[.bool n, .slice a la ca]

theorem infoW : (Tryz.prog.info? 24).map (·.size) = some 2 := by kernel_rfl
theorem load_WO {w : World} {g : Nat} {n : Bool} {a : Option Addr} {la ca : Nat} (h : w.heap[g]? = some (WO n a la ca)) :
    (loadVar 24 ⟨g, 0, none⟩).run Tryz.prog w = .ok (.agg #[.bool n, .slice a la ca]) w :=
  run_loadVar_row w g _ _ #[.bool n, .slice a la ca] _ _ h Tryz.underlying24 rfl infoW
theorem results_WO2 {fn : Func} {p u : Tmp} (h : fn.results = #[.cell p 24, .tmp u]) {tmps : Array Value} {w : World} {g : Nat} {n : Bool} {a : Option Addr} {la ca : Nat} {v : Value}
    (hp : tmps.getD p undef = .pointer (some ⟨g, 0, none⟩)) (hu : tmps.getD u undef = v) (hg : w.heap[g]? = some (WO n a la ca)) :
    (results fn tmps).run Tryz.prog w = .ok (.tuple #[.agg #[.bool n, .slice a la ca], v]) w := by
  rw [results_cell_tmp h, hp, hu]
  simp [asAddr, Result.andThen, load_WO hg]
theorem heap_kept {w : World} {g : Nat} {x : Obj} (h : w.heap[g]? = some x) (o : Obj) : (w.alloc o).heap[g]? = some x := by
  rw [Below.heap_alloc _ _ _ (lt_of_block h)]; exact h
theorem heap_new (w : World) (o : Obj) : (w.alloc o).heap[w.heap.size]? = some o := by
  show (w.heap.push o)[w.heap.size]? = _
  simp

set_option maxHeartbeats 400000 in
theorem maker_any (n : Bool) (w : World) :
    Calls Tryz.prog 71 #[.bool n] w fun e w' => e = .returned (.func (.func 104) #[] #[.pointer (some ⟨w.heap.size, 0, none⟩)]) ∧ w' = w.alloc (.cells #[.bool n] 4) := by
  have hmf : ∀ (fn : Fn) (first cap : Array Value) (w : World), (Instr.makeFunc fn first cap).run Tryz.prog w = .ok (.func fn first cap) w := fun _ _ _ _ => rfl
  go_enter Tryz.func71, Tryz.ntmps71
  go_wp2
  go_ret
  exact ⟨rfl, rfl⟩

set_option maxHeartbeats 400000 in
set_option maxRecDepth 100000 in
theorem made_err (a : Option Addr) (la ca p : Nat) (k : Int) (w : World) (hk : (k != 0) = true) :
    Calls Tryz.prog 104 #[.slice a la ca, .int .i64 k, .pointer (some ⟨p, 0, none⟩)] w fun e w' => e = .returned (.tuple #[.agg #[.bool false, .slice none 0 0], .int .i64 k]) ∧ Below w.heap.size w w' := by
  go_enter Tryz.func104, Tryz.ntmps104
  go_wp2
  refine bodyPost_ret (results_WO2 rfl rfl rfl (heap_new _ _)) rfl ?_
  exact ⟨rfl, (Below.refl _ _).alloc (Nat.le_refl _) _⟩

set_option maxHeartbeats 1000000 in
set_option maxRecDepth 100000 in
theorem made_num (n : Bool) (a : Option Addr) (la ca p N : Nat) (zs : List Nat) (w : World) (hp : w.cell? ⟨p, 0, none⟩ = some (.bool n)) (hla : zs.length = la) (hba : la ≤ 1048576) (hca : la ≤ ca) (hra : Rd .u64 w a zs) (hN : Num zs N) :
    Calls Tryz.prog 104 #[.slice a la ca, .int .i64 0, .pointer (some ⟨p, 0, none⟩)] w fun e w' => Below w.heap.size w w' ∧
      ((LIM ≤ N ∧ e = .returned (.tuple #[.agg #[.bool false, .slice none 0 0], .int .i64 3])) ∨ (N < LIM ∧ e = .returned (.tuple #[.agg #[.bool (n && decide (0 < N)), .slice a la ca], .int .i64 0]))) := by
  have hpos : (0 < la) ↔ (0 < N) := by
    have := hN.len_lt (k := 0)
    rw [hla] at this
    omega
  have HN := Lib.hid hN
  have hv : Hid (val zs = N) := hN.vl
  obtain ⟨s, hs⟩ : ∃ s, s = (n && decide (0 < N)) := ⟨_, rfl⟩
  have hplt := World.block_lt_of_cell? w _ hp
  have hp2 : ∀ o : Obj, (w.alloc o).cell? ⟨p, 0, none⟩ = some (.bool n) := fun o => below_cell ((Below.refl _ _).alloc (Nat.le_refl _) _) _ _ hp
  have HS := Lib.hid hs
  have HD : Hid (decide (0 < N) = decide (0 < la)) := by show _ = _; rw [decide_eq_decide]; exact hpos.symm
  have hfin : Hid (∀ s, s = (n && decide (0 < N)) → True) := fun _ _ => trivial
  rw [← hs]
  clear hN hs hpos
  have HR : Hid (∀ W, Below w.heap.size w W → Rd .u64 W a zs) := fun W h => hra.below h
  have hblim : Hid (decide (val zs < LIM) = decide (N < LIM)) := by show _ = _; rw [hv.out]
  go_enter Tryz.func104, Tryz.ntmps104
  cases n
  · obtain rfl : s = false := HS.out
    go_wp2_with fail
    refine (wfits_any false a la ca zs _ hla hba hca (HR.out _ (((Below.refl _ _).alloc (Nat.le_refl _) _).alloc (by simp) _)) HN.out.bd).mono ?_
    rintro e w1 ⟨rfl, rfl⟩
    rw [hblim.out]
    by_cases hlim : N < LIM
    · rw [decide_eq_true hlim]
      have HL := Lib.hid hlim
      clear hlim
      go_wp2
      refine bodyPost_ret (results_WO2 rfl rfl rfl (heap_kept (heap_kept (heap_new _ _) _) _)) rfl ?_
      exact ⟨(((Below.refl _ _).alloc (Nat.le_refl _) _).alloc (by simp) _).alloc (by simp; omega) _, .inr ⟨HL.out, rfl⟩⟩
    · rw [decide_eq_false hlim]
      have HL := Lib.hid hlim
      clear hlim
      go_wp2
      refine bodyPost_ret (results_WO2 rfl rfl rfl (heap_kept (heap_kept (heap_new _ _) _) _)) rfl ?_
      exact ⟨(((Below.refl _ _).alloc (Nat.le_refl _) _).alloc (by simp) _).alloc (by simp; omega) _, .inl ⟨Nat.le_of_not_lt HL.out, rfl⟩⟩
  · obtain rfl : s = decide (0 < la) := by have h1 := HS.out; simp only [Bool.true_and] at h1; rw [h1]; exact HD.out
    go_wp2_with fail
    refine (wfits_any (decide (0 < la)) a la ca zs _ hla hba hca (HR.out _ (((Below.refl _ _).alloc (Nat.le_refl _) _).alloc (by simp) _)) HN.out.bd).mono ?_
    rintro e w1 ⟨rfl, rfl⟩
    rw [hblim.out]
    by_cases hlim : N < LIM
    · rw [decide_eq_true hlim]
      have HL := Lib.hid hlim
      clear hlim
      go_wp2
      refine bodyPost_ret (results_WO2 rfl rfl rfl (heap_kept (heap_kept (heap_new _ _) _) _)) rfl ?_
      exact ⟨(((Below.refl _ _).alloc (Nat.le_refl _) _).alloc (by simp) _).alloc (by simp; omega) _, .inr ⟨HL.out, rfl⟩⟩
    · rw [decide_eq_false hlim]
      have HL := Lib.hid hlim
      clear hlim
      go_wp2
      refine bodyPost_ret (results_WO2 rfl rfl rfl (heap_kept (heap_kept (heap_new _ _) _) _)) rfl ?_
      exact ⟨(((Below.refl _ _).alloc (Nat.le_refl _) _).alloc (by simp) _).alloc (by simp; omega) _, .inl ⟨Nat.le_of_not_lt HL.out, rfl⟩⟩

set_option exponentiation.threshold 10000 in
set_option maxHeartbeats 1000000 in
theorem norm_any (a : Option Addr) (la ca : Nat) (xs : List Nat) (w : World) (hla : xs.length = la) (hba : la ≤ 1048576) (hca : la ≤ ca) (hna : a = none → ca = 0) (hra : Rd .u64 w a xs) (bx : Bd xs) :
    Calls Tryz.prog 43 #[.slice a la ca] w (NumPost (fl xs ≤ 128) (val xs) w) := by
  have hfa := (fl_spec xs).1
  have hnum : Hid (Num (fm xs) (val xs)) := num_fm bx
  go_enter Tryz.func43, Tryz.ntmps43
  go_wp2_with fail
  refine (one_any a la ca xs _ hla (by omega) hca hra).mono ?_
  rintro e w1 ⟨hor, rfl⟩
  rcases hor with ⟨h1, a', c', rfl, g1, g2⟩ | ⟨h1, rfl⟩
  · have fa : FormOf a ca (fl xs) a' c' := ⟨g1, g2⟩
    have hra' := fa.rd hra hfa
    have hna' : Hid (a' = none → c' = 0) := fun h => ((fa.cap hca (by omega)).2 h).elim id (fun h2 => by
      rcases Nat.eq_zero_or_pos (fl xs) with h0 | hp
      · exact (fa.2 h0).2
      · rw [(fa.1 hp).2]; exact hna h2)
    have e1 : Hid ((fm xs).length = fl xs) := fm_length xs
    have HR : Hid (Rd .u64 w a' (fm xs)) := hra'
    clear fa g1 g2 hra hna hra'
    go_wp2_with fail
    refine (copied_any a' (fl xs) c' (fm xs) _ e1.out (by omega) (fun _ h => hna'.out h) HR.out).mono ?_
    rintro e w2 ⟨v, rfl, hown, hbl, hnil⟩
    have HO := Lib.hid hown
    clear hown hnil
    go_wp2
    go_ret2
    refine ⟨hbl, .inr ⟨h1, ?_, v, fm xs, rfl, HO.out, hnum.out⟩⟩
    rw [← hnum.out.len_le, e1.out]; exact h1
  · go_wp2
    go_ret2
    exact ⟨Below.refl _ _, .inl ⟨fun h => by omega, rfl⟩⟩

/-- What a call answers that tells a whole number, or that it does not fit. -/
def WPost (P : Prop) (W : Int) (w : World) (e : Ending) (w' : World) : Prop :=
  Below w.heap.size w w' ∧
  ((¬ (P ∧ W.natAbs < LIM) ∧ e = .returned (.tuple #[.agg #[.bool false, .slice none 0 0], .int .i64 3])) ∨
   (P ∧ W.natAbs < LIM ∧ ∃ a c zs, e = .returned (.tuple #[.agg #[.bool (decide (W < 0)), .slice a zs.length c], .int .i64 0]) ∧ own64 w' w.heap.size (.slice a zs.length c) zs ∧ Num zs W.natAbs))
theorem lim_fl {xs : List Nat} (bx : Bd xs) (h : val xs < LIM) : fl xs ≤ 64 := by
  have := (num_fm bx).len_le (k := 64)
  rw [fm_length] at this
  exact this.2 h
theorem lim_lt : LIM ≤ 18446744073709551616 ^ 128 := by unfold LIM; exact Nat.pow_le_pow_right (by decide) (by decide)
theorem wv_neg (n : Bool) (xs : List Nat) : (n && decide (0 < val xs)) = decide (wv n xs < 0) := by
  unfold wv; cases n <;> simp <;> omega

set_option maxHeartbeats 1000000 in
set_option maxRecDepth 100000 in
/-- The closure's part of a call, behind what layer 1 answers. -/
theorem made_any (n : Bool) (W : Int) (P : Prop) (p N : Nat) (w0 w1 : World) (v : Value) (k : Int)
    (hp : w1.cell? ⟨p, 0, none⟩ = some (.bool n)) (hb : Below w0.heap.size w0 w1) (hW : W.natAbs = N) (hn : P → (n && decide (0 < N)) = decide (W < 0))
    (hor : (¬ (P ∧ N < LIM) ∧ v = .slice none 0 0 ∧ k = 3) ∨ (P ∧ k = 0 ∧ ∃ zs, own64 w1 w0.heap.size v zs ∧ Num zs N ∧ zs.length ≤ 1048576)) :
    Calls Tryz.prog 104 #[v, .int .i64 k, .pointer (some ⟨p, 0, none⟩)] w1 fun e w' => Below w1.heap.size w1 w' ∧ WPost P W w0 e w' := by
  rcases hor with ⟨h1, rfl, rfl⟩ | ⟨hP, rfl, zs, ho, hN, hl⟩
  · refine (made_err none 0 0 p 3 w1 rfl).mono ?_
    rintro e w2 ⟨rfl, hb2⟩
    exact ⟨hb2, hb.trans (hb2.mono hb.size), .inl ⟨by rw [hW]; exact h1, rfl⟩⟩
  · obtain ⟨a, c, rfl, hr⟩ := own64.form ho
    refine (made_num n a zs.length c p N zs w1 hp rfl hl (own64.room ho).1 hr hN).mono ?_
    rintro e w2 ⟨hb2, ⟨h1, rfl⟩ | ⟨h1, rfl⟩⟩
    · exact ⟨hb2, hb.trans (hb2.mono hb.size), .inl ⟨fun h => by rw [hW] at h; exact absurd h.2 (Nat.not_lt.2 h1), rfl⟩⟩
    · refine ⟨hb2, hb.trans (hb2.mono hb.size), .inr ⟨hP, by rw [hW]; exact h1, a, c, zs, by rw [hn hP], ?_, by rw [hW]; exact hN⟩⟩
      exact own64.under ho hb2

/-- The block of a result that is told as a whole number. -/
structure RBlk (w : World) (g : Nat) : Prop where
  blk : w.heap[g]? = some (WO false none 0 0)
  c0 : w.cell? ⟨g, 0, none⟩ = some (.bool false)
  c1 : w.cell? ⟨g, 1, none⟩ = some (.slice none 0 0)
  f0 : w.frozen? ⟨g, 0, none⟩ = false
  f1 : w.frozen? ⟨g, 1, none⟩ = false
theorem rblk {w : World} {g : Nat} (h : w.heap[g]? = some (WO false none 0 0)) : RBlk w g := by
  refine ⟨h, ?_, ?_, ?_, ?_⟩ <;> unfold WO at h <;> simp [World.cell?, World.frozen?, h]
theorem RBlk.below {w w' : World} {g : Nat} (h : RBlk w g) (hb : Below w.heap.size w w') : RBlk w' g := rblk (by rw [hb.block g (lt_of_block h.blk)]; exact h.blk)
theorem results_WOset {fn : Func} {p u : Tmp} (h : fn.results = #[.cell p 24, .tmp u]) {tmps : Array Value} {w : World} {g : Nat} {n : Bool} {a : Option Addr} {la ca : Nat} {v : Value}
    (hp : tmps.getD p undef = .pointer (some ⟨g, 0, none⟩)) (hu : tmps.getD u undef = v) (hg : RBlk w g) :
    (results fn tmps).run Tryz.prog ((w.setCell ⟨g, 0, none⟩ (.bool n)).setCell ⟨g, 1, none⟩ (.slice a la ca)) = .ok (.tuple #[.agg #[.bool n, .slice a la ca], v]) ((w.setCell ⟨g, 0, none⟩ (.bool n)).setCell ⟨g, 1, none⟩ (.slice a la ca)) := by
  have h1 := heap_setCell_same w g 0 _ _ (.bool n) hg.blk
  have h2 := heap_setCell_same _ g 1 _ _ (.slice a la ca) h1
  exact results_WO2 h hp hu h2

theorem own64.aside {w : World} {B g : Nat} {v : Value} {zs : List Nat} (h : own64 w B v zs) (hg : RBlk w g) (i : Nat) (u : Value) : own64 (w.setCell ⟨g, i, none⟩ u) B v zs := by
  refine ((Chg.refl (fun k => k = g) w).setCell rfl u).owns h fun k hk he => ?_
  obtain rfl : k = g := he
  rcases h.2 with ⟨rfl, _⟩ | ⟨g', c', cur, rfl, _, hh, _⟩
  · cases hk
  · obtain rfl : g' = k := by simpa [Value.ownBlock] using hk
    have h2 := hg.blk
    rw [hh] at h2
    simp [WO] at h2
theorem WPost.told {P : Prop} {W : Int} {w w' : World} {e : Ending} (h : WPost P W w e w') : ∃ n a l c k, e = .returned (.tuple #[.agg #[.bool n, .slice a l c], .int .i64 k]) := by
  rcases h.2 with ⟨_, rfl⟩ | ⟨_, _, a, c, zs, rfl, _⟩
  · exact ⟨_, _, _, _, _, rfl⟩
  · exact ⟨_, _, _, _, _, rfl⟩
/-- The result's block is written. -/
theorem WPost.set {P : Prop} {W : Int} {w w' : World} {e : Ending} (h : WPost P W w e w') {g : Nat} (hg : RBlk w' g) (hw : w.heap.size ≤ g) (u0 u1 : Value) : WPost P W w e ((w'.setCell ⟨g, 0, none⟩ u0).setCell ⟨g, 1, none⟩ u1) := by
  refine ⟨(h.1.setCell hw u0).setCell hw u1, ?_⟩
  rcases h.2 with h1 | ⟨hP, hl, a, c, zs, he, ho, hN⟩
  · exact .inl h1
  · refine .inr ⟨hP, hl, a, c, zs, he, ?_, hN⟩
    have h1 := own64.aside ho hg 0 u0
    refine ((Chg.refl (fun k => k = g) _).setCell rfl u1).owns h1 fun k hk he => ?_
    obtain rfl : k = g := he
    rcases ho.2 with ⟨h0, _⟩ | ⟨g', c', cur, h0, _, hh, _⟩
    · rw [h0] at hk; cases hk
    · rw [h0] at hk
      obtain rfl : g' = k := by simpa [Value.ownBlock] using hk
      have h2 := hg.blk
      rw [hh] at h2
      simp [WO] at h2

set_option maxHeartbeats 1000000 in
set_option maxRecDepth 100000 in
theorem make_any (n : Bool) (a : Option Addr) (la ca : Nat) (xs : List Nat) (w : World) (hla : xs.length = la) (hba : la ≤ 1048576) (hca : la ≤ ca) (hna : a = none → ca = 0) (hra : Rd .u64 w a xs) (bx : Bd xs) :
    Calls Tryz.prog 21 #[.bool n, .slice a la ca] w (WPost True (wv n xs) w) := by
  have HN := Lib.hid hna
  have HR := Lib.hid hra
  clear hna hra
  go_enter Tryz.func21, Tryz.ntmps21
  go_wp2_with fail
  refine (maker_any n _).mono ?_
  rintro e w1 ⟨rfl, rfl⟩
  go_wp2_with fail
  refine (norm_any a la ca xs _ hla hba hca HN.out ((HR.out.alloc _).alloc _) bx).mono ?_
  rintro e w2 ⟨hb2, hor⟩
  have hb0 : Below w.heap.size w w2 := (((Below.refl _ _).alloc (Nat.le_refl _) _).alloc (by simp) _).trans (hb2.mono (by simp; omega))
  have hrb : RBlk w2 w.heap.size := RBlk.below (rblk (heap_kept (heap_new _ _) _)) hb2
  have hcl : w2.cell? ⟨w.heap.size + 1, 0, none⟩ = some (.bool n) := by
    refine below_cell hb2 _ _ ?_
    simp
  obtain ⟨v, k, rfl, hor2⟩ : ∃ v k, e = .returned (.tuple #[v, .int .i64 k]) ∧ ((¬ (True ∧ val xs < LIM) ∧ v = .slice none 0 0 ∧ k = 3) ∨ (True ∧ k = 0 ∧ ∃ zs, own64 w2 w.heap.size v zs ∧ Num zs (val xs) ∧ zs.length ≤ 1048576)) := by
    rcases hor with ⟨h1, rfl⟩ | ⟨h1, h2, v, zs, rfl, ho, hN⟩
    · refine ⟨_, _, rfl, .inl ⟨fun h => h1 ⟨?_, ?_⟩, rfl, rfl⟩⟩
      · exact Nat.le_trans (lim_fl bx h.2) (by decide)
      · exact Nat.lt_of_lt_of_le h.2 lim_lt
    · exact ⟨_, _, rfl, .inr ⟨trivial, rfl, zs, owns_base ho (by simp; omega), hN, by have := hN.len_le.2 h2; omega⟩⟩
  have HOR := Lib.hid hor2
  have HB0 := Lib.hid hb0
  have HRB := Lib.hid hrb
  have HCL := Lib.hid hcl
  clear hor hor2 hb0 hrb hcl hb2
  go_wp2_with fail
  refine (made_any n (wv n xs) True _ (val xs) w _ _ _ HCL.out HB0.out (wv_abs n xs) (fun _ => wv_neg n xs) HOR.out).mono ?_
  rintro e w3 ⟨hb3, hW⟩
  obtain ⟨n', a', l', c', k', rfl⟩ := hW.told
  have HRB3 := Lib.hid (HRB.out.below hb3)
  have HW := Lib.hid hW
  obtain ⟨_, c0, c1, f0, f1⟩ := HRB.out.below hb3
  clear hb3 hW
  go_wp2
  refine bodyPost_ret (results_WOset rfl rfl rfl HRB3.out) rfl ?_
  exact HW.out.set HRB3.out (Nat.le_refl _) _ _

theorem results_cell_one {fn : Func} {p : Tmp} {ty : TypeId} (h : fn.results = #[.cell p ty]) (tmps : Array Value) (P : Program) (w : World) :
    (results fn tmps).run P w = ((asAddr (tmps.getD p undef)).run P w).andThen fun a w₁ => (loadVar ty a).run P w₁ := by
  simp only [results, h]
  simp [Sem.run_bind, Result.andThen]
theorem results_WO1 {fn : Func} {p : Tmp} (h : fn.results = #[.cell p 24]) {tmps : Array Value} {w : World} {g : Nat} {n : Bool} {a : Option Addr} {la ca : Nat}
    (hp : tmps.getD p undef = .pointer (some ⟨g, 0, none⟩)) (hg : w.heap[g]? = some (WO n a la ca)) :
    (results fn tmps).run Tryz.prog w = .ok (.agg #[.bool n, .slice a la ca]) w := by
  rw [results_cell_one h, hp]
  simp [asAddr, Result.andThen, load_WO hg]
theorem results_WOset1 {fn : Func} {p : Tmp} (h : fn.results = #[.cell p 24]) {tmps : Array Value} {w : World} {g : Nat} {n : Bool} {a : Option Addr} {la ca : Nat}
    (hp : tmps.getD p undef = .pointer (some ⟨g, 0, none⟩)) (hg : RBlk w g) :
    (results fn tmps).run Tryz.prog ((w.setCell ⟨g, 0, none⟩ (.bool n)).setCell ⟨g, 1, none⟩ (.slice a la ca)) = .ok (.agg #[.bool n, .slice a la ca]) ((w.setCell ⟨g, 0, none⟩ (.bool n)).setCell ⟨g, 1, none⟩ (.slice a la ca)) := by
  have h1 := heap_setCell_same w g 0 _ _ (.bool n) hg.blk
  have h2 := heap_setCell_same _ g 1 _ _ (.slice a la ca) h1
  exact results_WO1 h hp h2

def IPost (z : Int) (w : World) (e : Ending) (w' : World) : Prop :=
  Below w.heap.size w w' ∧ ∃ a c zs, e = .returned (.agg #[.bool (decide (z < 0)), .slice a zs.length c]) ∧ own64 w' w.heap.size (.slice a zs.length c) zs ∧ Num zs z.natAbs

theorem neg_u64 (z : Int) (x : Nat) (hz : z.natAbs = x) (hn : z < 0) (h1 : -9223372036854775808 ≤ z) : IntKind.u64.wrap (-IntKind.u64.wrap z) = (x : Int) := by
  simp [IntKind.wrap, IntKind.signed, IntKind.bits]
  omega
theorem val_one (x : Nat) : val [x] = x := by simp [val]
theorem IPost.alloc {z : Int} {w w' : World} {e : Ending} (h : IPost z w e w') (o : Obj) : IPost z w e (w'.alloc o) := by
  obtain ⟨h0, a, c, zs, he, ho, hN⟩ := h
  exact ⟨h0.alloc h0.size _, a, c, zs, he, own64.under ho ((Below.refl _ _).alloc (Nat.le_refl _) _), hN⟩
theorem IPost.set {z : Int} {w w' : World} {e : Ending} (h : IPost z w e w') {g : Nat} (hg : RBlk w' g) (hw : w.heap.size ≤ g) (u0 u1 : Value) : IPost z w e ((w'.setCell ⟨g, 0, none⟩ u0).setCell ⟨g, 1, none⟩ u1) := by
  obtain ⟨h0, a, c, zs, he, ho, hN⟩ := h
  have hp : WPost (LIM ≤ LIM) 0 w (.returned (.int .i64 0)) w' → True := fun _ => trivial
  refine ⟨(h0.setCell hw u0).setCell hw u1, a, c, zs, he, ?_, hN⟩
  have h1 := own64.aside ho hg 0 u0
  refine ((Chg.refl (fun k => k = g) _).setCell rfl u1).owns h1 fun k hk he => ?_
  obtain rfl : k = g := he
  rcases ho.2 with ⟨h0, _⟩ | ⟨g', c', cur, h0, _, hh, _⟩
  · rw [h0] at hk; cases hk
  · rw [h0] at hk
    obtain rfl : g' = k := by simpa [Value.ownBlock] using hk
    have h2 := hg.blk
    rw [hh] at h2
    simp [WO] at h2

set_option maxHeartbeats 1000000 in
set_option maxRecDepth 100000 in
theorem int_any (z : Int) (w : World) (h1 : -9223372036854775808 ≤ z) (h2 : z ≤ 9223372036854775807) :
    Calls Tryz.prog 37 #[.int .i64 z] w (IPost z w) := by
  obtain ⟨x, hx0⟩ : ∃ x, z.natAbs = x := ⟨_, rfl⟩
  have hx : x < 18446744073709551616 := by omega
  have hlim : x < LIM := Nat.lt_of_lt_of_le hx (by unfold LIM; exact Nat.pow_le_pow_right (n := 18446744073709551616) (i := 1) (by decide) (by decide))
  have hbd : Bd [x] := Bd.nil.cons hx
  have HLIM := Lib.hid hlim
  have HBD := Lib.hid hbd
  clear hlim hbd
  by_cases hn : z < 0
  · have hq : decide (z < 0) = true := by rw [decide_eq_true_iff]; exact hn
    have hw := neg_u64 z x hx0 hn h1
    have hwv : Hid (wv true [x] = z) := by show _ = _; unfold wv; rw [val_one]; simp only [if_true]; omega
    have HZ := Lib.hid hx0
    have HQ := Lib.hid hq
    clear hx0 hn
    go_enter Tryz.func37, Tryz.ntmps37
    go_wp2_with fail
    refine (make_any true (some ⟨w.heap.size + 1, 0, none⟩) 1 1 [x] _ rfl (by decide) (by decide) (fun h => by cases h) (lit_rd _ (by simp) rfl) HBD.out).mono ?_
    rintro e w2 ⟨hb2, hor⟩
    rw [hwv.out, HZ.out] at hor
    rcases hor with ⟨h3, _⟩ | ⟨_, _, a, c, zs, rfl, ho, hN⟩
    · exact absurd ⟨trivial, HLIM.out⟩ h3
    rw [HQ.out]
    have hb0 : Below w.heap.size w w2 := (((Below.refl _ _).alloc (Nat.le_refl _) _).alloc (by simp) _).trans (hb2.mono (by simp; omega))
    have hrb : RBlk w2 w.heap.size := RBlk.below (rblk (heap_kept (heap_new _ _) _)) hb2
    have hpost : IPost z w (.returned (.agg #[.bool true, .slice a zs.length c])) w2 := ⟨hb0, a, c, zs, by rw [HQ.out], owns_base ho (by simp; omega), by rw [HZ.out]; exact hN⟩
    have hrb2 : RBlk (w2.alloc (.cells #[.bool true, .slice a zs.length c] 24)) w.heap.size := hrb.below ((Below.refl _ _).alloc (Nat.le_refl _) _)
    have HP := Lib.hid (hpost.alloc (.cells #[.bool true, .slice a zs.length c] 24))
    have HRB := Lib.hid hrb2
    obtain ⟨_, c0, c1, f0, f1⟩ := hrb2
    clear ho hN hb0 hb2 hpost hq hrb
    go_wp2
    refine bodyPost_ret (results_WOset1 rfl rfl HRB.out) rfl ?_
    exact HP.out.set HRB.out (Nat.le_refl _) _ _
  · have hq : decide (z < 0) = false := by rw [decide_eq_false_iff_not]; exact hn
    obtain rfl : z = (x : Int) := by omega
    have hwv : Hid (wv false [x] = (x : Int)) := by show _ = _; unfold wv; rw [val_one]; simp
    have HZ := Lib.hid hx0
    have HQ := Lib.hid hq
    clear hx0 hn
    go_enter Tryz.func37, Tryz.ntmps37
    go_wp2_with fail
    refine (make_any false (some ⟨w.heap.size + 1, 0, none⟩) 1 1 [x] _ rfl (by decide) (by decide) (fun h => by cases h) (lit_rd _ (by simp) rfl) HBD.out).mono ?_
    rintro e w2 ⟨hb2, hor⟩
    rw [hwv.out, HZ.out] at hor
    rcases hor with ⟨h3, _⟩ | ⟨_, _, a, c, zs, rfl, ho, hN⟩
    · exact absurd ⟨trivial, HLIM.out⟩ h3
    rw [HQ.out]
    have hb0 : Below w.heap.size w w2 := (((Below.refl _ _).alloc (Nat.le_refl _) _).alloc (by simp) _).trans (hb2.mono (by simp; omega))
    have hrb : RBlk w2 w.heap.size := RBlk.below (rblk (heap_kept (heap_new _ _) _)) hb2
    have hpost : IPost (x : Int) w (.returned (.agg #[.bool false, .slice a zs.length c])) w2 := ⟨hb0, a, c, zs, by rw [HQ.out], owns_base ho (by simp; omega), by rw [HZ.out]; exact hN⟩
    have hrb2 : RBlk (w2.alloc (.cells #[.bool false, .slice a zs.length c] 24)) w.heap.size := hrb.below ((Below.refl _ _).alloc (Nat.le_refl _) _)
    have HP := Lib.hid (hpost.alloc (.cells #[.bool false, .slice a zs.length c] 24))
    have HRB := Lib.hid hrb2
    obtain ⟨_, c0, c1, f0, f1⟩ := hrb2
    clear ho hN hb0 hb2 hpost hq hrb
    go_wp2
    refine bodyPost_ret (results_WOset1 rfl rfl HRB.out) rfl ?_
    exact HP.out.set HRB.out (Nat.le_refl _) _ _

/-- What a reading tells, as a number and a list. -/
def ParseTells (l : List UInt8) (k : Int) (zs : List Nat) : Prop :=
  (65536 < l.length ∧ k = 3 ∧ zs = []) ∨ (l.length ≤ 65536 ∧ decB l = false ∧ k = 12 ∧ zs = []) ∨
  (l.length ≤ 65536 ∧ decB l = true ∧ 18446744073709551616 ^ 128 ≤ dval l ∧ k = 3 ∧ zs = []) ∨
  (l.length ≤ 65536 ∧ decB l = true ∧ dval l < 18446744073709551616 ^ 128 ∧ k = 0 ∧ Num zs (dval l))
def FromTells (l : List Nat) (k : Int) (zs : List Nat) : Prop :=
  (18446744073709551616 ^ 128 ≤ bval l ∧ k = 3 ∧ zs = []) ∨ (bval l < 18446744073709551616 ^ 128 ∧ k = 0 ∧ Num zs (bval l))
def Told (Q : Int → List Nat → Prop) (w : World) (e : Ending) (w' : World) : Prop :=
  Below w.heap.size w w' ∧ ∃ a c k zs, e = .returned (.tuple #[.slice a zs.length c, .int .i64 k]) ∧ own64 w' w.heap.size (.slice a zs.length c) zs ∧ zs.length ≤ 128 ∧ Q k zs
theorem ParsePost.told {l : List UInt8} {w w' : World} {e : Ending} (h : ParsePost l w e w') : Told (ParseTells l) w e w' := by
  obtain ⟨hb, h | h | h | h⟩ := h
  · exact ⟨hb, none, 0, 3, [], h.2, own64_nil _ _, by decide, .inl ⟨h.1, rfl, rfl⟩⟩
  · exact ⟨hb, none, 0, 12, [], h.2.2, own64_nil _ _, by decide, .inr (.inl ⟨h.1, h.2.1, rfl, rfl⟩)⟩
  · exact ⟨hb, none, 0, 3, [], h.2.2.2, own64_nil _ _, by decide, .inr (.inr (.inl ⟨h.1, h.2.1, h.2.2.1, rfl, rfl⟩))⟩
  · obtain ⟨h1, h2, h3, v, zs, rfl, ho, hn⟩ := h
    obtain ⟨a, c, rfl, _⟩ := own64.form ho
    exact ⟨hb, a, c, 0, zs, rfl, ho, hn.len_le.2 h3, .inr (.inr (.inr ⟨h1, h2, h3, rfl, hn⟩))⟩
theorem FromPost.told {l : List Nat} {w w' : World} {e : Ending} (h : FromPost l w e w') : Told (FromTells l) w e w' := by
  obtain ⟨hb, h | h⟩ := h
  · exact ⟨hb, none, 0, 3, [], h.2, own64_nil _ _, by decide, .inl ⟨h.1, rfl, rfl⟩⟩
  · obtain ⟨h3, v, zs, rfl, ho, hn⟩ := h
    obtain ⟨a, c, rfl, _⟩ := own64.form ho
    exact ⟨hb, a, c, 0, zs, rfl, ho, hn.len_le.2 h3, .inr ⟨h3, rfl, hn⟩⟩
theorem ParseTells.one {l : List UInt8} {k k' : Int} {zs zs' : List Nat} (h : ParseTells l k zs) (h' : ParseTells l k' zs') : k = k' ∧ zs = zs' := by
  rcases h with ⟨h1, rfl, rfl⟩ | ⟨h1, h2, rfl, rfl⟩ | ⟨h1, h2, h3, rfl, rfl⟩ | ⟨h1, h2, h3, rfl, h4⟩ <;>
  rcases h' with ⟨g1, rfl, rfl⟩ | ⟨g1, g2, rfl, rfl⟩ | ⟨g1, g2, g3, rfl, rfl⟩ | ⟨g1, g2, g3, rfl, g4⟩ <;>
  first | exact ⟨rfl, rfl⟩ | exact ⟨rfl, h4.unique g4⟩ | (exfalso; omega) | (exfalso; simp_all)
theorem FromTells.one {l : List Nat} {k k' : Int} {zs zs' : List Nat} (h : FromTells l k zs) (h' : FromTells l k' zs') : k = k' ∧ zs = zs' := by
  rcases h with ⟨h1, rfl, rfl⟩ | ⟨h3, rfl, h4⟩ <;>
  rcases h' with ⟨g1, rfl, rfl⟩ | ⟨g3, rfl, g4⟩ <;>
  first | exact ⟨rfl, rfl⟩ | exact ⟨rfl, h4.unique g4⟩ | (exfalso; omega)

/-- What Text answers. -/
def WText (n : Bool) (xs : List Nat) (w : World) (e : Ending) (w' : World) : Prop :=
  Below w.heap.size w w' ∧
  ((LIM ≤ val xs ∧ e = .returned (.tuple #[.string ⟨#[]⟩, .int .i64 3])) ∨
   (val xs < LIM ∧ ∃ l, IsDec l (val xs) ∧ e = .returned (.tuple #[.string ⟨(if wv n xs < 0 then 45 :: l else l).toArray⟩, .int .i64 0])))
theorem sg_neg (z : Int) : decide (sg z < 0) = decide (z < 0) := by
  rw [decide_eq_decide]; unfold sg; split <;> (try split) <;> omega
set_option maxHeartbeats 1000000 in
set_option maxRecDepth 100000 in
theorem wtext_any (n : Bool) (a : Option Addr) (la ca : Nat) (xs : List Nat) (w : World) (hla : xs.length = la) (hba : la ≤ 1048576) (hca : la ≤ ca) (hna : a = none → ca = 0) (hra : Rd .u64 w a xs) (bx : Bd xs) :
    Calls Tryz.prog 35 #[.agg #[.bool n, .slice a la ca]] w (WText n xs w) := by
  have HN := Lib.hid hna
  have HR : Hid (∀ W, Below w.heap.size w W → Rd .u64 W a xs) := fun W h => hra.below h
  have HBX := Lib.hid bx
  clear hna hra bx
  go_enter Tryz.func35, Tryz.ntmps35
  go_wp2_with fail
  refine (wfits_any n a la ca xs _ hla hba hca (HR.out _ ((Below.refl _ _).alloc (Nat.le_refl _) _)) HBX.out).mono ?_
  rintro e w1 ⟨rfl, rfl⟩
  by_cases hlim : val xs < LIM
  · rw [decide_eq_true hlim]
    have HL := Lib.hid hlim
    clear hlim
    go_wp2_with fail
    have hb2 : Below w.heap.size w ((w.alloc (WO n a la ca)).alloc (WO n a la ca)) := ((Below.refl _ _).alloc (Nat.le_refl _) _).alloc (by simp) _
    refine (text_any a la ca xs _ hla hba hca HN.out (HR.out _ hb2) HBX.out).mono ?_
    rintro e w3 ht
    obtain ⟨hb3, ⟨hnf, _⟩ | ⟨_, l, hd, rfl⟩⟩ := ht.tells HBX.out
    · exact absurd (Nat.le_trans (lim_fl HBX.out HL.out) (by decide)) hnf
    have hb : Below w.heap.size w w3 := hb2.trans (hb3.mono hb2.size)
    have hc : w3.heap[w.heap.size]? = some (WO n a la ca) := by
      rw [hb3.block _ (by simp; omega)]; exact heap_kept (heap_new _ _) _
    have hc0 : w3.cell? ⟨w.heap.size, 0, none⟩ = some (.bool n) := by unfold WO at hc; simp [World.cell?, hc]
    have hc1 : w3.cell? ⟨w.heap.size, 1, none⟩ = some (.slice a la ca) := by unfold WO at hc; simp [World.cell?, hc]
    have HD := Lib.hid hd
    have HB := Lib.hid hb
    have hlen : l.length ≤ 2467 := hd.len_le (Nat.lt_of_lt_of_le HL.out lim_lt)
    clear hd hb hb2 hb3 ht hc
    go_wp2_with fail
    refine (wsign_any n a la ca xs _ hla hba hca (HR.out _ HB.out) HBX.out).mono ?_
    rintro e w4 ⟨rfl, rfl⟩
    have hs := sg_neg (wv n xs)
    by_cases hneg : wv n xs < 0
    · have hq : decide (sg (wv n xs) < 0) = true := by rw [hs, decide_eq_true_iff]; exact hneg
      have hadd : ∀ w, (Op.stringOp .add ⟨#[45]⟩ ⟨l.toArray⟩).run Tryz.prog w = .ok (.string ⟨(45 :: l).toArray⟩) w := fun w => run_string_add_lists w [45] l (by decide) (by omega)
      have HNEG := Lib.hid hneg
      clear hneg hs
      go_wp2
      go_ret2
      exact ⟨HB.out.alloc HB.out.size _, .inr ⟨HL.out, l, HD.out, by rw [if_pos HNEG.out]; rfl⟩⟩
    · have hq : decide (sg (wv n xs) < 0) = false := by rw [hs, decide_eq_false_iff_not]; exact hneg
      have HNEG := Lib.hid hneg
      clear hneg hs
      go_wp2
      go_ret2
      exact ⟨HB.out.alloc HB.out.size _, .inr ⟨HL.out, l, HD.out, by rw [if_neg (show ¬ (wv n xs < 0) by have := HNEG.out; omega)]; rfl⟩⟩
  · rw [decide_eq_false hlim]
    have HL := Lib.hid hlim
    clear hlim
    go_wp2
    go_ret2
    exact ⟨((Below.refl _ _).alloc (Nat.le_refl _) _).alloc (by simp) _, .inl ⟨Nat.le_of_not_lt HL.out, rfl⟩⟩

/-- A whole number and an error, told by what is known of them. -/
def WTold (Q : Int → Bool → List Nat → Prop) (w : World) (e : Ending) (w' : World) : Prop :=
  Below w.heap.size w w' ∧ ∃ n a c k zs, e = .returned (.tuple #[.agg #[.bool n, .slice a zs.length c], .int .i64 k]) ∧ own64 w' w.heap.size (.slice a zs.length c) zs ∧ Q k n zs
theorem WTold.set {Q : Int → Bool → List Nat → Prop} {w w' : World} {e : Ending} (h : WTold Q w e w') {g : Nat} (hg : RBlk w' g) (hw : w.heap.size ≤ g) (u0 u1 : Value) : WTold Q w e ((w'.setCell ⟨g, 0, none⟩ u0).setCell ⟨g, 1, none⟩ u1) := by
  obtain ⟨h0, n, a, c, k, zs, he, ho, hQ⟩ := h
  refine ⟨(h0.setCell hw u0).setCell hw u1, n, a, c, k, zs, he, ?_, hQ⟩
  have h1 := own64.aside ho hg 0 u0
  refine ((Chg.refl (fun k => k = g) _).setCell rfl u1).owns h1 fun k hk he => ?_
  obtain rfl : k = g := he
  rcases ho.2 with ⟨h0, _⟩ | ⟨g', c', cur, h0, _, hh, _⟩
  · rw [h0] at hk; cases hk
  · rw [h0] at hk
    obtain rfl : g' = k := by simpa [Value.ownBlock] using hk
    have h2 := hg.blk
    rw [hh] at h2
    simp [WO] at h2
theorem WTold.from {Q : Int → Bool → List Nat → Prop} {w0 w w' : World} {e : Ending} (h : WTold Q w e w') (hb : Below w0.heap.size w0 w) : WTold Q w0 e w' := by
  obtain ⟨h0, n, a, c, k, zs, he, ho, hQ⟩ := h
  exact ⟨hb.trans (h0.mono hb.size), n, a, c, k, zs, he, owns_base ho hb.size, hQ⟩
theorem WTold.told {Q : Int → Bool → List Nat → Prop} {w w' : World} {e : Ending} (h : WTold Q w e w') : ∃ n a l c k, e = .returned (.tuple #[.agg #[.bool n, .slice a l c], .int .i64 k]) := by
  obtain ⟨_, n, a, c, k, zs, he, _⟩ := h
  exact ⟨_, _, _, _, _, he⟩

/-- What the closure tells. -/
def MadeTells (n : Bool) (k0 : Int) (N : Nat) (k : Int) (m : Bool) (zs : List Nat) : Prop :=
  (k0 ≠ 0 ∧ k = k0 ∧ m = false ∧ zs = []) ∨ (k0 = 0 ∧ LIM ≤ N ∧ k = 3 ∧ m = false ∧ zs = []) ∨ (k0 = 0 ∧ N < LIM ∧ k = 0 ∧ m = (n && decide (0 < N)) ∧ Num zs N)
set_option maxHeartbeats 1000000 in
theorem mader_any (n : Bool) (p N : Nat) (a : Option Addr) (c : Nat) (zs : List Nat) (k0 : Int) (w0 w1 : World) (hp : w1.cell? ⟨p, 0, none⟩ = some (.bool n)) (hb : Below w0.heap.size w0 w1)
    (ho : own64 w1 w0.heap.size (.slice a zs.length c) zs) (hl : zs.length ≤ 1048576) (hN : k0 = 0 → Num zs N) :
    Calls Tryz.prog 104 #[.slice a zs.length c, .int .i64 k0, .pointer (some ⟨p, 0, none⟩)] w1 fun e w' => Below w1.heap.size w1 w' ∧ WTold (MadeTells n k0 N) w0 e w' := by
  by_cases hk : k0 = 0
  · subst hk
    refine (made_num n a zs.length c p N zs w1 hp rfl hl (own64.room ho).1 (own64.rd ho).2 (hN rfl)).mono ?_
    rintro e w2 ⟨hb2, ⟨h1, rfl⟩ | ⟨h1, rfl⟩⟩
    · exact ⟨hb2, hb.trans (hb2.mono hb.size), false, none, 0, 3, [], rfl, own64_nil _ _, .inr (.inl ⟨rfl, h1, rfl, rfl, rfl⟩)⟩
    · exact ⟨hb2, hb.trans (hb2.mono hb.size), _, a, c, 0, zs, rfl, own64.under ho hb2, .inr (.inr ⟨rfl, h1, rfl, rfl, hN rfl⟩)⟩
  · refine (made_err a zs.length c p k0 w1 (by simpa using hk)).mono ?_
    rintro e w2 ⟨rfl, hb2⟩
    exact ⟨hb2, hb.trans (hb2.mono hb.size), false, none, 0, k0, [], rfl, own64_nil _ _, .inl ⟨hk, rfl, rfl, rfl⟩⟩

/-- What Parse tells. -/
def WParseTells (l : List UInt8) (k : Int) (m : Bool) (zs : List Nat) : Prop :=
  (65536 < l.length ∧ k = 3 ∧ m = false ∧ zs = []) ∨ (l.length ≤ 65536 ∧ decB (Lib.trimPrefix l [45]) = false ∧ k = 12 ∧ m = false ∧ zs = []) ∨
  (l.length ≤ 65536 ∧ decB (Lib.trimPrefix l [45]) = true ∧ LIM ≤ dval (Lib.trimPrefix l [45]) ∧ k = 3 ∧ m = false ∧ zs = []) ∨
  (l.length ≤ 65536 ∧ decB (Lib.trimPrefix l [45]) = true ∧ dval (Lib.trimPrefix l [45]) < LIM ∧ k = 0 ∧ m = (Lib.hasPrefix l [45] && decide (0 < dval (Lib.trimPrefix l [45]))) ∧ Num zs (dval (Lib.trimPrefix l [45])))
theorem trimPrefix_len (l p : List UInt8) : (Lib.trimPrefix l p).length ≤ l.length := by unfold Lib.trimPrefix; split <;> simp
set_option maxHeartbeats 1000000 in
set_option maxRecDepth 100000 in
theorem wparse_any (s : ByteArray) (w : World) (hs : s.size ≤ 9223372036854775807) :
    Calls Tryz.prog 36 #[.string s] w (WTold (WParseTells s.data.toList) w) := by
  have hlen := bytes_len s
  obtain ⟨l, hl⟩ : ∃ l, l = s.data.toList := ⟨_, rfl⟩
  rw [← hl] at hlen ⊢
  have HLL := Lib.hid hl
  clear hl
  go_enter Tryz.func36, Tryz.ntmps36
  by_cases hbig : 65536 < s.size
  · have hq : decide ((65536 : Int) < (s.size : Int)) = true := by rw [decide_eq_true_iff]; omega
    have HBIG : Hid (65536 < l.length) := by show _ < _; omega
    clear hbig hlen
    go_wp2
    refine bodyPost_ret (results_WO2 rfl rfl rfl (heap_new _ _)) rfl ?_
    exact ⟨(Below.refl _ _).alloc (Nat.le_refl _) _, false, none, 0, 3, [], rfl, own64_nil _ _, .inl ⟨HBIG.out, rfl, rfl, rfl⟩⟩
  · have hq : decide ((65536 : Int) < (s.size : Int)) = false := by rw [decide_eq_false_iff_not]; omega
    have HSM : Hid (l.length ≤ 65536) := by show _ ≤ _; omega
    clear hbig hlen
    go_wp2_with fail
    refine (Tryz.strings_CutPrefix s ⟨#[45]⟩ _).mono ?_
    rintro e w1 ⟨rfl, rfl⟩
    rw [← HLL.out, show (⟨#[45]⟩ : ByteArray).data.toList = [45] from rfl]
    have htl := Lib.hid (trimPrefix_len l [45])
    have HPO : Hid (∀ k m zs, MadeTells (Lib.hasPrefix l [45]) 0 (dval (Lib.trimPrefix l [45])) k m zs → decB (Lib.trimPrefix l [45]) = true → WParseTells l k m zs) := by
      rintro k m zs (⟨h, _⟩ | ⟨_, h1, h2⟩ | ⟨_, h1, h2⟩) hd
      · exact absurd rfl h
      · exact .inr (.inr (.inl ⟨HSM.out, hd, h1, h2⟩))
      · exact .inr (.inr (.inr ⟨HSM.out, hd, h1, h2⟩))
    have HP12 : Hid (decB (Lib.trimPrefix l [45]) = false → WParseTells l 12 false []) := fun hd => .inr (.inl ⟨HSM.out, hd, rfl, rfl, rfl⟩)
    have HP3 : Hid (decB (Lib.trimPrefix l [45]) = true → LIM ≤ dval (Lib.trimPrefix l [45]) → WParseTells l 3 false []) := fun hd h => .inr (.inr (.inl ⟨HSM.out, hd, h, rfl, rfl, rfl⟩))
    generalize Lib.hasPrefix l [45] = ng at *
    generalize Lib.trimPrefix l [45] = d at *
    go_wp2_with fail
    refine (maker_any ng _).mono ?_
    rintro e w1 ⟨rfl, rfl⟩
    go_wp2_with fail
    refine (parse_any ⟨d.toArray⟩ _ (by have h1 := htl.out; have h2 := HSM.out; show d.toArray.size ≤ _; simp; omega)).mono ?_
    intro e w2 hp
    obtain ⟨hb2, al, cl, kl, zs, rfl, hol, hzl, htell⟩ := hp.told
    have htell : ParseTells d kl zs := by simpa using htell
    clear hp
    have hb0 : Below w.heap.size w w2 := (((Below.refl _ _).alloc (Nat.le_refl _) _).alloc (by simp) _).trans (hb2.mono (by simp; omega))
    have hrb : RBlk w2 w.heap.size := RBlk.below (rblk (heap_kept (heap_new _ _) _)) hb2
    have hcl : w2.cell? ⟨w.heap.size + 1, 0, none⟩ = some (.bool ng) := by
      refine below_cell hb2 _ _ ?_
      simp
    have HO := Lib.hid (owns_base hol (show w.heap.size ≤ _ by simp; omega))
    have HT := Lib.hid htell
    have HB0 := Lib.hid hb0
    have HRB := Lib.hid hrb
    have HCL := Lib.hid hcl
    clear hol htell hb0 hrb hcl hb2
    go_wp2_with fail
    refine (mader_any ng _ (dval d) al cl zs kl w _ HCL.out HB0.out HO.out (by omega) (fun h => ?_)).mono ?_
    · rcases HT.out with ⟨_, h1, _⟩ | ⟨_, _, h1, _⟩ | ⟨_, _, _, h1, _⟩ | ⟨_, _, _, _, h1⟩
      · omega
      · omega
      · omega
      · exact h1
    rintro e w3 ⟨hb3, hW⟩
    have hW : WTold (WParseTells l) w e w3 := by
      obtain ⟨h0, n', a', c', k', zs', he, ho', hQ⟩ := hW
      refine ⟨h0, n', a', c', k', zs', he, ho', ?_⟩
      rcases HT.out with ⟨h1, _⟩ | ⟨_, h1, rfl, _⟩ | ⟨_, h1, h2, rfl, _⟩ | ⟨_, h1, h2, rfl, _⟩
      · exact absurd (Nat.le_trans htl.out HSM.out) (by omega)
      · rcases hQ with ⟨_, rfl, rfl, rfl⟩ | ⟨h, _⟩ | ⟨h, _⟩
        · exact HP12.out h1
        · exact absurd h (by decide)
        · exact absurd h (by decide)
      · rcases hQ with ⟨_, rfl, rfl, rfl⟩ | ⟨h, _⟩ | ⟨h, _⟩
        · exact HP3.out h1 (Nat.le_trans lim_lt h2)
        · exact absurd h (by decide)
        · exact absurd h (by decide)
      · exact HPO.out _ _ _ hQ h1
    obtain ⟨n', a', l', c', k', rfl⟩ := hW.told
    have HRB3 := Lib.hid (HRB.out.below hb3)
    have HW := Lib.hid hW
    obtain ⟨_, c0, c1, f0, f1⟩ := HRB.out.below hb3
    clear hb3 hW
    go_wp2
    refine bodyPost_ret (results_WOset rfl rfl rfl HRB3.out) rfl ?_
    exact HW.out.set HRB3.out (Nat.le_refl _) _ _

/-- The tables of signs. -/
structure Tabs (w : World) : Prop where
  prod : ∀ i j : Nat, i ≤ 2 → j ≤ 2 → w.cell? ⟨1, i * 3 + j, none⟩ = some (.int .i64 (((i : Int) - 1) * ((j : Int) - 1)))
  ords : ∀ i j : Nat, i ≤ 2 → j ≤ 2 → w.cell? ⟨2, i * 3 + j, none⟩ = some (.int .i64 (sg ((i : Int) - (j : Int))))
theorem Tabs.below {w w' : World} (h : Tabs w) (hb : Below w.heap.size w w') : Tabs w' := ⟨fun i j hi hj => below_cell hb _ _ (h.prod i j hi hj), fun i j hi hj => below_cell hb _ _ (h.ords i j hi hj)⟩
theorem sg_at (z : Int) : ∃ i : Nat, i ≤ 2 ∧ sg z + 1 = (i : Int) := ⟨(sg z + 1).toNat, by have := sg_le z; omega, by have := sg_le z; omega⟩

/-- A block that holds a whole number, whichever. -/
def Held (W : World) (g : Nat) : Prop := ∃ n a l c, W.heap[g]? = some (WO n a l c)
/-- What a statement reads that reckons with two whole numbers: the two, a place of a table; its result's block. -/
def Reg2 (B : Nat) (n : Bool) (a : Option Addr) (la ca : Nat) (m : Bool) (b : Option Addr) (lb cb G off : Nat) (t : Int) (w W : World) : Prop :=
  W.cell? ⟨B, 0, none⟩ = some (.bool n) ∧ W.cell? ⟨B, 1, none⟩ = some (.slice a la ca) ∧ W.cell? ⟨B + 1, 0, none⟩ = some (.bool m) ∧ W.cell? ⟨B + 1, 1, none⟩ = some (.slice b lb cb) ∧ W.cell? ⟨G, off, none⟩ = some (.int .i64 t) ∧ Held W (B + 1 + 1) ∧ Below B w W
theorem bcell2 {B : Nat} {W W' : World} (hb : Below B W W') (k i : Nat) (hk : k < B) : W'.cell? ⟨k, i, none⟩ = W.cell? ⟨k, i, none⟩ := by
  have := hb.block k hk
  unfold World.cell?
  rw [this]
theorem Held.below {w w' : World} {g : Nat} (h : Held w g) (hb : Below w.heap.size w w') : Held w' g := by
  obtain ⟨n, a, l, c, h⟩ := h
  exact ⟨n, a, l, c, by rw [hb.block g (lt_of_block h)]; exact h⟩
theorem Held.set {w : World} {g : Nat} (h : Held w g) (n : Bool) (a : Option Addr) (la ca : Nat) : Held ((w.setCell ⟨g, 0, none⟩ (.bool n)).setCell ⟨g, 1, none⟩ (.slice a la ca)) g := by
  obtain ⟨n0, a0, l0, c0, h⟩ := h
  have h1 := heap_setCell_same w g 0 _ _ (.bool n) h
  exact ⟨n, a, la, ca, heap_setCell_same _ g 1 _ _ (.slice a la ca) h1⟩
theorem reg2_below {B : Nat} {n : Bool} {a : Option Addr} {la ca : Nat} {m : Bool} {b : Option Addr} {lb cb G off : Nat} {t : Int} {w W W' : World} (h : Reg2 B n a la ca m b lb cb G off t w W) (hB : w.heap.size = B) (hb : Below W.heap.size W W') : Reg2 B n a la ca m b lb cb G off t w W' := by
  subst hB
  have c := below_cell hb
  exact ⟨c _ _ h.1, c _ _ h.2.1, c _ _ h.2.2.1, c _ _ h.2.2.2.1, c _ _ h.2.2.2.2.1, h.2.2.2.2.2.1.below hb, h.2.2.2.2.2.2.trans (hb.mono h.2.2.2.2.2.2.size)⟩
theorem reg2_set {B : Nat} {n : Bool} {a : Option Addr} {la ca : Nat} {m : Bool} {b : Option Addr} {lb cb G off : Nat} {t : Int} {w W : World} (h : Reg2 B n a la ca m b lb cb G off t w W) (hG : G < B) (x : Bool) (y : Option Addr) (ly cy : Nat) :
    Reg2 B n a la ca m b lb cb G off t w ((W.setCell ⟨B + 1 + 1, 0, none⟩ (.bool x)).setCell ⟨B + 1 + 1, 1, none⟩ (.slice y ly cy)) := by
  have c : ∀ k i v, k < B + 2 → W.cell? ⟨k, i, none⟩ = some v → ((W.setCell ⟨B + 1 + 1, 0, none⟩ (.bool x)).setCell ⟨B + 1 + 1, 1, none⟩ (.slice y ly cy)).cell? ⟨k, i, none⟩ = some v := by
    intro k i v hk hv
    have hb : Below (B + 2) W ((W.setCell ⟨B + 1 + 1, 0, none⟩ (.bool x)).setCell ⟨B + 1 + 1, 1, none⟩ (.slice y ly cy)) := ((Below.refl _ _).setCell (show B + 2 ≤ B + 1 + 1 from Nat.le_refl _) _).setCell (show B + 2 ≤ B + 1 + 1 from Nat.le_refl _) _
    rw [(bcell2 hb) k i hk]; exact hv
  exact ⟨c _ _ _ (by omega) h.1, c _ _ _ (by omega) h.2.1, c _ _ _ (by omega) h.2.2.1, c _ _ _ (by omega) h.2.2.2.1, c _ _ _ (by omega) h.2.2.2.2.1, h.2.2.2.2.2.1.set _ _ _ _, (h.2.2.2.2.2.2.setCell (by show B ≤ B + 1 + 1; omega) _).setCell (by show B ≤ B + 1 + 1; omega) _⟩
/-- The result's block, as it is before it is written. -/
theorem Held.cells {W : World} {g : Nat} (h : Held W g) : ∃ n a l c, W.cell? ⟨g, 0, none⟩ = some (.bool n) ∧ W.cell? ⟨g, 1, none⟩ = some (.slice a l c) ∧ W.frozen? ⟨g, 0, none⟩ = false ∧ W.frozen? ⟨g, 1, none⟩ = false := by
  obtain ⟨n, a, l, c, h⟩ := h
  unfold WO at h
  refine ⟨n, a, l, c, ?_, ?_, ?_, ?_⟩ <;> simp [World.cell?, World.frozen?, h]
/-- What a call tells that reckons with two whole numbers. -/
def WTells (P : Prop) (W : Int) (k : Int) (n : Bool) (zs : List Nat) : Prop :=
  (¬ (P ∧ W.natAbs < LIM) ∧ k = 3 ∧ n = false ∧ zs = []) ∨ (P ∧ W.natAbs < LIM ∧ k = 0 ∧ n = decide (W < 0) ∧ Num zs W.natAbs)

theorem WPost.wtold {P : Prop} {W : Int} {w w' : World} {e : Ending} (h : WPost P W w e w') : WTold (WTells P W) w e w' := by
  rcases h.2 with ⟨h1, rfl⟩ | ⟨hP, hl, a, c, zs, rfl, ho, hN⟩
  · exact ⟨h.1, false, none, 0, 3, [], rfl, own64_nil _ _, .inl ⟨h1, rfl, rfl, rfl⟩⟩
  · exact ⟨h.1, _, a, c, 0, zs, rfl, ho, .inr ⟨hP, hl, rfl, rfl, hN⟩⟩
theorem own64.not_held {w : World} {B g k : Nat} {v : Value} {zs : List Nat} (h : own64 w B v zs) (hg : Held w g) (hk : v.ownBlock = some k) : k ≠ g := by
  rintro rfl
  obtain ⟨n, a, l, c, h2⟩ := hg
  rcases h.2 with ⟨rfl, _⟩ | ⟨g', c', cur, rfl, _, hh, _⟩
  · cases hk
  · obtain rfl : g' = k := by simpa [Value.ownBlock] using hk
    rw [hh] at h2
    simp [WO] at h2
theorem WTold.seth {Q : Int → Bool → List Nat → Prop} {w w' : World} {e : Ending} (h : WTold Q w e w') {g : Nat} (hg : Held w' g) (hw : w.heap.size ≤ g) (u0 u1 : Value) : WTold Q w e ((w'.setCell ⟨g, 0, none⟩ u0).setCell ⟨g, 1, none⟩ u1) := by
  obtain ⟨h0, n, a, c, k, zs, he, ho, hQ⟩ := h
  refine ⟨(h0.setCell hw u0).setCell hw u1, n, a, c, k, zs, he, ?_, hQ⟩
  exact (((Chg.refl (fun k => k = g) _).setCell (p := ⟨g, 0, none⟩) rfl u0).setCell (p := ⟨g, 1, none⟩) rfl u1).owns ho fun k hk he => own64.not_held ho hg hk he
theorem results_held {fn : Func} {p u : Tmp} (h : fn.results = #[.cell p 24, .tmp u]) {tmps : Array Value} {w : World} {g : Nat} {n : Bool} {a : Option Addr} {la ca : Nat} {v : Value}
    (hp : tmps.getD p undef = .pointer (some ⟨g, 0, none⟩)) (hu : tmps.getD u undef = v) (hg : Held w g) :
    (results fn tmps).run Tryz.prog ((w.setCell ⟨g, 0, none⟩ (.bool n)).setCell ⟨g, 1, none⟩ (.slice a la ca)) = .ok (.tuple #[.agg #[.bool n, .slice a la ca], v]) ((w.setCell ⟨g, 0, none⟩ (.bool n)).setCell ⟨g, 1, none⟩ (.slice a la ca)) := by
  obtain ⟨n0, a0, l0, c0, h0⟩ := hg
  have h1 := heap_setCell_same w g 0 _ _ (.bool n) h0
  have h2 := heap_setCell_same _ g 1 _ _ (.slice a la ca) h1
  exact results_WO2 h hp hu h2
theorem lim_mul {x y : Nat} (h : x < LIM) (k : y < LIM) : x * y < 18446744073709551616 ^ 128 := by
  rw [show (18446744073709551616 : Nat) ^ 128 = LIM * LIM by unfold LIM; rw [← Nat.pow_add]]
  exact Nat.mul_lt_mul'' h k
theorem num_told {n m x y N B : Nat} {w w' : World} {e : Ending} (h : n ≤ 128 ∧ m ≤ 128 ∧ N < 18446744073709551616 ^ 128 ∧ x < LIM ∧ y < LIM)
    (hor : (¬ ((n ≤ 128 ∧ m ≤ 128) ∧ N < 18446744073709551616 ^ 128) ∧ e = .returned (.tuple #[.slice none 0 0, .int .i64 3])) ∨ ((n ≤ 128 ∧ m ≤ 128) ∧ N < 18446744073709551616 ^ 128 ∧ ∃ v zs, e = .returned (.tuple #[v, .int .i64 0]) ∧ own64 w' w.heap.size v zs ∧ Num zs N)) (hB : B ≤ w.heap.size) :
    ∃ v k, e = .returned (.tuple #[v, .int .i64 k]) ∧ ((¬ ((x < LIM ∧ y < LIM) ∧ N < LIM) ∧ v = .slice none 0 0 ∧ k = 3) ∨ ((x < LIM ∧ y < LIM) ∧ k = 0 ∧ ∃ zs, own64 w' B v zs ∧ Num zs N ∧ zs.length ≤ 1048576)) := by
  rcases hor with ⟨h1, _⟩ | ⟨_, h2, v, zs, rfl, ho, hN⟩
  · exact absurd ⟨⟨h.1, h.2.1⟩, h.2.2.1⟩ h1
  · exact ⟨v, 0, rfl, .inr ⟨h.2.2.2, rfl, zs, owns_base ho hB, hN, by have := hN.len_le.2 h2; omega⟩⟩
theorem heap_third (w : World) (o1 o2 o3 : Obj) : (((w.alloc o1).alloc o2).alloc o3).heap[w.heap.size + 1 + 1]? = some o3 := by
  have h := heap_new ((w.alloc o1).alloc o2) o3
  have e : ((w.alloc o1).alloc o2).heap.size = w.heap.size + 1 + 1 := by simp
  rw [e] at h
  exact h
theorem sg_mul (x y : Int) (i j : Nat) (t : Int) (nb : Bool) (hi : sg x + 1 = (i : Int)) (hj : sg y + 1 = (j : Int)) (ht : t = ((i : Int) - 1) * ((j : Int) - 1)) (hn : decide (t < 0) = nb) (N : Nat) (hN : (x * y).natAbs = N) :
    (nb && decide (0 < N)) = decide (x * y < 0) := by
  have e1 : ((i : Int) - 1) = sg x := by omega
  have e2 : ((j : Int) - 1) = sg y := by omega
  rw [e1, e2] at ht
  have key : (sg x * sg y < 0) ↔ (x * y < 0) := by
    unfold sg
    rcases Int.lt_trichotomy x 0 with hx | hx | hx <;> rcases Int.lt_trichotomy y 0 with hy | hy | hy
    · simp [Int.ne_of_lt hx, Int.ne_of_lt hy, hx, hy]; exact Int.le_of_lt (Int.mul_pos_of_neg_of_neg hx hy)
    · simp [hy]
    · simp [Int.ne_of_lt hx, Int.ne_of_gt hy, hx, Int.not_lt.2 (Int.le_of_lt hy)]; exact Int.mul_neg_of_neg_of_pos hx hy
    · simp [hx]
    · simp [hx]
    · simp [hx]
    · simp [Int.ne_of_gt hx, Int.ne_of_lt hy, hy, Int.not_lt.2 (Int.le_of_lt hx)]; exact Int.mul_neg_of_pos_of_neg hx hy
    · simp [hy]
    · simp [Int.ne_of_gt hx, Int.ne_of_gt hy, Int.not_lt.2 (Int.le_of_lt hx), Int.not_lt.2 (Int.le_of_lt hy)]; exact Int.le_of_lt (Int.mul_pos hx hy)
  rw [← ht] at key
  rw [← hn]
  by_cases h : x * y < 0
  · rw [decide_eq_true h, decide_eq_true (key.2 h), decide_eq_true (show 0 < N by omega)]; rfl
  · rw [decide_eq_false h, decide_eq_false (fun h2 => h (key.1 h2))]; rfl

set_option maxHeartbeats 1000000 in
set_option maxRecDepth 100000 in
theorem wmul_of (n m : Bool) (a b : Option Addr) (la ca lb cb : Nat) (xs ys : List Nat) (w : World) (hla : xs.length = la) (hlb : ys.length = lb) (hba : la ≤ 1048576) (hbb : lb ≤ 1048576) (hca : la ≤ ca) (hcb : lb ≤ cb)
    (hra : Rd .u64 w a xs) (hrb : Rd .u64 w b ys) (bx : Bd xs) (bY : Bd ys) (ht : Tabs w)
    (hmul : ∀ W, Below w.heap.size w W → Calls Tryz.prog 46 #[.slice a la ca, .slice b lb cb] W (NumPost (fl xs ≤ 128 ∧ fl ys ≤ 128) (val xs * val ys) W)) :
    Calls Tryz.prog 17 #[.agg #[.bool n, .slice a la ca], .agg #[.bool m, .slice b lb cb]] w (WTold (WTells (val xs < LIM ∧ val ys < LIM) (wv n xs * wv m ys)) w) := by
  have HA := Lib.hid (fun (W : World) (h : Below w.heap.size w W) => hra.below h)
  have HB := Lib.hid (fun (W : World) (h : Below w.heap.size w W) => hrb.below h)
  have HM := Lib.hid hmul
  have HBX := Lib.hid bx
  have HBY := Lib.hid bY
  have HT := Lib.hid ht
  clear hra hrb hmul bx bY ht
  go_enter Tryz.func17, Tryz.ntmps17
  go_wp2_with fail
  refine (wfits_any n a la ca xs _ hla hba hca (HA.out _ ((((Below.refl _ _).alloc (Nat.le_refl _) _).alloc (by simp) _).alloc (by simp <;> omega) _)) HBX.out).mono ?_
  rintro e w1 ⟨rfl, rfl⟩
  by_cases h1 : val xs < LIM
  · rw [decide_eq_true h1]
    go_wp2_with fail
    refine (wfits_any m b lb cb ys _ hlb hbb hcb (HB.out _ (((((Below.refl _ _).alloc (Nat.le_refl _) _).alloc (by simp) _).alloc (by simp <;> omega) _).alloc (by simp <;> omega) _)) HBY.out).mono ?_
    rintro e w1 ⟨rfl, rfl⟩
    by_cases h2 : val ys < LIM
    · rw [decide_eq_true h2]
      have H1 := Lib.hid h1
      have H2 := Lib.hid h2
      clear h1 h2
      go_wp2_with fail
      have hb0 : Below w.heap.size w (((((w.alloc (WO n a la ca)).alloc (WO m b lb cb)).alloc (WO false none 0 0)).alloc (WO n a la ca)).alloc (WO m b lb cb)) := (((((Below.refl _ _).alloc (Nat.le_refl _) _).alloc (by simp) _).alloc (by simp <;> omega) _).alloc (by simp <;> omega) _).alloc (by simp <;> omega) _
      refine (places_any n m a b la ca lb cb xs ys _ hla hlb hba hbb hca hcb (HA.out _ hb0) (HB.out _ hb0) HBX.out HBY.out).mono ?_
      rintro e w2 ⟨rfl, hb2⟩
      obtain ⟨i, hi, ei⟩ := sg_at (wv n xs)
      obtain ⟨j, hj, ej⟩ := sg_at (wv m ys)
      rw [ei, ej]
      have HEI := Lib.hid ei
      have HEJ := Lib.hid ej
      have hi3 : (i : Int) < 3 := by omega
      have hj3 : (j : Int) < 3 := by omega
      obtain ⟨t, hte⟩ : ∃ t : Int, t = ((i : Int) - 1) * ((j : Int) - 1) := ⟨_, rfl⟩
      obtain ⟨nb, hnb⟩ : ∃ nb, decide (t < 0) = nb := ⟨_, rfl⟩
      have HNB := Lib.hid hnb
      have hS0 : Hid (Reg2 w.heap.size n a la ca m b lb cb 1 (i * 3 + j) t w w2.drew) := by
        have h0 : Reg2 w.heap.size n a la ca m b lb cb 1 (i * 3 + j) t w (((((w.alloc (WO n a la ca)).alloc (WO m b lb cb)).alloc (WO false none 0 0)).alloc (WO n a la ca)).alloc (WO m b lb cb)) := by
          have hs := below_cell hb0 _ _ (HT.out.prod i j hi hj)
          rw [← hte] at hs
          have hx := boxes0 n a la ca m b lb cb w
          have g1 := below_cell (w := (w.alloc (WO n a la ca)).alloc (WO m b lb cb)) (w' := (((((w.alloc (WO n a la ca)).alloc (WO m b lb cb)).alloc (WO false none 0 0)).alloc (WO n a la ca)).alloc (WO m b lb cb))) ((((Below.refl _ _).alloc (Nat.le_refl _) _).alloc (by simp) _).alloc (by simp <;> omega) _)
          refine ⟨g1 _ _ hx.1, g1 _ _ hx.2.1, g1 _ _ hx.2.2.1, g1 _ _ hx.2.2.2.1, hs, ⟨false, none, 0, 0, ?_⟩, hb0⟩
          have h3 := heap_new ((w.alloc (WO n a la ca)).alloc (WO m b lb cb)) (WO false none 0 0)
          have e3 : ((w.alloc (WO n a la ca)).alloc (WO m b lb cb)).heap.size = w.heap.size + 1 + 1 := by simp
          rw [e3] at h3
          exact heap_kept (heap_kept h3 _) _
        exact reg2_below (reg2_below h0 rfl hb2) rfl ((Below.refl _ _).drew)
      have HTE := Lib.hid hte
      have HKB : Hid (∀ W W', Reg2 w.heap.size n a la ca m b lb cb 1 (i * 3 + j) t w W → Below W.heap.size W W' → Reg2 w.heap.size n a la ca m b lb cb 1 (i * 3 + j) t w W') := fun W W' h hb => reg2_below h rfl hb
      have hG : 1 < w.heap.size := World.block_lt_of_cell? w _ (HT.out.prod 0 0 (by decide) (by decide))
      have HKS : Hid (∀ W x y ly cy, Reg2 w.heap.size n a la ca m b lb cb 1 (i * 3 + j) t w W → Reg2 w.heap.size n a la ca m b lb cb 1 (i * 3 + j) t w ((W.setCell ⟨w.heap.size + 1 + 1, 0, none⟩ (.bool x)).setCell ⟨w.heap.size + 1 + 1, 1, none⟩ (.slice y ly cy))) := fun W x y ly cy h => reg2_set h hG x y ly cy
      have HKA : Hid (∀ W o, Reg2 w.heap.size n a la ca m b lb cb 1 (i * 3 + j) t w W → Reg2 w.heap.size n a la ca m b lb cb 1 (i * 3 + j) t w (W.alloc o)) := fun W o h => reg2_below h rfl ((Below.refl _ _).alloc (Nat.le_refl _) _)
      have HKW : Hid (∀ W, Reg2 w.heap.size n a la ca m b lb cb 1 (i * 3 + j) t w W → Below w.heap.size w W) := fun W h => h.2.2.2.2.2.2
      have HKO : Hid (∀ W, Reg2 w.heap.size n a la ca m b lb cb 1 (i * 3 + j) t w W → w.heap.size ≤ W.heap.size) := fun W h => h.2.2.2.2.2.2.size
      have HKH : Hid (∀ W, Reg2 w.heap.size n a la ca m b lb cb 1 (i * 3 + j) t w W → Held W (w.heap.size + 1 + 1)) := fun W h => h.2.2.2.2.2.1
      have HAB : Hid ((wv n xs * wv m ys).natAbs = val xs * val ys) := by show _ = _; rw [Int.natAbs_mul, wv_abs, wv_abs]
      have HSG : Hid (val xs < LIM ∧ val ys < LIM → (nb && decide (0 < val xs * val ys)) = decide (wv n xs * wv m ys < 0)) := fun _ => sg_mul _ _ i j t nb ei ej hte hnb _ HAB.out
      have HFL : Hid (fl xs ≤ 128 ∧ fl ys ≤ 128 ∧ val xs * val ys < 18446744073709551616 ^ 128 ∧ val xs < LIM ∧ val ys < LIM) := ⟨Nat.le_trans (lim_fl HBX.out H1.out) (by decide), Nat.le_trans (lim_fl HBY.out H2.out) (by decide), lim_mul H1.out H2.out, H1.out, H2.out⟩
      clear ei ej hte hb0 hb2 hG
      go_wp2
      go_region_held3 (fun W => W.cell? ⟨w.heap.size, 0, none⟩ = some (.bool n) ∧ W.cell? ⟨w.heap.size, 1, none⟩ = some (.slice a la ca) ∧ W.cell? ⟨w.heap.size + 1, 0, none⟩ = some (.bool m) ∧ W.cell? ⟨w.heap.size + 1, 1, none⟩ = some (.slice b lb cb) ∧ W.cell? ⟨1, i * 3 + j, none⟩ = some (.int .i64 t) ∧ Held W (w.heap.size + 1 + 1) ∧ Below w.heap.size w W)
        (first
        | exact hS0.out
        | exact HKB.out _ _ (by assumption) hb3
        | exact HKA.out _ _ (by assumption)
        | exact HKS.out _ _ _ _ _ (by assumption))
        (first
        | (go_at_call 71; (with_reducible refine (maker_any nb _).mono ?_); rintro e w3 ⟨rfl, rfl⟩)
        | (go_at_call 46; (refine (HM.out _ (HKW.out _ (by assumption))).mono ?_); rintro e w3 ⟨hb3, hor⟩
           obtain ⟨v, k, rfl, hor2⟩ := num_told HFL.out hor (HKO.out _ (by assumption))
           have HOR := Lib.hid hor2
           have HCL := Lib.hid (below_cell hb3 ⟨w2.heap.size, 0, none⟩ (.bool nb) (by simp))
           clear hor hor2)
        | (go_at_call 104; (refine (made_any nb (wv n xs * wv m ys) (val xs < LIM ∧ val ys < LIM) _ (val xs * val ys) w _ _ _ HCL.out (HKW.out _ (by assumption)) HAB.out HSG.out HOR.out).mono ?_); rintro e w4 ⟨hb3, hW⟩
           obtain ⟨n', a', l', c', k', rfl⟩ := hW.told
           have HHE := Lib.hid ((HKH.out _ (by assumption)).below hb3)
           obtain ⟨_, _, _, _, c0, c1, f0, f1⟩ := HHE.out.cells
           have HW := Lib.hid hW.wtold
           clear hW))
      go_wp2
      refine bodyPost_ret (results_held rfl rfl rfl HHE.out) rfl ?_
      exact HW.out.seth HHE.out (by omega) _ _
    · have H2 := Lib.hid h2
      rw [decide_eq_false h2]
      clear h1 h2
      go_wp2
      refine bodyPost_ret (results_WO2 rfl rfl rfl (heap_kept (heap_kept (heap_third _ _ _ _) _) _)) rfl ?_
      exact ⟨((((Below.refl _ _).alloc (Nat.le_refl _) _).alloc (by simp) _).alloc (by simp <;> omega) _).alloc (by simp <;> omega) _ |>.alloc (by simp <;> omega) _, false, none, 0, 3, [], rfl, own64_nil _ _, .inl ⟨fun h => H2.out h.1.2, rfl, rfl, rfl⟩⟩
  · have H1 := Lib.hid h1
    rw [decide_eq_false h1]
    clear h1
    go_wp2
    refine bodyPost_ret (results_WO2 rfl rfl rfl (heap_kept (heap_third _ _ _ _) _)) rfl ?_
    exact ⟨(((Below.refl _ _).alloc (Nat.le_refl _) _).alloc (by simp) _).alloc (by simp <;> omega) _ |>.alloc (by simp <;> omega) _, false, none, 0, 3, [], rfl, own64_nil _ _, .inl ⟨fun h => H1.out h.1.1, rfl, rfl, rfl⟩⟩
end Go.Proofs.YtfjhmnbbjknflaaGreatDoor
