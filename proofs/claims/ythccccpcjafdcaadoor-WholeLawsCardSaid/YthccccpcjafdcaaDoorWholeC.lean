import Derived.Test.YthccccpcjafdcaaDoorWholeB
namespace Go.Proofs.YthccccpcjafdcaaDoor
open Go.RowKit

theorem own64.under {w w' : World} {B : Nat} {v : Value} {zs : List Nat} (h : own64 w B v zs) (hb : Below w.heap.size w w') : own64 w' B v zs :=
  ((Chg.of_below hb).owns h fun k hk he => by have := (World.ownsRow.lt h k hk).2; omega)
/-- A whole number as a value. -/
def WV (n : Bool) (a : Option Addr) (la ca : Nat) : Value := .agg #[.bool n, .slice a la ca]

theorem infoW : (Tryd.prog.info? 44).map (·.size) = some 2 := by kernel_rfl
theorem load_WO {w : World} {g : Nat} {n : Bool} {a : Option Addr} {la ca : Nat} (h : w.heap[g]? = some (WO n a la ca)) :
    (loadVar 44 ⟨g, 0, none⟩).run Tryd.prog w = .ok (.agg #[.bool n, .slice a la ca]) w :=
  run_loadVar_row w g _ _ #[.bool n, .slice a la ca] _ _ h Tryd.underlying44 rfl infoW
theorem results_WO2 {fn : Func} {p u : Tmp} (h : fn.results = #[.cell p 44, .tmp u]) {tmps : Array Value} {w : World} {g : Nat} {n : Bool} {a : Option Addr} {la ca : Nat} {v : Value}
    (hp : tmps.getD p undef = .pointer (some ⟨g, 0, none⟩)) (hu : tmps.getD u undef = v) (hg : w.heap[g]? = some (WO n a la ca)) :
    (results fn tmps).run Tryd.prog w = .ok (.tuple #[.agg #[.bool n, .slice a la ca], v]) w := by
  rw [results_cell_tmp h, hp, hu]
  simp [asAddr, Result.andThen, load_WO hg]
theorem heap_kept {w : World} {g : Nat} {x : Obj} (h : w.heap[g]? = some x) (o : Obj) : (w.alloc o).heap[g]? = some x := by
  rw [Below.heap_alloc _ _ _ (lt_of_block h)]; exact h
theorem heap_new (w : World) (o : Obj) : (w.alloc o).heap[w.heap.size]? = some o := by
  show (w.heap.push o)[w.heap.size]? = _
  simp

set_option maxHeartbeats 400000 in
theorem maker_any (n : Bool) (w : World) :
    Calls Tryd.prog 65 #[.bool n] w fun e w' => e = .returned (.func (.func 89) #[] #[.pointer (some ⟨w.heap.size, 0, none⟩)]) ∧ w' = w.alloc (.cells #[.bool n] 4) := by
  have hmf : ∀ (fn : Fn) (first cap : Array Value) (w : World), (Instr.makeFunc fn first cap).run Tryd.prog w = .ok (.func fn first cap) w := fun _ _ _ _ => rfl
  go_enter Tryd.func65, Tryd.ntmps65
  go_wp2
  go_ret
  exact ⟨rfl, rfl⟩

set_option maxHeartbeats 400000 in
set_option maxRecDepth 100000 in
theorem made_err (a : Option Addr) (la ca p : Nat) (k : Int) (w : World) (hk : (k != 0) = true) :
    Calls Tryd.prog 89 #[.slice a la ca, .int .i64 k, .pointer (some ⟨p, 0, none⟩)] w fun e w' => e = .returned (.tuple #[.agg #[.bool false, .slice none 0 0], .int .i64 k]) ∧ Below w.heap.size w w' := by
  go_enter Tryd.func89, Tryd.ntmps89
  go_wp2
  refine bodyPost_ret (results_WO2 rfl rfl rfl (heap_new _ _)) rfl ?_
  exact ⟨rfl, (Below.refl _ _).alloc (Nat.le_refl _) _⟩

set_option maxHeartbeats 1000000 in
set_option maxRecDepth 100000 in
theorem made_num (n : Bool) (a : Option Addr) (la ca p N : Nat) (zs : List Nat) (w : World) (hp : w.cell? ⟨p, 0, none⟩ = some (.bool n)) (hla : zs.length = la) (hba : la ≤ 1048576) (hca : la ≤ ca) (hra : Rd .u64 w a zs) (hN : Num zs N) :
    Calls Tryd.prog 89 #[.slice a la ca, .int .i64 0, .pointer (some ⟨p, 0, none⟩)] w fun e w' => Below w.heap.size w w' ∧
      ((LIM ≤ N ∧ e = .returned (.tuple #[.agg #[.bool false, .slice none 0 0], .int .i64 3])) ∨ (N < LIM ∧ e = .returned (.tuple #[.agg #[.bool (n && decide (0 < N)), .slice a la ca], .int .i64 0]))) := by
  have hpos : (0 < la) ↔ (0 < N) := by
    have := hN.len_lt (k := 0)
    rw [hla] at this
    omega
  have HN := Lib.hid hN
  have hv : Hid (val zs = N) := hN.vl
  obtain ⟨s, hs⟩ : ∃ s, s = (n && decide (0 < N)) := ⟨_, rfl⟩
  have hplt := World.block_lt_of_cell? w _ hp
  have hp2 : ∀ o : Obj, (w.alloc o).cell? ⟨p, 0, none⟩ = some (.bool n) := fun o => below_cell ((Below.refl _ _).alloc (Nat.le_refl _) _) _ _ hp
  have HS := Lib.hid hs
  have HD : Hid (decide (0 < N) = decide (0 < la)) := by show _ = _; rw [decide_eq_decide]; exact hpos.symm
  have hfin : Hid (∀ s, s = (n && decide (0 < N)) → True) := fun _ _ => trivial
  rw [← hs]
  clear hN hs hpos
  have HR : Hid (∀ W, Below w.heap.size w W → Rd .u64 W a zs) := fun W h => hra.below h
  have hblim : Hid (decide (val zs < LIM) = decide (N < LIM)) := by show _ = _; rw [hv.out]
  go_enter Tryd.func89, Tryd.ntmps89
  cases n
  · obtain rfl : s = false := HS.out
    go_wp2_with fail
    refine (wfits_any false a la ca zs _ hla hba hca (HR.out _ (((Below.refl _ _).alloc (Nat.le_refl _) _).alloc (by simp) _)) HN.out.bd).mono ?_
    rintro e w1 ⟨rfl, rfl⟩
    rw [hblim.out]
    by_cases hlim : N < LIM
    · rw [decide_eq_true hlim]
      have HL := Lib.hid hlim
      clear hlim
      go_wp2
      refine bodyPost_ret (results_WO2 rfl rfl rfl (heap_kept (heap_kept (heap_new _ _) _) _)) rfl ?_
      exact ⟨(((Below.refl _ _).alloc (Nat.le_refl _) _).alloc (by simp) _).alloc (by simp; omega) _, .inr ⟨HL.out, rfl⟩⟩
    · rw [decide_eq_false hlim]
      have HL := Lib.hid hlim
      clear hlim
      go_wp2
      refine bodyPost_ret (results_WO2 rfl rfl rfl (heap_kept (heap_kept (heap_new _ _) _) _)) rfl ?_
      exact ⟨(((Below.refl _ _).alloc (Nat.le_refl _) _).alloc (by simp) _).alloc (by simp; omega) _, .inl ⟨Nat.le_of_not_lt HL.out, rfl⟩⟩
  · obtain rfl : s = decide (0 < la) := by have h1 := HS.out; simp only [Bool.true_and] at h1; rw [h1]; exact HD.out
    go_wp2_with fail
    refine (wfits_any (decide (0 < la)) a la ca zs _ hla hba hca (HR.out _ (((Below.refl _ _).alloc (Nat.le_refl _) _).alloc (by simp) _)) HN.out.bd).mono ?_
    rintro e w1 ⟨rfl, rfl⟩
    rw [hblim.out]
    by_cases hlim : N < LIM
    · rw [decide_eq_true hlim]
      have HL := Lib.hid hlim
      clear hlim
      go_wp2
      refine bodyPost_ret (results_WO2 rfl rfl rfl (heap_kept (heap_kept (heap_new _ _) _) _)) rfl ?_
      exact ⟨(((Below.refl _ _).alloc (Nat.le_refl _) _).alloc (by simp) _).alloc (by simp; omega) _, .inr ⟨HL.out, rfl⟩⟩
    · rw [decide_eq_false hlim]
      have HL := Lib.hid hlim
      clear hlim
      go_wp2
      refine bodyPost_ret (results_WO2 rfl rfl rfl (heap_kept (heap_kept (heap_new _ _) _) _)) rfl ?_
      exact ⟨(((Below.refl _ _).alloc (Nat.le_refl _) _).alloc (by simp) _).alloc (by simp; omega) _, .inl ⟨Nat.le_of_not_lt HL.out, rfl⟩⟩

set_option exponentiation.threshold 10000 in
set_option maxHeartbeats 1000000 in
theorem norm_any (a : Option Addr) (la ca : Nat) (xs : List Nat) (w : World) (hla : xs.length = la) (hba : la ≤ 1048576) (hca : la ≤ ca) (hna : a = none → ca = 0) (hra : Rd .u64 w a xs) (bx : Bd xs) :
    Calls Tryd.prog 86 #[.slice a la ca] w (NumPost (fl xs ≤ 128) (val xs) w) := by
  have hfa := (fl_spec xs).1
  have hnum : Hid (Num (fm xs) (val xs)) := num_fm bx
  go_enter Tryd.func86, Tryd.ntmps86
  go_wp2_with fail
  refine (one_any a la ca xs _ hla (by omega) hca hra).mono ?_
  rintro e w1 ⟨hor, rfl⟩
  rcases hor with ⟨h1, a', c', rfl, g1, g2⟩ | ⟨h1, rfl⟩
  · have fa : FormOf a ca (fl xs) a' c' := ⟨g1, g2⟩
    have hra' := fa.rd hra hfa
    have hna' : Hid (a' = none → c' = 0) := fun h => ((fa.cap hca (by omega)).2 h).elim id (fun h2 => by
      rcases Nat.eq_zero_or_pos (fl xs) with h0 | hp
      · exact (fa.2 h0).2
      · rw [(fa.1 hp).2]; exact hna h2)
    have e1 : Hid ((fm xs).length = fl xs) := fm_length xs
    have HR : Hid (Rd .u64 w a' (fm xs)) := hra'
    clear fa g1 g2 hra hna hra'
    go_wp2_with fail
    refine (copied_any a' (fl xs) c' (fm xs) _ e1.out (by omega) (fun _ h => hna'.out h) HR.out).mono ?_
    rintro e w2 ⟨v, rfl, hown, hbl, hnil⟩
    have HO := Lib.hid hown
    clear hown hnil
    go_wp2
    go_ret2
    refine ⟨hbl, .inr ⟨h1, ?_, v, fm xs, rfl, HO.out, hnum.out⟩⟩
    rw [← hnum.out.len_le, e1.out]; exact h1
  · go_wp2
    go_ret2
    exact ⟨Below.refl _ _, .inl ⟨fun h => by omega, rfl⟩⟩

/-- What a call answers that tells a whole number, or that it does not fit. -/
def WPost (P : Prop) (W : Int) (w : World) (e : Ending) (w' : World) : Prop :=
  Below w.heap.size w w' ∧
  ((¬ (P ∧ W.natAbs < LIM) ∧ e = .returned (.tuple #[.agg #[.bool false, .slice none 0 0], .int .i64 3])) ∨
   (P ∧ W.natAbs < LIM ∧ ∃ a c zs, e = .returned (.tuple #[.agg #[.bool (decide (W < 0)), .slice a zs.length c], .int .i64 0]) ∧ own64 w' w.heap.size (.slice a zs.length c) zs ∧ Num zs W.natAbs))
theorem lim_fl {xs : List Nat} (bx : Bd xs) (h : val xs < LIM) : fl xs ≤ 64 := by
  have := (num_fm bx).len_le (k := 64)
  rw [fm_length] at this
  exact this.2 h
theorem lim_lt : LIM ≤ 18446744073709551616 ^ 128 := by unfold LIM; exact Nat.pow_le_pow_right (by decide) (by decide)
theorem wv_neg (n : Bool) (xs : List Nat) : (n && decide (0 < val xs)) = decide (wv n xs < 0) := by
  unfold wv; cases n <;> simp <;> omega

set_option maxHeartbeats 1000000 in
set_option maxRecDepth 100000 in
/-- The closure's part of a call, behind what layer 1 answers. -/
theorem made_any (n : Bool) (W : Int) (P : Prop) (p N : Nat) (w0 w1 : World) (v : Value) (k : Int)
    (hp : w1.cell? ⟨p, 0, none⟩ = some (.bool n)) (hb : Below w0.heap.size w0 w1) (hW : W.natAbs = N) (hn : P → (n && decide (0 < N)) = decide (W < 0))
    (hor : (¬ (P ∧ N < LIM) ∧ v = .slice none 0 0 ∧ k = 3) ∨ (P ∧ k = 0 ∧ ∃ zs, own64 w1 w0.heap.size v zs ∧ Num zs N ∧ zs.length ≤ 1048576)) :
    Calls Tryd.prog 89 #[v, .int .i64 k, .pointer (some ⟨p, 0, none⟩)] w1 fun e w' => Below w1.heap.size w1 w' ∧ WPost P W w0 e w' := by
  rcases hor with ⟨h1, rfl, rfl⟩ | ⟨hP, rfl, zs, ho, hN, hl⟩
  · refine (made_err none 0 0 p 3 w1 rfl).mono ?_
    rintro e w2 ⟨rfl, hb2⟩
    exact ⟨hb2, hb.trans (hb2.mono hb.size), .inl ⟨by rw [hW]; exact h1, rfl⟩⟩
  · obtain ⟨a, c, rfl, hr⟩ := own64.form ho
    refine (made_num n a zs.length c p N zs w1 hp rfl hl (own64.room ho).1 hr hN).mono ?_
    rintro e w2 ⟨hb2, ⟨h1, rfl⟩ | ⟨h1, rfl⟩⟩
    · exact ⟨hb2, hb.trans (hb2.mono hb.size), .inl ⟨fun h => by rw [hW] at h; exact absurd h.2 (Nat.not_lt.2 h1), rfl⟩⟩
    · refine ⟨hb2, hb.trans (hb2.mono hb.size), .inr ⟨hP, by rw [hW]; exact h1, a, c, zs, by rw [hn hP], ?_, by rw [hW]; exact hN⟩⟩
      exact own64.under ho hb2

/-- The block of a result that is told as a whole number. -/
structure RBlk (w : World) (g : Nat) : Prop where
  blk : w.heap[g]? = some (WO false none 0 0)
  c0 : w.cell? ⟨g, 0, none⟩ = some (.bool false)
  c1 : w.cell? ⟨g, 1, none⟩ = some (.slice none 0 0)
  f0 : w.frozen? ⟨g, 0, none⟩ = false
  f1 : w.frozen? ⟨g, 1, none⟩ = false
theorem rblk {w : World} {g : Nat} (h : w.heap[g]? = some (WO false none 0 0)) : RBlk w g := by
  refine ⟨h, ?_, ?_, ?_, ?_⟩ <;> unfold WO at h <;> simp [World.cell?, World.frozen?, h]
theorem RBlk.below {w w' : World} {g : Nat} (h : RBlk w g) (hb : Below w.heap.size w w') : RBlk w' g := rblk (by rw [hb.block g (lt_of_block h.blk)]; exact h.blk)
theorem results_WOset {fn : Func} {p u : Tmp} (h : fn.results = #[.cell p 44, .tmp u]) {tmps : Array Value} {w : World} {g : Nat} {n : Bool} {a : Option Addr} {la ca : Nat} {v : Value}
    (hp : tmps.getD p undef = .pointer (some ⟨g, 0, none⟩)) (hu : tmps.getD u undef = v) (hg : RBlk w g) :
    (results fn tmps).run Tryd.prog ((w.setCell ⟨g, 0, none⟩ (.bool n)).setCell ⟨g, 1, none⟩ (.slice a la ca)) = .ok (.tuple #[.agg #[.bool n, .slice a la ca], v]) ((w.setCell ⟨g, 0, none⟩ (.bool n)).setCell ⟨g, 1, none⟩ (.slice a la ca)) := by
  have h1 := heap_setCell_same w g 0 _ _ (.bool n) hg.blk
  have h2 := heap_setCell_same _ g 1 _ _ (.slice a la ca) h1
  exact results_WO2 h hp hu h2

theorem own64.aside {w : World} {B g : Nat} {v : Value} {zs : List Nat} (h : own64 w B v zs) (hg : RBlk w g) (i : Nat) (u : Value) : own64 (w.setCell ⟨g, i, none⟩ u) B v zs := by
  refine ((Chg.refl (fun k => k = g) w).setCell rfl u).owns h fun k hk he => ?_
  obtain rfl : k = g := he
  rcases h.2 with ⟨rfl, _⟩ | ⟨g', c', cur, rfl, _, hh, _⟩
  · cases hk
  · obtain rfl : g' = k := by simpa [Value.ownBlock] using hk
    have h2 := hg.blk
    rw [hh] at h2
    simp [WO] at h2
theorem WPost.told {P : Prop} {W : Int} {w w' : World} {e : Ending} (h : WPost P W w e w') : ∃ n a l c k, e = .returned (.tuple #[.agg #[.bool n, .slice a l c], .int .i64 k]) := by
  rcases h.2 with ⟨_, rfl⟩ | ⟨_, _, a, c, zs, rfl, _⟩
  · exact ⟨_, _, _, _, _, rfl⟩
  · exact ⟨_, _, _, _, _, rfl⟩
/-- The result's block is written. -/
theorem WPost.set {P : Prop} {W : Int} {w w' : World} {e : Ending} (h : WPost P W w e w') {g : Nat} (hg : RBlk w' g) (hw : w.heap.size ≤ g) (u0 u1 : Value) : WPost P W w e ((w'.setCell ⟨g, 0, none⟩ u0).setCell ⟨g, 1, none⟩ u1) := by
  refine ⟨(h.1.setCell hw u0).setCell hw u1, ?_⟩
  rcases h.2 with h1 | ⟨hP, hl, a, c, zs, he, ho, hN⟩
  · exact .inl h1
  · refine .inr ⟨hP, hl, a, c, zs, he, ?_, hN⟩
    have h1 := own64.aside ho hg 0 u0
    refine ((Chg.refl (fun k => k = g) _).setCell rfl u1).owns h1 fun k hk he => ?_
    obtain rfl : k = g := he
    rcases ho.2 with ⟨h0, _⟩ | ⟨g', c', cur, h0, _, hh, _⟩
    · rw [h0] at hk; cases hk
    · rw [h0] at hk
      obtain rfl : g' = k := by simpa [Value.ownBlock] using hk
      have h2 := hg.blk
      rw [hh] at h2
      simp [WO] at h2

set_option maxHeartbeats 1000000 in
set_option maxRecDepth 100000 in
theorem make_any (n : Bool) (a : Option Addr) (la ca : Nat) (xs : List Nat) (w : World) (hla : xs.length = la) (hba : la ≤ 1048576) (hca : la ≤ ca) (hna : a = none → ca = 0) (hra : Rd .u64 w a xs) (bx : Bd xs) :
    Calls Tryd.prog 57 #[.bool n, .slice a la ca] w (WPost True (wv n xs) w) := by
  have HN := Lib.hid hna
  have HR := Lib.hid hra
  clear hna hra
  go_enter Tryd.func57, Tryd.ntmps57
  go_wp2_with fail
  refine (maker_any n _).mono ?_
  rintro e w1 ⟨rfl, rfl⟩
  go_wp2_with fail
  refine (norm_any a la ca xs _ hla hba hca HN.out ((HR.out.alloc _).alloc _) bx).mono ?_
  rintro e w2 ⟨hb2, hor⟩
  have hb0 : Below w.heap.size w w2 := (((Below.refl _ _).alloc (Nat.le_refl _) _).alloc (by simp) _).trans (hb2.mono (by simp; omega))
  have hrb : RBlk w2 w.heap.size := RBlk.below (rblk (heap_kept (heap_new _ _) _)) hb2
  have hcl : w2.cell? ⟨w.heap.size + 1, 0, none⟩ = some (.bool n) := by
    refine below_cell hb2 _ _ ?_
    simp
  obtain ⟨v, k, rfl, hor2⟩ : ∃ v k, e = .returned (.tuple #[v, .int .i64 k]) ∧ ((¬ (True ∧ val xs < LIM) ∧ v = .slice none 0 0 ∧ k = 3) ∨ (True ∧ k = 0 ∧ ∃ zs, own64 w2 w.heap.size v zs ∧ Num zs (val xs) ∧ zs.length ≤ 1048576)) := by
    rcases hor with ⟨h1, rfl⟩ | ⟨h1, h2, v, zs, rfl, ho, hN⟩
    · refine ⟨_, _, rfl, .inl ⟨fun h => h1 ⟨?_, ?_⟩, rfl, rfl⟩⟩
      · exact Nat.le_trans (lim_fl bx h.2) (by decide)
      · exact Nat.lt_of_lt_of_le h.2 lim_lt
    · exact ⟨_, _, rfl, .inr ⟨trivial, rfl, zs, owns_base ho (by simp; omega), hN, by have := hN.len_le.2 h2; omega⟩⟩
  have HOR := Lib.hid hor2
  have HB0 := Lib.hid hb0
  have HRB := Lib.hid hrb
  have HCL := Lib.hid hcl
  clear hor hor2 hb0 hrb hcl hb2
  go_wp2_with fail
  refine (made_any n (wv n xs) True _ (val xs) w _ _ _ HCL.out HB0.out (wv_abs n xs) (fun _ => wv_neg n xs) HOR.out).mono ?_
  rintro e w3 ⟨hb3, hW⟩
  obtain ⟨n', a', l', c', k', rfl⟩ := hW.told
  have HRB3 := Lib.hid (HRB.out.below hb3)
  have HW := Lib.hid hW
  obtain ⟨_, c0, c1, f0, f1⟩ := HRB.out.below hb3
  clear hb3 hW
  go_wp2
  refine bodyPost_ret (results_WOset rfl rfl rfl HRB3.out) rfl ?_
  exact HW.out.set HRB3.out (Nat.le_refl _) _ _

theorem results_cell_one {fn : Func} {p : Tmp} {ty : TypeId} (h : fn.results = #[.cell p ty]) (tmps : Array Value) (P : Program) (w : World) :
    (results fn tmps).run P w = ((asAddr (tmps.getD p undef)).run P w).andThen fun a w₁ => (loadVar ty a).run P w₁ := by
  simp only [results, h]
  simp [Sem.run_bind, Result.andThen]
theorem results_WO1 {fn : Func} {p : Tmp} (h : fn.results = #[.cell p 44]) {tmps : Array Value} {w : World} {g : Nat} {n : Bool} {a : Option Addr} {la ca : Nat}
    (hp : tmps.getD p undef = .pointer (some ⟨g, 0, none⟩)) (hg : w.heap[g]? = some (WO n a la ca)) :
    (results fn tmps).run Tryd.prog w = .ok (.agg #[.bool n, .slice a la ca]) w := by
  rw [results_cell_one h, hp]
  simp [asAddr, Result.andThen, load_WO hg]
theorem results_WOset1 {fn : Func} {p : Tmp} (h : fn.results = #[.cell p 44]) {tmps : Array Value} {w : World} {g : Nat} {n : Bool} {a : Option Addr} {la ca : Nat}
    (hp : tmps.getD p undef = .pointer (some ⟨g, 0, none⟩)) (hg : RBlk w g) :
    (results fn tmps).run Tryd.prog ((w.setCell ⟨g, 0, none⟩ (.bool n)).setCell ⟨g, 1, none⟩ (.slice a la ca)) = .ok (.agg #[.bool n, .slice a la ca]) ((w.setCell ⟨g, 0, none⟩ (.bool n)).setCell ⟨g, 1, none⟩ (.slice a la ca)) := by
  have h1 := heap_setCell_same w g 0 _ _ (.bool n) hg.blk
  have h2 := heap_setCell_same _ g 1 _ _ (.slice a la ca) h1
  exact results_WO1 h hp h2

def IPost (z : Int) (w : World) (e : Ending) (w' : World) : Prop :=
  Below w.heap.size w w' ∧ ∃ a c zs, e = .returned (.agg #[.bool (decide (z < 0)), .slice a zs.length c]) ∧ own64 w' w.heap.size (.slice a zs.length c) zs ∧ Num zs z.natAbs

theorem neg_u64 (z : Int) (x : Nat) (hz : z.natAbs = x) (hn : z < 0) (h1 : -9223372036854775808 ≤ z) : IntKind.u64.wrap (-IntKind.u64.wrap z) = (x : Int) := by
  simp [IntKind.wrap, IntKind.signed, IntKind.bits]
  omega
theorem val_one (x : Nat) : val [x] = x := by simp [val]
theorem IPost.alloc {z : Int} {w w' : World} {e : Ending} (h : IPost z w e w') (o : Obj) : IPost z w e (w'.alloc o) := by
  obtain ⟨h0, a, c, zs, he, ho, hN⟩ := h
  exact ⟨h0.alloc h0.size _, a, c, zs, he, own64.under ho ((Below.refl _ _).alloc (Nat.le_refl _) _), hN⟩
theorem IPost.set {z : Int} {w w' : World} {e : Ending} (h : IPost z w e w') {g : Nat} (hg : RBlk w' g) (hw : w.heap.size ≤ g) (u0 u1 : Value) : IPost z w e ((w'.setCell ⟨g, 0, none⟩ u0).setCell ⟨g, 1, none⟩ u1) := by
  obtain ⟨h0, a, c, zs, he, ho, hN⟩ := h
  have hp : WPost (LIM ≤ LIM) 0 w (.returned (.int .i64 0)) w' → True := fun _ => trivial
  refine ⟨(h0.setCell hw u0).setCell hw u1, a, c, zs, he, ?_, hN⟩
  have h1 := own64.aside ho hg 0 u0
  refine ((Chg.refl (fun k => k = g) _).setCell rfl u1).owns h1 fun k hk he => ?_
  obtain rfl : k = g := he
  rcases ho.2 with ⟨h0, _⟩ | ⟨g', c', cur, h0, _, hh, _⟩
  · rw [h0] at hk; cases hk
  · rw [h0] at hk
    obtain rfl : g' = k := by simpa [Value.ownBlock] using hk
    have h2 := hg.blk
    rw [hh] at h2
    simp [WO] at h2

set_option maxHeartbeats 1000000 in
set_option maxRecDepth 100000 in
theorem int_any (z : Int) (w : World) (h1 : -9223372036854775808 ≤ z) (h2 : z ≤ 9223372036854775807) :
    Calls Tryd.prog 33 #[.int .i64 z] w (IPost z w) := by
  obtain ⟨x, hx0⟩ : ∃ x, z.natAbs = x := ⟨_, rfl⟩
  have hx : x < 18446744073709551616 := by omega
  have hlim : x < LIM := Nat.lt_of_lt_of_le hx (by unfold LIM; exact Nat.pow_le_pow_right (n := 18446744073709551616) (i := 1) (by decide) (by decide))
  have hbd : Bd [x] := Bd.nil.cons hx
  have HLIM := Lib.hid hlim
  have HBD := Lib.hid hbd
  clear hlim hbd
  by_cases hn : z < 0
  · have hq : decide (z < 0) = true := by rw [decide_eq_true_iff]; exact hn
    have hw := neg_u64 z x hx0 hn h1
    have hwv : Hid (wv true [x] = z) := by show _ = _; unfold wv; rw [val_one]; simp only [if_true]; omega
    have HZ := Lib.hid hx0
    have HQ := Lib.hid hq
    clear hx0 hn
    go_enter Tryd.func33, Tryd.ntmps33
    go_wp2_with fail
    refine (make_any true (some ⟨w.heap.size + 1, 0, none⟩) 1 1 [x] _ rfl (by decide) (by decide) (fun h => by cases h) (lit_rd _ (by simp) rfl) HBD.out).mono ?_
    rintro e w2 ⟨hb2, hor⟩
    rw [hwv.out, HZ.out] at hor
    rcases hor with ⟨h3, _⟩ | ⟨_, _, a, c, zs, rfl, ho, hN⟩
    · exact absurd ⟨trivial, HLIM.out⟩ h3
    rw [HQ.out]
    have hb0 : Below w.heap.size w w2 := (((Below.refl _ _).alloc (Nat.le_refl _) _).alloc (by simp) _).trans (hb2.mono (by simp; omega))
    have hrb : RBlk w2 w.heap.size := RBlk.below (rblk (heap_kept (heap_new _ _) _)) hb2
    have hpost : IPost z w (.returned (.agg #[.bool true, .slice a zs.length c])) w2 := ⟨hb0, a, c, zs, by rw [HQ.out], owns_base ho (by simp; omega), by rw [HZ.out]; exact hN⟩
    have hrb2 : RBlk (w2.alloc (.cells #[.bool true, .slice a zs.length c] 44)) w.heap.size := hrb.below ((Below.refl _ _).alloc (Nat.le_refl _) _)
    have HP := Lib.hid (hpost.alloc (.cells #[.bool true, .slice a zs.length c] 44))
    have HRB := Lib.hid hrb2
    obtain ⟨_, c0, c1, f0, f1⟩ := hrb2
    clear ho hN hb0 hb2 hpost hq hrb
    go_wp2
    refine bodyPost_ret (results_WOset1 rfl rfl HRB.out) rfl ?_
    exact HP.out.set HRB.out (Nat.le_refl _) _ _
  · have hq : decide (z < 0) = false := by rw [decide_eq_false_iff_not]; exact hn
    obtain rfl : z = (x : Int) := by omega
    have hwv : Hid (wv false [x] = (x : Int)) := by show _ = _; unfold wv; rw [val_one]; simp
    have HZ := Lib.hid hx0
    have HQ := Lib.hid hq
    clear hx0 hn
    go_enter Tryd.func33, Tryd.ntmps33
    go_wp2_with fail
    refine (make_any false (some ⟨w.heap.size + 1, 0, none⟩) 1 1 [x] _ rfl (by decide) (by decide) (fun h => by cases h) (lit_rd _ (by simp) rfl) HBD.out).mono ?_
    rintro e w2 ⟨hb2, hor⟩
    rw [hwv.out, HZ.out] at hor
    rcases hor with ⟨h3, _⟩ | ⟨_, _, a, c, zs, rfl, ho, hN⟩
    · exact absurd ⟨trivial, HLIM.out⟩ h3
    rw [HQ.out]
    have hb0 : Below w.heap.size w w2 := (((Below.refl _ _).alloc (Nat.le_refl _) _).alloc (by simp) _).trans (hb2.mono (by simp; omega))
    have hrb : RBlk w2 w.heap.size := RBlk.below (rblk (heap_kept (heap_new _ _) _)) hb2
    have hpost : IPost (x : Int) w (.returned (.agg #[.bool false, .slice a zs.length c])) w2 := ⟨hb0, a, c, zs, by rw [HQ.out], owns_base ho (by simp; omega), by rw [HZ.out]; exact hN⟩
    have hrb2 : RBlk (w2.alloc (.cells #[.bool false, .slice a zs.length c] 44)) w.heap.size := hrb.below ((Below.refl _ _).alloc (Nat.le_refl _) _)
    have HP := Lib.hid (hpost.alloc (.cells #[.bool false, .slice a zs.length c] 44))
    have HRB := Lib.hid hrb2
    obtain ⟨_, c0, c1, f0, f1⟩ := hrb2
    clear ho hN hb0 hb2 hpost hq hrb
    go_wp2
    refine bodyPost_ret (results_WOset1 rfl rfl HRB.out) rfl ?_
    exact HP.out.set HRB.out (Nat.le_refl _) _ _
end Go.Proofs.YthccccpcjafdcaaDoor
