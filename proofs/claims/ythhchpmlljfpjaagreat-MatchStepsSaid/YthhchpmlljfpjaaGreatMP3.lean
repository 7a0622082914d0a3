import Derived.Test.YthhchpmlljfpjaaGreatMP2
namespace Go.Proofs.YthhchpmlljfpjaaGreat
open Go.RowKit

section
/-! A crowd made, a run made. -/
theorem infoCr : (Tryz.prog.info? 76).map (·.size) = some 2 := by kernel_rfl
theorem make_ints (n : Nat) (hn : n ≤ 4096) : ∃ cs : Array Value, (∀ W : World, (Instr.makeSlice 74 (.int .i64 0) (.int .i64 (n : Int))).run Tryz.prog W = .ok (.slice (some ⟨W.heap.size, 0, none⟩) 0 n) (W.alloc (.cells cs 3))) ∧
    ∀ (W : World), (W.alloc (.cells cs 3)).ownsRow 0 3 1 (sl W.heap.size 0 n) 0 [] := by
  obtain ⟨i, hi, hz, hsz, hb⟩ := info_parts infoI64
  refine ⟨madeCells (Value.int .i64 0).cells (n * i.size), fun W => ?_, fun W => ?_⟩
  · have hr := run_make (P := Tryz.prog) W 74 3 i (.int .i64 0) Tryz.underlying74 hi hz .i64 .i64 0 n (Int.le_refl _) (by omega) (by rw [hb]; omega) (by omega)
    simp only [Int.toNat_zero, Int.toNat_natCast] at hr
    exact hr
  · rw [hsz]
    exact World.ownsRow_made W (madeCells (Value.int .i64 0).cells (n * 1)) n (Nat.zero_le _) (by simp only [maxLen]; omega) (size_madeCells _ _)
theorem make_bools (n : Nat) (hn : n ≤ 4096) (W : World) : (Instr.makeSlice 55 (.int .i64 (n : Int)) (.int .i64 (n : Int))).run Tryz.prog W = .ok (.slice (some ⟨W.heap.size, 0, none⟩) n n) (W.alloc (.cells (flags n []).toArray 4)) := by
  obtain ⟨i, hi, hz, hsz, hb⟩ := info_parts infoBo
  have hr := run_make (P := Tryz.prog) W 55 4 i (.bool false) Tryz.underlying55 hi hz .i64 .i64 n n (by omega) (by omega) (by rw [hb]; omega) (by omega)
  simp only [Int.toNat_natCast, hsz, Nat.mul_one] at hr
  have hc : madeCells (Value.bool false).cells n = (flags n []).toArray := by
    apply Array.toList_inj.1
    rw [flags_nil]
    exact toList_madeCells_one (.bool false) n
  rw [hc] at hr
  exact hr
theorem Cw.make1 {N : Nat} {cs : Array Value} (h : ∀ W : World, (W.alloc (.cells cs 3)).ownsRow 0 3 1 (sl W.heap.size 0 N) 0 []) (W : World) (g : Nat) (hg : W.heap.size = g) :
    Cw (((W.alloc (.cells cs 3)).alloc (.cells (flags N []).toArray 4)).drew) g (g + 1) N [] := by
  subst hg
  refine ⟨(h W).alloc _, ?_, List.nodup_nil, fun x hx => by simp at hx, by omega⟩
  have := CB.new (W.alloc (.cells cs 3)) 4 (flags N [])
  rw [World.size_alloc] at this
  exact this
theorem Cw.make2 {N : Nat} {cs : Array Value} (h : ∀ W : World, (W.alloc (.cells cs 3)).ownsRow 0 3 1 (sl W.heap.size 0 N) 0 []) (W : World) (g : Nat) (hg : W.heap.size = g) :
    Cw (((W.alloc (.cells (flags N []).toArray 4)).alloc (.cells cs 3)).drew) (g + 1) g N [] := by
  subst hg
  refine ⟨?_, (CB.new W 4 (flags N [])).alloc _, List.nodup_nil, fun x hx => by simp at hx, by omega⟩
  have := h (W.alloc (.cells (flags N []).toArray 4))
  rw [World.size_alloc] at this
  exact this
/-- What newCrowd tells. -/
def NewC (N : Nat) (w : World) (e : Ending) (w' : World) : Prop := Below w.heap.size w w' ∧ ∃ lb ib, e = .returned (.agg #[sl lb 0 N, sl ib N N]) ∧ Cw w' lb ib N [] ∧ w.heap.size ≤ lb ∧ w.heap.size ≤ ib
set_option maxHeartbeats 2000000 in
set_option maxRecDepth 100000 in
theorem m_newCrowd (N : Nat) (w : World) (hN : N ≤ 4096) : Calls Tryz.prog 40 #[.int .i64 (N : Nat)] w fun e w' => NewC N w e w' := by
  obtain ⟨cs, hmk, hown⟩ := make_ints N hN
  have hmb := make_bools N hN
  have HO := Lib.hid hown
  clear hown
  go_enter Tryz.func40, Tryz.ntmps40
  go_wp2
  go_region
  all_goals go_wp2
  · refine bodyPost_ret (ret_row rfl rfl (cs := [sl (w.heap.size + 1) 0 N, sl (w.heap.size + 1 + 1) N N]) (((CB.new w 76 _).alloc _).alloc _) _ Tryz.underlying76 rfl infoCr) rfl ⟨?_, _, _, rfl, Cw.make1 HO.out _ _ (World.size_alloc _ _), by omega, by omega⟩
    exact ((((Below.refl _ _).alloc (Nat.le_refl _) _).alloc (by simp) _).alloc (by simp; omega) _).drew
  · refine bodyPost_ret (ret_row rfl rfl (cs := [sl (w.heap.size + 1 + 1) 0 N, sl (w.heap.size + 1) N N]) (((CB.new w 76 _).alloc _).alloc _) _ Tryz.underlying76 rfl infoCr) rfl ⟨?_, _, _, rfl, Cw.make2 HO.out _ _ (World.size_alloc _ _), by omega, by omega⟩
    exact ((((Below.refl _ _).alloc (Nat.le_refl _) _).alloc (by simp) _).alloc (by simp; omega) _).drew
end

section
/-- A run that is made: its box, two crowds without a state, all apart and new. -/
structure RunM (w w' : World) (rb l1 i1 N l2 i2 : Nat) (a : Option Addr) (c q : Nat) (s : ByteArray) : Prop where
  chg : Below w.heap.size w w'
  box : CB w' 79 rb (runC a N c q s l1 0 i1 N l2 0 i2)
  one : Cw w' l1 i1 N []
  two : Cw w' l2 i2 N []
  r1 : rb ≠ l1 ∧ rb ≠ i1 ∧ rb ≠ l2 ∧ rb ≠ i2
  r2 : l1 ≠ l2 ∧ l1 ≠ i2 ∧ i1 ≠ l2 ∧ i1 ≠ i2
  new : w.heap.size ≤ rb ∧ w.heap.size ≤ l1 ∧ w.heap.size ≤ i1 ∧ w.heap.size ≤ l2 ∧ w.heap.size ≤ i2
theorem run_made {w W w1 w2 : World} {l1 i1 l2 i2 N c q : Nat} {a : Option Addr} {s : ByteArray} (h0 : Below w.heap.size w W) (h1 : Below W.heap.size W w1) (c1 : Cw w1 l1 i1 N []) (a1 : W.heap.size ≤ l1) (b1 : W.heap.size ≤ i1)
    (h2 : Below w1.heap.size w1 w2) (c2 : Cw w2 l2 i2 N []) (a2 : w1.heap.size ≤ l2) (b2 : w1.heap.size ≤ i2) :
    RunM w (w2.alloc (.cells (runC a N c q s l1 0 i1 N l2 0 i2).toArray 79)) w2.heap.size l1 i1 N l2 i2 a c q s ∧ RunM w (w2.alloc (.cells (runC a N c q s l2 0 i2 N l1 0 i1).toArray 79)) w2.heap.size l2 i2 N l1 i1 a c q s := by
  have s0 := h0.size
  have s1 := h1.size
  have s2 := h2.size
  have x1 := c1.lb
  have x2 := c1.ins.lt
  have x3 := c2.lb
  have x4 := c2.ins.lt
  have hB : Below w.heap.size w w2 := (h0.trans (h1.mono s0)).trans (h2.mono (by omega))
  have d1 := c1.below h2
  refine ⟨⟨hB.alloc (by omega) _, CB.new _ _ _, ?_, ?_, by omega, by omega, by omega⟩, ⟨hB.alloc (by omega) _, CB.new _ _ _, ?_, ?_, by omega, by omega, by omega⟩⟩
  · exact d1.below ((Below.refl _ _).alloc (Nat.le_refl _) _)
  · exact c2.below ((Below.refl _ _).alloc (Nat.le_refl _) _)
  · exact c2.below ((Below.refl _ _).alloc (Nat.le_refl _) _)
  · exact d1.below ((Below.refl _ _).alloc (Nat.le_refl _) _)
set_option maxHeartbeats 2000000 in
set_option maxRecDepth 100000 in
theorem m_newRun (N c q : Nat) (a : Option Addr) (s : ByteArray) (w : World) (hN : N ≤ 4096) :
    Calls Tryz.prog 23 #[.agg #[.slice a N c, .int .i64 (q : Nat)], .string s] w fun e w' => ∃ rb l1 i1 l2 i2, e = .returned (.pointer (some ⟨rb, 0, none⟩)) ∧ RunM w w' rb l1 i1 N l2 i2 a c q s := by
  have hnc := fun W => m_newCrowd N W hN
  have HNC := Lib.hid hnc
  have HMARK : Hid True := trivial
  have HNFA : Hid (CB (w.alloc (.cells #[.slice a N c, .int .i64 (q : Nat)] 24)) 24 w.heap.size [.slice a N c, .int .i64 (q : Nat)]) := CB.new w _ [.slice a N c, .int .i64 (q : Nat)]
  clear hnc
  go_enter Tryz.func23, Tryz.ntmps23
  go_wp2
  go_region_with (first | (go_at_call 40; clear HMARK; refine (HNC.out _).mono ?_; rintro e w1 ⟨hb1, l1, i1, rfl, hc1, ha1, ha2⟩; have HB1 := Lib.hid hb1; have HC1 := Lib.hid hc1; have HA1 := Lib.hid ha1; have HA2 := Lib.hid ha2; have hn1 := CB.below (show CB _ 24 w.heap.size [.slice a N c, .int .i64 (q : Nat)] by exact HNFA.out) hb1; obtain ⟨⟨z0, z1⟩, -⟩ := CB.two hn1; have HN1 := Lib.hid hn1; clear hn1; clear hb1 hc1 ha1 ha2) | (go_at_call 40; refine (HNC.out _).mono ?_; rintro e w2 ⟨hb2, l2, i2, rfl, hc2, ha3, ha4⟩; have HB2 := Lib.hid hb2; have HC2 := Lib.hid hc2; have HA3 := Lib.hid ha3; have HA4 := Lib.hid ha4; have hn2 := CB.below HN1.out hb2; obtain ⟨⟨z2, z3⟩, -⟩ := CB.two hn2; clear hn2; clear hb2 hc2 ha3 ha4))
  all_goals
    go_wp2
    go_ret
    first
      | exact ⟨_, l1, i1, l2, i2, rfl, (run_made (((Below.refl _ _).alloc (Nat.le_refl _) _).drew) HB1.out HC1.out HA1.out HA2.out HB2.out HC2.out HA3.out HA4.out).1⟩
      | exact ⟨_, l2, i2, l1, i1, rfl, (run_made (((Below.refl _ _).alloc (Nat.le_refl _) _).drew) HB1.out HC1.out HA1.out HA2.out HB2.out HC2.out HA3.out HA4.out).2⟩
end
end Go.Proofs.YthhchpmlljfpjaaGreat
