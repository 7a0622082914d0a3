import Derived.Test.YthhchpmlljfpjaaGreatMP1
import Derived.Test.YthhchpmlljfpjaaGreatNfM
import Derived.Test.YthhchpmlljfpjaaGreatPuG
import Derived.Lib.SliceRun
namespace Go.Proofs.YthhchpmlljfpjaaGreat
open Go.RowKit

section
/-! The list of the states at a place: its row and its marks. -/
def ixs (X : List Nat) : List Value := X.map fun (x : Nat) => Value.int .i64 (x : Nat)
def flags (N : Nat) (X : List Nat) : List Value := (List.range N).map fun i => Value.bool (decide (i ∈ X))
@[reducible] def sl (g n c : Nat) : Value := .slice (some ⟨g, 0, none⟩) n c
theorem infoI64 : (Tryz.prog.info? 3).map (fun i => (i.zero, i.size, i.bytes)) = some (some (.int .i64 0), 1, 8) := by kernel_rfl
theorem infoBo : (Tryz.prog.info? 4).map (fun i => (i.zero, i.size, i.bytes)) = some (some (.bool false), 1, 1) := by kernel_rfl
theorem flags_at {N i : Nat} (X : List Nat) (h : i < N) : (flags N X)[i]? = some (.bool (decide (i ∈ X))) := by
  unfold flags
  simp [h]
theorem flags_len (N : Nat) (X : List Nat) : (flags N X).length = N := by simp [flags]
theorem flags_add (N j : Nat) (X : List Nat) : (flags N X).set j (.bool true) = flags N (addS X j) := by
  apply List.ext_getElem?
  intro i
  rw [List.getElem?_set]
  by_cases hN : i < N
  · rw [flags_at (addS X j) hN]
    by_cases e : j = i
    · subst e
      rw [if_pos rfl, if_pos (by rw [flags_len]; exact hN)]
      have h : j ∈ addS X j := mem_addS.2 (.inr rfl)
      rw [decide_eq_true h]
    · rw [if_neg e, flags_at X hN]
      have h : (i ∈ addS X j) ↔ i ∈ X := by rw [mem_addS]; exact or_iff_left (fun h => e h.symm)
      rw [decide_eq_decide.2 h]
  · rw [List.getElem?_eq_none (show (flags N X).length ≤ i by rw [flags_len]; omega), List.getElem?_eq_none (show (flags N (addS X j)).length ≤ i by rw [flags_len]; omega)]
    split
    · rw [if_neg (by rw [flags_len]; omega)]
    · rfl
/-- Its row (in its room) and its marks. -/
structure Cw (w : World) (lb ib N : Nat) (X : List Nat) : Prop where
  row : w.ownsRow 0 3 1 (sl lb X.length N) X.length (ixs X)
  ins : CB w 4 ib (flags N X)
  one : X.Nodup
  lt : ∀ x, x ∈ X → x < N
  ne : lb ≠ ib
theorem Cw.len {w : World} {lb ib N : Nat} {X : List Nat} (h : Cw w lb ib N X) : X.length ≤ N := len_le h.one h.lt
theorem Cw.lb {w : World} {lb ib N : Nat} {X : List Nat} (h : Cw w lb ib N X) : lb < w.heap.size := (World.ownsRow.lt h.row lb rfl).2
theorem Cw.chg {w w' : World} {lb ib N : Nat} {X : List Nat} {S : Nat → Prop} (h : Cw w lb ib N X) (hc : Chg S w w') (h1 : ¬ S lb) (h2 : ¬ S ib) : Cw w' lb ib N X :=
  ⟨hc.owns h.row fun k hk => by simp [Value.ownBlock] at hk; subst hk; exact h1, h.ins.chg hc h2, h.one, h.lt, h.ne⟩
theorem Cw.below {w w' : World} {lb ib N : Nat} {X : List Nat} (h : Cw w lb ib N X) (hb : Below w.heap.size w w') : Cw w' lb ib N X :=
  h.chg (Chg.of_below hb) (Nat.not_le.2 h.lb) (Nat.not_le.2 h.ins.lt)
theorem Cw.room {w : World} {lb ib N j : Nat} {X : List Nat} (h : Cw w lb ib N X) (hj : j < N) (hn : j ∉ X) : X.length + 1 ≤ N := by
  have h1 := addS_one (j := j) h.one
  have h2 := len_le (N := N) h1 fun x hx => by
    rcases mem_addS.1 hx with h3 | rfl
    · exact h.lt x h3
    · exact hj
  unfold addS at h2
  rw [if_neg hn] at h2
  simpa using h2
/-- One element more into a row that has room. -/
theorem wpl_appIn (T E : TypeId) (hT : Tryz.prog.underlying T = some (.slice E)) {z : Value} {bytes : Nat} (hI : (Tryz.prog.info? E).map (fun i => (i.zero, i.size, i.bytes)) = some (some z, 1, bytes))
    {w : World} {ops : Array Oper} {rest : List Oper} {o : Oper} {a : Act} {Q : Exit → Act → World → Prop} (hgd : o.guard = none) (s x : Operand)
    (ho : o.op = .call { callee := .builtin .append, args := #[s, x], argTypes := #[T, T] })
    (B g n cap : Nat) (xs : List Value) (hs : a.eval s = .slice (some ⟨g, 0, none⟩) n cap) (hown : w.ownsRow B E 1 (.slice (some ⟨g, 0, none⟩) n cap) n xs) (b : Nat) (c : Value) (hx : a.eval x = .slice (some ⟨b, 0, none⟩) 1 1)
    (hc : w.cell? ⟨b, 0, none⟩ = some c) (h1 : c.oneCell' = true) (hroom : n + 1 ≤ cap)
    (h : ∀ w', w'.ownsRow B E 1 (.slice (some ⟨g, 0, none⟩) (n + 1) cap) (n + 1) (xs ++ [c]) → w.grownBy w' (some g) →
      wpList Tryz.prog ops Q rest (a.put o.dst (.slice (some ⟨g, 0, none⟩) (n + 1) cap)) w') :
    wpList Tryz.prog ops Q (o :: rest) a w := by
  refine wpList_plain hgd fun K hK => ?_
  obtain ⟨i, hi, hz, hsz, hb⟩ := info_parts hI
  obtain ⟨w', hr, hown', hg⟩ := run_append_fits (P := Tryz.prog) w B T o.type E i 1 hT hi hsz g n cap xs hown ⟨b, 0, none⟩ 1 1 [c] rfl (fun j u hj => by
    cases j with
    | zero => simp at hj; subst hj; exact hc
    | succ j => simp at hj) (fun u hu => by simp at hu; subst hu; exact h1) hroom
  unfold Oper.wp execOp
  simp only [ho, resolve, invoke, builtin, Sem.run_bind, Sem.run_pure, Result.andThen_ok, List.map_toArray, List.map_cons, List.map_nil, hs, hx, hr]
  exact hK _ _ (h w' hown' hg)
/-- What add, empty leave: the box but for the list's slice, the row and the marks. -/
def Cret (rb off lb ib N : Nat) (cs : List Value) (X : List Nat) (w : World) (e : Ending) (w' : World) : Prop :=
  e = .returned (.tuple #[]) ∧ CB w' 79 rb (cs.set off (sl lb X.length N)) ∧ Cw w' lb ib N X ∧ Chg (fun k => k = rb ∨ k = lb ∨ k = ib) w w'
theorem set_same {cs : List Value} {i : Nat} {v : Value} (h : cs[i]? = some v) : cs.set i v = cs := by
  apply List.ext_getElem?
  intro k
  rw [List.getElem?_set]
  split
  · rename_i e
    subst e
    rw [h, if_pos (List.getElem?_eq_some_iff.1 h).1]
  · rfl
set_option maxHeartbeats 2000000 in
set_option maxRecDepth 100000 in
theorem m_add (rb off lb ib N : Nat) (cs : List Value) (X : List Nat) (j : Nat) (w : World) (hb : CB w 79 rb cs) (h0 : cs[off]? = some (sl lb X.length N)) (h1 : cs[off + 1]? = some (sl ib N N))
    (hc : Cw w lb ib N X) (hn1 : rb ≠ lb) (hn2 : rb ≠ ib) (hj : j < N) :
    Calls Tryz.prog 57 #[.pointer (some ⟨rb, off, none⟩), .int .i64 (j : Nat)] w fun e w' => Cret rb off lb ib N cs (addS X j) w e w' := by
  have c0 : w.cell? ⟨rb, off, none⟩ = some (sl lb X.length N) := (hb.cell off).trans h0
  have c1 : w.cell? ⟨rb, off + 1, none⟩ = some (sl ib N N) := (hb.cell _).trans h1
  have ci : w.cell? ⟨ib, j, none⟩ = some (.bool (decide (j ∈ X))) := (hc.ins.cell j).trans (flags_at X hj)
  have fi := hc.ins.free j
  have HB := Lib.hid hb
  have HC := Lib.hid hc
  have H0 := Lib.hid h0
  clear hb hc h0 h1
  by_cases hx : j ∈ X
  · rw [decide_eq_true hx] at ci
    go_enter Tryz.func57, Tryz.ntmps57
    go_wp2
    refine bodyPost_end (results_none rfl _ _ _) rfl ⟨rfl, ?_⟩
    unfold addS
    rw [if_pos hx, set_same H0.out]
    exact ⟨HB.out, HC.out, Chg.refl _ _⟩
  · rw [decide_eq_false hx] at ci
    have hroom := HC.out.room hj hx
    have hadd : addS X j = X ++ [j] := by unfold addS; rw [if_neg hx]
    have hfl := flags_add N j X
    have d0 : (w.setCell ⟨ib, j, none⟩ (.bool true)).cell? ⟨rb, off, none⟩ = some (sl lb X.length N) := by rw [World.cell?_setCell_other _ _ _ _ (fun e => hn2 (by injection e with e; exact e.symm))]; exact c0
    have HB1 : Hid (CB (w.setCell ⟨ib, j, none⟩ (.bool true)) 79 rb cs) := HB.out.other _ (fun e => hn2 e.symm) _
    have HI1 : Hid (CB (w.setCell ⟨ib, j, none⟩ (.bool true)) 4 ib (flags N (addS X j))) := by rw [← hfl]; exact HC.out.ins.set j _
    have HR1 : Hid ((w.setCell ⟨ib, j, none⟩ (.bool true)).ownsRow 0 3 1 (sl lb X.length N) X.length (ixs X)) := ownsRow_setCell_other HC.out.row (fun e => by simp [Value.ownBlock] at e; exact HC.out.ne e) _
    have HC1 : Hid (Chg (fun k => k = rb ∨ k = lb ∨ k = ib) w (w.setCell ⟨ib, j, none⟩ (.bool true))) := (Chg.refl _ w).setCell (p := ⟨ib, j, none⟩) (.inr (.inr rfl)) _
    have e1 : ixs X ++ [.int .i64 (j : Nat)] = ixs (X ++ [j]) := by simp [ixs]
    have hne := HC.out.ne
    rw [hadd] at HI1 ⊢
    clear hfl hadd
    go_enter Tryz.func57, Tryz.ntmps57
    go_wp2_with (at_builtin; refine wpl_appIn 74 3 Tryz.underlying74 infoI64 rfl _ _ rfl 0 lb X.length N (ixs X) rfl (HR1.out.alloc _) _ (.int .i64 (j : Nat)) rfl (World.cell?_alloc_at _ _ _ _ (by simp)) rfl hroom ?_; intro w3 hown hgr; have HO := Lib.hid hown; have HG := Lib.hid (Chg.of_grown hgr); have HB3 : Hid (CB w3 79 rb cs) := (HB1.out.alloc _).chg HG.out (fun e => hn1 (by injection e)); have y0 := (HB3.out.cell off).trans H0.out; have yf := HB3.out.free off; clear hown hgr)
    refine bodyPost_end (results_none rfl _ _ _) rfl ⟨rfl, ?_⟩
    have hl1 : (X ++ [j]).length = X.length + 1 := by simp
    rw [hl1]
    have HZ := HB3.out.set off (sl lb (X.length + 1) N)
    refine ⟨HZ, ⟨?_, ?_, ?_, ?_, hne⟩, ?_⟩
    · rw [hl1, ← e1]
      exact ownsRow_setCell_other HO.out (fun e => by simp [Value.ownBlock] at e; exact hn1 e.symm) _
    · exact CB.other ((HI1.out.alloc _).chg HG.out (fun e => hne (by injection e with e; exact e.symm))) ⟨rb, off, none⟩ hn2 _
    · have := addS_one (j := j) HC.out.one
      unfold addS at this
      rw [if_neg hx] at this
      exact this
    · intro x h
      rcases List.mem_append.1 h with h | h
      · exact HC.out.lt x h
      · simp at h; subst h; exact hj
    · exact (((HC1.out.alloc _).step (HG.out.mono (T := fun k => k = rb ∨ k = lb ∨ k = ib) fun i hi _ => .inr (.inl (by injection hi))) fun i hi _ => hi)).setCell (p := ⟨rb, off, none⟩) (.inl rfl) _
end

section
/-! A crowd made and emptied; a byte in a set. -/
theorem flags_nil (N : Nat) : flags N [] = List.replicate N (.bool false) := by
  apply List.ext_getElem?
  intro i
  by_cases h : i < N
  · rw [flags_at _ h]; simp [h]
  · rw [List.getElem?_eq_none (by rw [flags_len]; omega), List.getElem?_eq_none (by simp; omega)]
theorem splice_all {cs vs : List Value} (h : vs.length = cs.length) : splice cs 0 vs = vs := by
  simp [splice, h]
/-- 'clear' of a row of bools that is known whole. -/
theorem run_clearB {w : World} {g n : Nat} {cs : List Value} (hb : CB w 4 g cs) (hl : cs.length = n) (hn : 0 < n) :
    ∃ w', (Builtin.clear_ #[55] 0 #[sl g n n]).run Tryz.prog w = .ok (.tuple #[]) w' ∧ CB w' 4 g (flags n []) ∧ Chg (fun k => k = g) w w' := by
  obtain ⟨i, hi, hz, hsz, -⟩ := info_parts infoBo
  have hr := Lib.run_clear_slice (P := Tryz.prog) w 55 4 0 (.bool false) Tryz.underlying55 (fun W => by simp [zeroValue, typeInfo, hi, hz]) rfl rfl g 0 n n hn
    (fun j hj => by rw [Nat.zero_add, hb.cell j, List.getElem?_eq_getElem (by omega)]; rfl) (fun j _ => hb.free _)
  refine ⟨_, hr, ?_, Chg.setCells (S := fun k => k = g) rfl _ (Chg.refl _ w) 0⟩
  have := CB.setCells (List.replicate n (.bool false)) hb 0 (by simp [hl])
  rw [show splice cs 0 (List.replicate n (.bool false)) = flags n [] from (splice_all (by simp [hl])).trans (flags_nil n).symm] at this
  exact this
set_option maxHeartbeats 2000000 in
set_option maxRecDepth 100000 in
theorem m_empty (rb off lb ib N : Nat) (cs : List Value) (X : List Nat) (w : World) (hb : CB w 79 rb cs) (h0 : cs[off]? = some (sl lb X.length N)) (h1 : cs[off + 1]? = some (sl ib N N))
    (hc : Cw w lb ib N X) (hn1 : rb ≠ lb) (hn2 : rb ≠ ib) (hN : 0 < N) :
    Calls Tryz.prog 43 #[.pointer (some ⟨rb, off, none⟩)] w fun e w' => Cret rb off lb ib N cs [] w e w' := by
  have c1 : w.cell? ⟨rb, off + 1, none⟩ = some (sl ib N N) := (hb.cell _).trans h1
  have HB := Lib.hid hb
  have HC := Lib.hid hc
  have H0 := Lib.hid h0
  have hlen := hc.len
  have hne := hc.ne
  clear hb hc h0 h1
  obtain ⟨w3, hrun, hib, hgr⟩ := run_clearB HC.out.ins (flags_len N X) hN
  have HI := Lib.hid hib
  have HG := Lib.hid hgr
  have HB3 : Hid (CB w3 79 rb cs) := HB.out.chg HG.out hn2
  have y0 := (HB3.out.cell off).trans H0.out
  have yf := HB3.out.free off
  clear hib hgr
  go_enter Tryz.func43, Tryz.ntmps43
  go_wp2
  refine bodyPost_end (results_none rfl _ _ _) rfl ⟨rfl, HB3.out.set off (sl lb 0 N), ⟨?_, ?_, List.nodup_nil, fun x h => by simp at h, hne⟩, ?_⟩
  · obtain ⟨h9, h8 | ⟨g', cap', cur, hv, hbg, hg, hnc, hcm, hcs, htake⟩⟩ := HC.out.row
    · cases h8.1
    · injection hv with e1 e2 e3
      injection e1 with e1
      injection e1 with e1
      subst e1 e3
      have hgw : w3.heap[lb]? = some (.cells cur 3 (0, 0)) := HG.out.heap hg hne
      have hrow : w3.ownsRow 0 3 1 (sl lb 0 N) 0 (ixs []) := ⟨rfl, .inr ⟨lb, N, cur, rfl, hbg, hgw, Nat.zero_le _, hcm, hcs, rfl⟩⟩
      exact ownsRow_setCell_other hrow (fun e => by simp [Value.ownBlock] at e; exact hn1 e.symm) _
  · exact CB.other HI.out ⟨rb, off, none⟩ hn2 _
  · exact (HG.out.mono (T := fun k => k = rb ∨ k = lb ∨ k = ib) fun i hi _ => .inr (.inr hi)).setCell (p := ⟨rb, off, none⟩) (.inl rfl) _
set_option maxHeartbeats 1000000 in
theorem m_isIn (s : S4) (c b o : Nat) (w : World) (hs : s.fit) (hc : c < 256) (h0 : w.cell? ⟨b, o, none⟩ = some (.int .u64 (s.a : Nat))) (h1 : w.cell? ⟨b, o + 1, none⟩ = some (.int .u64 (s.b : Nat)))
    (h2 : w.cell? ⟨b, o + 2, none⟩ = some (.int .u64 (s.c : Nat))) (h3 : w.cell? ⟨b, o + 3, none⟩ = some (.int .u64 (s.d : Nat))) :
    Calls Tryz.prog 58 #[.pointer (some ⟨b, o, none⟩), .int .u8 (c : Nat)] w fun e w' => e = .returned (.bool (s.has c)) ∧ w' = w := by
  obtain ⟨q, hq⟩ : ∃ q, c / 64 = q := ⟨_, rfl⟩
  obtain ⟨r, hr⟩ : ∃ r, c % 64 = r := ⟨_, rfl⟩
  have hq4 : q < 4 := by omega
  have hr64 : r < 64 := by omega
  have eq1 : ((c : Int) / 64) = (q : Int) := by omega
  have er1 : ((c : Int) % 64) = (r : Int) := by omega
  have hx64 : s.word q < 18446744073709551616 := S4.word_lt hs q
  unfold S4.has
  rw [hq, hr]
  rcases (show q = 0 ∨ q = 1 ∨ q = 2 ∨ q = 3 by omega) with rfl | rfl | rfl | rfl
  all_goals
    unfold S4.word at hx64 ⊢
    simp only [] at hx64
    go_enter Tryz.func58, Tryz.ntmps58
    go_wp2
    go_ret
    exact ⟨ret_bool (shr_bit _ _ hx64), rfl⟩
end

section
/-! A run over a text: a byte read, the states at a place spread. -/
@[reducible] def runC (a : Option Addr) (len c q : Nat) (s : ByteArray) (l1 n1 i1 N l2 n2 i2 : Nat) : List Value :=
  [.slice a len c, .int .i64 (q : Nat), .string s, sl l1 n1 N, sl i1 N N, sl l2 n2 N, sl i2 N N]
theorem run7 {w : World} {t : TypeId} {g : Nat} {v0 v1 v2 v3 v4 v5 v6 : Value} (h : CB w t g [v0, v1, v2, v3, v4, v5, v6]) :
    w.cell? ⟨g, 0, none⟩ = some v0 ∧ w.cell? ⟨g, 1, none⟩ = some v1 ∧ w.cell? ⟨g, 2, none⟩ = some v2 ∧ w.cell? ⟨g, 3, none⟩ = some v3 ∧ w.cell? ⟨g, 4, none⟩ = some v4 ∧ w.cell? ⟨g, 5, none⟩ = some v5 ∧ w.cell? ⟨g, 6, none⟩ = some v6 :=
  ⟨h.cell 0, h.cell 1, h.cell 2, h.cell 3, h.cell 4, h.cell 5, h.cell 6⟩
/-- add, in a world in which nothing old has turned since. -/
theorem m_addW (rb off lb ib N : Nat) (cs : List Value) (X : List Nat) (j : Nat) (w : World) (hb : CB w 79 rb cs) (h0 : cs[off]? = some (sl lb X.length N)) (h1 : cs[off + 1]? = some (sl ib N N))
    (hc : Cw w lb ib N X) (hn1 : rb ≠ lb) (hn2 : rb ≠ ib) (hj : j < N) (W : World) (hW : Below w.heap.size w W) :
    Calls Tryz.prog 57 #[.pointer (some ⟨rb, off, none⟩), .int .i64 (j : Nat)] W fun e w' => Cret rb off lb ib N cs (addS X j) w e w' := by
  refine (m_add rb off lb ib N cs X j W (hb.below hW) h0 h1 (hc.below hW) hn1 hn2 hj).mono ?_
  rintro e w' ⟨h1, h2, h3, h4⟩
  exact ⟨h1, h2, h3, ((Chg.of_below hW).mono fun i hi hlt => absurd hi (Nat.not_le.2 hlt)).trans h4⟩
set_option maxHeartbeats 2000000 in
set_option maxRecDepth 100000 in
theorem m_read (rb l1 n1 i1 N l2 i2 sb so q len c : Nat) (a : Option Addr) (Y : List Nat) (s : ByteArray) (k : Int) (ss : S4) (x : Nat) (y : Int) (p : Nat) (w : World) (hb : CB w 79 rb (runC a len c q s l1 n1 i1 N l2 Y.length i2))
    (hc : Cw w l2 i2 N Y) (hn1 : rb ≠ l2) (hn2 : rb ≠ i2) (hr : w.rangeAt sb so (St.cells ⟨k, ss, x, y⟩)) (hfit : ss.fit) (hx : x < N) :
    Calls Tryz.prog 42 #[.pointer (some ⟨rb, 0, none⟩), .pointer (some ⟨sb, so, none⟩), .int .i64 (p : Nat)] w fun e w' =>
      Cret rb 5 l2 i2 N (runC a len c q s l1 n1 i1 N l2 Y.length i2) (if p < s.size ∧ ss.has (at0 (bsN s) p) = true then addS Y x else Y) w e w' := by
  obtain ⟨-, -, c2, -, -, -, -⟩ := run7 hb
  obtain ⟨r0, r1, r2, r3, r4, r5, r6⟩ := range7 hr
  have HB := Lib.hid hb
  have HC := Lib.hid hc
  have HNO : Hid (∀ n, Cret rb 5 l2 i2 N (runC a len c q s l1 n1 i1 N l2 Y.length i2) Y w (.returned (.tuple #[])) (w.drewN n)) := fun n => ⟨rfl, by rw [set_same (v := sl l2 Y.length N) rfl]; exact hb, hc.below ⟨rfl, rfl, rfl, Nat.le_refl _, fun _ _ => rfl⟩, ⟨rfl, rfl, rfl, Nat.le_refl _, fun _ _ _ => rfl⟩⟩
  clear hb hc hr
  by_cases hp : p < s.size
  · obtain ⟨b, hbb⟩ : ∃ b, at0 (bsN s) p = b := ⟨_, rfl⟩
    have x1 : ∀ W, (Instr.index 9 (.string s) (.int .i64 (p : Int))).run Tryz.prog W = .ok (.int .u8 (b : Nat)) W := idx_str 9 Tryz.underlying9 s p b hp hbb
    have hb8 : b < 256 := by rw [← hbb]; exact (bsN_8 s).at0 p
    have HIN := Lib.hid (fun n => m_isIn ss b sb (so + 1) (w.drewN n) hfit hb8 r1 r2 r3 r4)
    rw [hbb]
    by_cases hh : ss.has b = true
    · rw [if_pos ⟨hp, hh⟩]
      rw [hh] at HIN
      have HADD := Lib.hid (m_addW rb 5 l2 i2 N _ Y x w HB.out rfl rfl HC.out hn1 hn2 hx)
      go_enter Tryz.func42, Tryz.ntmps42
      go_wp2
      go_quiet ((go_at_call 58; exact Calls.quiet_of_same (HIN.out _)))
      go_wp2
      go_region_with (go_at_call 57; refine (HADD.out _ (by exact ⟨rfl, rfl, rfl, Nat.le_refl _, fun _ _ => rfl⟩)).mono ?_; intro e w2 hz; obtain ⟨rfl, -⟩ := id hz; have HZ := Lib.hid hz; clear hz)
      all_goals exact bodyPost_end (results_none rfl _ _ _) rfl HZ.out
    · rw [if_neg (fun h => hh h.2)]
      have hf : ss.has b = false := by cases h : ss.has b <;> simp_all
      rw [hf] at HIN
      go_enter Tryz.func42, Tryz.ntmps42
      go_wp2
      go_quiet ((go_at_call 58; exact Calls.quiet_of_same (HIN.out _)))
      go_wp2
      exact bodyPost_end (results_none rfl _ _ _) rfl (HNO.out _)
  · rw [if_neg (fun h => hp h.1)]
    go_enter Tryz.func42, Tryz.ntmps42
    go_wp2
    go_quiet (fail)
    go_wp2
    exact bodyPost_end (results_none rfl _ _ _) rfl (HNO.out _)
end

section
/-! The states at a place spread. -/
theorem lead2 {L : List St} {b e : Prop} {i : Nat} {s : St} (hs : L[i]? = some s) (hk : s.k = 2) (j : Nat) : Lead L b e i j ↔ j = s.x.toNat ∨ j = s.y.toNat := by
  constructor
  · rintro ⟨t, ht, h⟩
    rw [hs] at ht
    injection ht with ht
    subst ht
    rcases h with h | h | h
    · exact h.2
    · exact absurd h.1 (by omega)
    · exact absurd h.1 (by omega)
  · exact fun h => ⟨s, hs, .inl ⟨hk, h⟩⟩
theorem lead3 {L : List St} {b e : Prop} {i : Nat} {s : St} (hs : L[i]? = some s) (hk : s.k = 3) (j : Nat) : Lead L b e i j ↔ b ∧ j = s.x.toNat := by
  constructor
  · rintro ⟨t, ht, h⟩
    rw [hs] at ht
    injection ht with ht
    subst ht
    rcases h with h | h | h
    · exact absurd h.1 (by omega)
    · exact h.2
    · exact absurd h.1 (by omega)
  · exact fun h => ⟨s, hs, .inr (.inl ⟨hk, h⟩)⟩
theorem lead4 {L : List St} {b e : Prop} {i : Nat} {s : St} (hs : L[i]? = some s) (hk : s.k = 4) (j : Nat) : Lead L b e i j ↔ e ∧ j = s.x.toNat := by
  constructor
  · rintro ⟨t, ht, h⟩
    rw [hs] at ht
    injection ht with ht
    subst ht
    rcases h with h | h | h
    · exact absurd h.1 (by omega)
    · exact absurd h.1 (by omega)
    · exact h.2
  · exact fun h => ⟨s, hs, .inr (.inr ⟨hk, h⟩)⟩
theorem lead15 {L : List St} {b e : Prop} {i : Nat} {s : St} (hs : L[i]? = some s) (hk : s.k = 1 ∨ s.k = 5) (j : Nat) : ¬ Lead L b e i j := by
  rintro ⟨t, ht, h⟩
  rw [hs] at ht
  injection ht with ht
  subst ht
  rcases h with h | h | h
  all_goals exact absurd h.1 (by omega)
theorem Spr.two {L : List St} {q : Nat} {T : List Nat} {p i x : Nat} {X : List Nat} {s : St} (h : Spr L q T p i X) (hx : X[i]? = some x) (hs : L[x]? = some s) (hk : s.k = 2) :
    Spr L q T p (i + 1) (addS (addS X s.x.toNat) s.y.toNat) :=
  h.step hx (addS_one (addS_one h.one)) (fun _ _ h => addS_get (addS_get h)) fun j => by rw [mem_addS, mem_addS, lead2 hs hk, or_assoc]
theorem Spr.begin {L : List St} {q : Nat} {T : List Nat} {p i x : Nat} {X : List Nat} {s : St} (h : Spr L q T p i X) (hp : p = 0) (hx : X[i]? = some x) (hs : L[x]? = some s) (hk : s.k = 3) :
    Spr L q T p (i + 1) (addS X s.x.toNat) :=
  h.step hx (addS_one h.one) (fun _ _ h => addS_get h) fun j => by rw [mem_addS, lead3 hs hk]; simp [hp]
theorem Spr.fin {L : List St} {q : Nat} {T : List Nat} {p i x : Nat} {X : List Nat} {s : St} (h : Spr L q T p i X) (hp : p = T.length) (hx : X[i]? = some x) (hs : L[x]? = some s) (hk : s.k = 4) :
    Spr L q T p (i + 1) (addS X s.x.toNat) :=
  h.step hx (addS_one h.one) (fun _ _ h => addS_get h) fun j => by rw [mem_addS, lead4 hs hk]; simp [hp]
theorem Spr.no {L : List St} {q : Nat} {T : List Nat} {p i x : Nat} {X : List Nat} {s : St} (h : Spr L q T p i X) (hx : X[i]? = some x) (hs : L[x]? = some s)
    (hk : s.k = 1 ∨ s.k = 5 ∨ (s.k = 3 ∧ p ≠ 0) ∨ (s.k = 4 ∧ p ≠ T.length)) : Spr L q T p (i + 1) X :=
  h.step hx h.one (fun _ _ h => h) fun j => by
    refine ⟨.inl, fun h => h.elim id fun hl => ?_⟩
    rcases hk with hk | hk | ⟨hk, hp⟩ | ⟨hk, hp⟩
    · exact absurd hl (lead15 hs (.inl hk) j)
    · exact absurd hl (lead15 hs (.inr hk) j)
    · exact absurd ((lead3 hs hk j).1 hl).1 hp
    · exact absurd ((lead4 hs hk j).1 hl).1 hp
/-- The states at a place, put up as far as the place ahead has led. -/
structure SprW (w wr : World) (rb l1 i1 N l2 n2 i2 : Nat) (a : Option Addr) (len c q : Nat) (s : ByteArray) (X : List Nat) : Prop where
  box : CB wr 79 rb (runC a len c q s l1 X.length i1 N l2 n2 i2)
  cw : Cw wr l1 i1 N X
  chg : Chg (fun k => k = rb ∨ k = l1 ∨ k = i1) w wr
theorem SprW.add {w wr w2 : World} {rb l1 i1 N l2 n2 i2 : Nat} {a : Option Addr} {len c q : Nat} {s : ByteArray} {X Y : List Nat} {e : Ending} (h : SprW w wr rb l1 i1 N l2 n2 i2 a len c q s X)
    (hz : Cret rb 3 l1 i1 N (runC a len c q s l1 X.length i1 N l2 n2 i2) Y wr e w2) : SprW w w2 rb l1 i1 N l2 n2 i2 a len c q s Y :=
  ⟨hz.2.1, hz.2.2.1, h.chg.trans hz.2.2.2⟩
theorem SprW.drewN {w wr : World} {rb l1 i1 N l2 n2 i2 : Nat} {a : Option Addr} {len c q : Nat} {s : ByteArray} {X : List Nat} (h : SprW w wr rb l1 i1 N l2 n2 i2 a len c q s X) (n : Nat) :
    SprW w (wr.drewN n) rb l1 i1 N l2 n2 i2 a len c q s X :=
  ⟨h.box, h.cw.below ⟨rfl, rfl, rfl, Nat.le_refl _, fun _ _ => rfl⟩, h.chg.trans ⟨rfl, rfl, rfl, Nat.le_refl _, fun _ _ _ => rfl⟩⟩
theorem SprW.addW {w wr : World} {rb l1 i1 N l2 n2 i2 : Nat} {a : Option Addr} {len c q : Nat} {s : ByteArray} {X : List Nat} (h : SprW w wr rb l1 i1 N l2 n2 i2 a len c q s X) (hn1 : rb ≠ l1) (hn2 : rb ≠ i1) (j : Nat) (hj : j < N) (W : World) (hW : Below wr.heap.size wr W) :
    Calls Tryz.prog 57 #[.pointer (some ⟨rb, 3, none⟩), .int .i64 (j : Nat)] W fun e w' => e = .returned (.tuple #[]) ∧ SprW w w' rb l1 i1 N l2 n2 i2 a len c q s (addS X j) ∧ Chg (fun k => k = rb ∨ k = l1 ∨ k = i1) wr w' :=
  (m_addW rb 3 l1 i1 N _ X j wr h.box rfl rfl h.cw hn1 hn2 hj W hW).mono fun _ _ hz => ⟨hz.1, h.add hz, hz.2.2.2⟩
theorem ixs_get {X : List Nat} {i x : Nat} (h : X[i]? = some x) : (ixs X)[i]? = some (.int .i64 (x : Nat)) := by simp [ixs, h]
theorem ixs_len (X : List Nat) : (ixs X).length = X.length := by simp [ixs]
/-- What is read in a round: the box, the place's state in the list, its cells. -/
theorem SprW.reads {w wr : World} {rb l1 i1 N l2 n2 i2 : Nat} {a : Option Addr} {len c q : Nat} {s : ByteArray} {X : List Nat} {L : List St} (h : SprW w wr rb l1 i1 N l2 n2 i2 a len c q s X)
    (hr : RowAt w a (L.flatMap St.cells)) (ha : ∀ b, a = some b → b.block ≠ rb ∧ b.block ≠ l1 ∧ b.block ≠ i1) {i x : Nat} (hx : X[i]? = some x) (hxl : x < L.length) :
    wr.cell? ⟨l1, i, none⟩ = some (.int .i64 (x : Nat)) ∧ ∃ b off, a = some ⟨b, off, none⟩ ∧ b ≠ rb ∧ b ≠ l1 ∧ b ≠ i1 ∧ wr.rangeAt b (off + x * 7) (L[x]).cells := by
  refine ⟨?_, ?_⟩
  · rw [World.ownsRow.cellAt h.cw.row i (by rw [Nat.mul_one]; exact (List.getElem?_eq_some_iff.1 hx).1)]
    exact ixs_get hx
  · obtain ⟨b, off, rfl, hra⟩ := st_elem hr hxl
    obtain ⟨h1, h2, h3⟩ := ha _ rfl
    exact ⟨b, off, rfl, h1, h2, h3, fun j v hv => h.chg.cell (hra j v hv) fun e => e.elim h1 fun e => e.elim h2 h3⟩
end
end Go.Proofs.YthhchpmlljfpjaaGreat
