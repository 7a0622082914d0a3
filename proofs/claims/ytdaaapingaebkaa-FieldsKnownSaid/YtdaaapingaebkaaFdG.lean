import Derived.Test.YtdaaapingaebkaaFdF
namespace Go.Proofs.Ytdaaapingaebkaa
open Go.RowKit

/-! fields: a text cut into its fields, line by line. -/
theorem wpl_loadC {w : World} {ops : Array Oper} {rest : List Oper} {o : Oper} {a : Act} {Q : Exit → Act → World → Prop} (ty : TypeId) (x : Operand) (ho : o.op = .load ty x) (hgd : o.guard = none)
    {t : TypeId} {g : Nat} {cs : List Value} (hc : CB w t g cs) (hx : a.eval x = .pointer (some ⟨g, 0, none⟩)) (d : TypeDesc) (hu : Try.prog.underlying ty = some d) (hd : d.isRow = true) (hi : (Try.prog.info? ty).map (·.size) = some cs.length)
    (h : wpList Try.prog ops Q rest (a.put o.dst (.agg cs.toArray)) w) : wpList Try.prog ops Q (o :: rest) a w := by
  refine wpList_plain hgd fun K hK => ?_
  exact wp_loadc ty x ho g 0 cs.length hx hc d hu hd hi (by omega) cs (by simp) (hK _ _ h)
/-- What the cut tells. -/
def SRet (r : Res) (w : World) (e : Ending) (w' : World) : Prop :=
  ((∃ i c : Nat, r = .bad i c ∧ c ≠ 0 ∧ e = .returned (.tuple #[.slice none 0 0, .int .i64 (i : Nat), .int .i64 (c : Nat)])) ∨
    (∃ fs a cap, r = .ok fs ∧ 0 < fs.length ∧ fs.length ≤ 65536 ∧ e = .returned (.tuple #[.slice a fs.length cap, .int .i64 0, .int .i64 0]) ∧ w'.ownsRow w.heap.size 28 4 (.slice a fs.length cap) fs.length (fs.flatMap Fd.cells))) ∧ Below w.heap.size w w'
/-- At a line. -/
structure CutI (w : World) (s : ByteArray) (i : Nat) (fs : List Fd) (v : Value) (wr : World) : Prop where
  walk : walk (bsN s) i fs = walk (bsN s) 0 []
  ok : KOk fs
  len : fs.length ≤ i
  row : wr.ownsRow (w.heap.size + 1) 28 4 v fs.length (fs.flatMap Fd.cells)
  kb : CB wr 52 w.heap.size (kK fs)
  below : Below w.heap.size w wr
theorem CutI.under {w : World} {s : ByteArray} {i : Nat} {fs : List Fd} {v : Value} {wr w' : World} (h : CutI w s i fs v wr) (hb : Below wr.heap.size wr w') : CutI w s i fs v w' :=
  ⟨h.walk, h.ok, h.len, (Chg.of_below hb).ownsS h.row fun k hk => (by have := World.ownsRow.lt h.row k hk; omega), CB.below h.kb hb, bel_next h.below hb⟩
theorem CutI.rowW {w : World} {s : ByteArray} {i : Nat} {fs : List Fd} {v : Value} {w1 w4 w5 : World} {o : Obj} (h : CutI w s i fs v w1) (hb : Below (w1.alloc o).heap.size (w1.alloc o) w4) (hst : Chg (fun k => k = w.heap.size) w4 w5) (o2 : Obj) :
    (w5.alloc o2).ownsRow (w.heap.size + 1) 28 4 v fs.length (fs.flatMap Fd.cells) ∧ Below w.heap.size w (w5.alloc o2) := by
  have h4 := (h.under ((Below.refl _ _).alloc (Nat.le_refl _) o)).under hb
  have hl := World.ownsRow.lt h4.row
  have h5 := hst.ownsS h4.row fun k hk e => (by have := hl k hk; omega)
  refine ⟨World.ownsRow.alloc h5 o2, bel_alloc (bel_store h4.below hst (Nat.le_refl _)) o2⟩
theorem CutI.push {w : World} {s : ByteArray} {i z : Nat} {fs : List Fd} {f : Fd} {v v' : Value} {w1 w4 w5 w6 w7 : World} {o o2 : Obj} (h : CutI w s i fs v w1) (hb : Below (w1.alloc o).heap.size (w1.alloc o) w4) (hst : Chg (fun k => k = w.heap.size) w4 w5)
    (hk : CB w5 52 w.heap.size (kK (fs ++ [f]))) (hgr : (w5.alloc o2).grownBy w6 v.ownBlock) (hown : w6.ownsRow (w.heap.size + 1) 28 4 v' (fs.length + 1) (fs.flatMap Fd.cells ++ f.cells)) (h7 : Below w6.heap.size w6 w7)
    (hw : Go.Proofs.Ytdaaapingaebkaa.walk (bsN s) z (fs ++ [f]) = Go.Proofs.Ytdaaapingaebkaa.walk (bsN s) 0 []) (hf1 : 1 ≤ f.k) (hf7 : f.k ≤ 7) (hz : i < z) : CutI w s z (fs ++ [f]) v' w7 := by
  obtain ⟨hrow, hbel⟩ := h.rowW hb hst o2
  have hl := World.ownsRow.lt hrow
  have hk6 : CB w6 52 w.heap.size (kK (fs ++ [f])) := CB.chg (CB.alloc hk o2) (Chg.of_grown hgr) fun e => by have := hl _ e.symm; omega
  have hb6 : Below w.heap.size w w6 := hbel.trans ((Chg.of_grown hgr).below hbel.size fun k hk => by have := hl _ hk.symm; omega)
  have hc : CutI w s z (fs ++ [f]) v' w6 := ⟨hw, h.ok.app f hf1 hf7, by have := h.len; simp; omega, by
    rw [List.length_append, List.length_singleton, List.flatMap_append, List.flatMap_cons, List.flatMap_nil, List.append_nil]; exact hown, hk6, hb6⟩
  exact hc.under h7
set_option maxHeartbeats 4000000 in
set_option maxRecDepth 100000 in
theorem f_fields (s : ByteArray) (n : Nat) (w : World) (hn : s.size = n) (hbig : n ≤ 65536) :
    Calls Try.prog 32 #[.string s] w fun e w' => SRet ((walk (bsN s) 0 []).fin n) w e w' := by
  have hsl : (bsN s).length = n := by rw [bsN_len, hn]
  have HSL := Lib.hid hsl
  have HI0 : Hid (CutI w s 0 [] (.slice none 0 0) (w.alloc (.cells (kL false false false false false false false).toArray 52))) :=
    ⟨rfl, fun f hf => (by cases hf), Nat.le_refl _, ⟨rfl, .inl ⟨rfl, rfl⟩⟩, CB.new w _ _, bel_alloc (Below.refl _ _) _⟩
  clear hsl
  go_enter Try.func32, Try.ntmps32
  go_wp2
  go_step3
  go_wp2
  go_step3
  go_wp2
  go_loopw [5, 7] (fun v5 v7 wr => ∃ (i : Nat) (fs : List Fd), i ≤ n ∧ v7 = .int .i64 (i : Nat) ∧ Hid (CutI w s i fs v5 wr)) (fun _ v7 _ => n - (intOf v7).toNat)
  case atStart => exact ⟨0, [], Nat.zero_le _, rfl, HI0.out⟩
  case round =>
    obtain ⟨i, fs, hi, rfl, HI⟩ := hrel
    by_cases hin : i = n
    · subst hin
      have hW : walk (bsN s) 0 [] = if hasK 2 fs then .ok fs else .bad (bsN s).length 134 := by
        rw [← HI.out.walk]; exact walk_end (by rw [HSL.out]; exact Nat.le_refl _)
      rw [HSL.out] at hW
      obtain ⟨b2, hb2⟩ : ∃ b, hasK 2 fs = b := ⟨_, rfl⟩
      have z2 : wr.cell? ⟨w.heap.size, 2, none⟩ = some (.bool b2) := by rw [← hb2]; exact CB.cell HI.out.kb 2
      have c3 : ((i : Int) == (i : Int)) = true := beq_self_eq_true _
      rw [hb2] at hW
      cases b2 with
      | false =>
        have HW : Hid (walk (bsN s) 0 [] = .bad i 134) := hW
        clear hW hb2
        go_wp2
        rw [Exit.noGoto_ret]
        go_ret3
        exact ⟨.inl ⟨i, 134, by rw [HW.out]; rfl, by decide, rfl⟩, HI.out.below⟩
      | true =>
        have HW : Hid (walk (bsN s) 0 [] = .ok fs) := hW
        have hpos : 0 < fs.length := by
          cases fs with
          | nil => cases hb2
          | cons f r => simp
        obtain ⟨a0, cp0, rfl⟩ := own_slice HI.out.row
        have HE := Lib.hid (f_end fs (w.heap.size + 1) i _ wr HI.out.row (by have := HI.out.len; omega))
        clear hW hb2
        go_wp2_with (go_at_call 42; refine HE.out.mono ?_; rintro e w1 ⟨rfl, hown, hch⟩; have HO := Lib.hid hown; have HCH := Lib.hid hch; clear hown hch)
        rw [Exit.noGoto_ret]
        go_ret3
        have hel := ends_len i fs
        refine ⟨.inr ⟨ends i fs, a0, cp0, by rw [HW.out]; rfl, by omega, by have := HI.out.len; omega, by rw [hel]; rfl, ?_⟩, ?_⟩
        · rw [hel]
          exact ownsS_base HO.out (by omega)
        · exact HI.out.below.trans (HCH.out.below HI.out.below.size fun k hk => by have := World.ownsRow.lt HI.out.row k hk; omega)
    · obtain ⟨c, hc⟩ : ∃ c, at0 (bsN s) i = c := ⟨_, rfl⟩
      have x1 : ∀ W, (Instr.index 9 (.string s) (.int .i64 (i : Int))).run Try.prog W = .ok (.int .u8 (c : Nat)) W := idx_str 9 Try.underlying9 s i c (by omega) hc
      have c1 : (0 : Int) ≤ (i : Int) := by omega
      have c2 : (i : Int) < (s.size : Int) := by omega
      have c3 : ((i : Int) == (n : Int)) = false := by simp; omega
      have HCC := Lib.hid hc
      obtain ⟨z, hz⟩ : ∃ z, z = i + behL ((bsN s).drop i) := ⟨_, rfl⟩
      have HBL := Lib.hid (fun W => f_behindLine s n i z W hn hbig hi hz)
      have hdne : (bsN s).drop i ≠ [] := fun e => by have := congrArg List.length e; rw [List.length_drop, HSL.out] at this; simp at this; omega
      have hbp := behL_pos hdne
      have hble := behL_le ((bsN s).drop i)
      rw [List.length_drop, HSL.out] at hble
      have hz1 : i < z := by omega
      have hzn : z ≤ n := by omega
      have HZ := Lib.hid hz
      clear hc hz hdne hbp hble
      by_cases hgo : goesB c = true
      · have HG : Hid (∀ W, Calls Try.prog 31 #[.int .u8 (c : Nat)] W fun e w' => e = .returned (.bool true) ∧ w' = W) := fun W => by have := f_goesOn c W; rw [hgo] at this; exact this
        have HW : Hid (walk (bsN s) z fs = walk (bsN s) 0 []) := by
          show walk _ _ _ = _
          rw [HZ.out, ← walk_goes (by rw [HSL.out]; omega) (by rw [HCC.out]; exact hgo)]
          exact HI.out.walk
        clear hgo
        go_wp2_with (first | (go_at_call 31; refine (HG.out _).mono ?_; rintro e w1 ⟨rfl, rfl⟩) | (go_at_call 39; refine (HBL.out _).mono ?_; rintro e w1 ⟨rfl, hb1⟩))
        go_roundw
        case rel =>
          have hI := HI.out.under hb1
          exact ⟨z, fs, hzn, rfl, HW.out, hI.ok, by have := hI.len; omega, hI.row, hI.kb, hI.below⟩
        case measure => simp [intOf]; omega
      · have hgo2 : goesB c = false := by simpa using hgo
        have HG : Hid (∀ W, Calls Try.prog 31 #[.int .u8 (c : Nat)] W fun e w' => e = .returned (.bool false) ∧ w' = W) := fun W => by have := f_goesOn c W; rw [hgo2] at this; exact this
        have HGO : Hid (goesB (at0 (bsN s) i) = false) := by show _ = _; rw [HCC.out]; exact hgo2
        have HBE := Lib.hid (fun W => f_begun s n i W hn hbig hi)
        clear hgo hgo2
        go_wp2_with (go_at_call 31; refine (HG.out _).mono ?_; rintro e w1 ⟨rfl, rfl⟩)
        refine (HBE.out _).mono ?_
        rintro e w1 ⟨⟨k, fa, fb, hbeg, hk1, hk7, rfl⟩ | ⟨hbeg, rfl⟩, hb1⟩
        · have HWI : Hid (∀ W, Calls Try.prog 41 #[.agg (kK fs).toArray, .int .u8 (k : Nat)] W fun e w' => WiRet fs ⟨k, fa, fb, 0⟩ e ∧ Below W.heap.size W w') := fun W => f_with fs ⟨k, fa, fb, 0⟩ W HI.out.ok hk1 hk7
          have hws := walk_some (fs := fs) (by rw [HSL.out]; omega) HGO.out hbeg
          rw [HI.out.walk] at hws
          have HI1 := Lib.hid (HI.out.under hb1)
          obtain ⟨a0, cp0, rfl⟩ := own_slice HI1.out.row
          have hcnt : fs.length + 1 ≤ 1099511627776 := by have := HI1.out.len; omega
          have hne : ¬ (w1.heap.size = w.heap.size) := by have := CB.lt HI1.out.kb; omega
          have HFB : Hid (CB (w1.alloc (.cells (Fd.cells ⟨k, fa, fb, 0⟩).toArray 28)) 28 w1.heap.size (Fd.cells ⟨k, fa, fb, 0⟩)) := CB.new w1 _ _
          have HWS := Lib.hid hws
          have HK17 : Hid (1 ≤ k ∧ k ≤ 7) := ⟨hk1, hk7⟩
          clear hb1 hbeg hws hk1 hk7
          go_wp2_with (refine wpl_loadC 52 (.tmp 6) rfl rfl (t := 52) (g := w.heap.size) (cs := kK fs) ?_ ?_ _ Try.underlying52 rfl ?_ ?_; exact CB.alloc HI1.out.kb _; rfl; exact infoKi; skip)
          refine (HWI.out _).mono ?_
          rintro e w4 ⟨⟨hord, rfl⟩ | ⟨cd, hord, hcd, rfl⟩, hb4⟩
          · rw [if_pos (show ordK fs (Fd.mk k fa fb 0).k = 0 from hord)] at HWS
            rw [← HZ.out] at HWS
            have HB4 := Lib.hid hb4
            have HI4 := Lib.hid ((HI1.out.under ((Below.refl _ _).alloc (Nat.le_refl _) (.cells (Fd.cells ⟨k, fa, fb, 0⟩).toArray 28))).under hb4)
            have HFB4 := Lib.hid (CB.below HFB.out hb4)
            have hbase : ∀ w5, Chg (fun k => k = w.heap.size) w4 w5 → w.heap.size + 1 ≤ (w5.alloc (.cells (Fd.cells ⟨k, fa, fb, 0⟩).toArray 28)).heap.size := fun w5 hc => by have h1 := CB.lt HI4.out.kb; have h2 := hc.size; simp; omega
            clear hb4 hord
            go_wp2_with (first | (refine wpl_storeS 52 (.tmp 6) _ rfl rfl (t := 52) (g := w.heap.size) (cur := kK fs) (vs := (kK (fs ++ [⟨k, fa, fb, 0⟩])).toArray) ?_ ?_ ?_ ?_ ?_ ?_ ?_; exact HI4.out.kb; rfl; rfl; rfl; exact infoKi; rfl; intro w5 hc5 hch5 hsz5; have HC5 : Hid (CB w5 52 w.heap.size (kK (fs ++ [⟨k, fa, fb, 0⟩]))) := hc5; have HCH5 := Lib.hid hch5; clear hc5 hch5 hsz5; have HFB5 := Lib.hid (CB.chg HFB4.out HCH5.out hne)) | (refine wpl_loadC 28 (.tmp 8) rfl rfl (t := 28) (g := w1.heap.size) (cs := [.int .u8 (k : Nat), .int .i64 (fa : Nat), .int .i64 (fb : Nat), .int .i64 0]) ?_ ?_ _ Try.underlying28 rfl ?_ ?_; exact HFB5.out; rfl; exact infoF; skip) | (at_builtin; refine wpl_appS 22 28 Try.underlying22 infoF3 rfl (by decide) (by decide) rfl _ _ rfl (w.heap.size + 1) (.slice a0 fs.length cp0) fs.length (fs.flatMap Fd.cells) rfl (HI1.out.rowW HB4.out HCH5.out _).1 w5.heap.size (Fd.cells ⟨k, fa, fb, 0⟩) rfl rfl ?_ ?_ ?_ ?_ ?_; exact fun x u hx => (CB.cell (CB.new w5 28 (Fd.cells ⟨k, fa, fb, 0⟩)) x).trans hx; exact all_one (by rfl); exact hcnt; exact hbase w5 HCH5.out; intro g6 cap6 w6 hown6 hgr6 hBg6 hlt6 hor6; have HO6 := Lib.hid hown6; have HG6 := Lib.hid hgr6; clear hown6 hgr6) | (go_at_call 39; refine (HBL.out _).mono ?_; rintro e w7 ⟨rfl, hb7⟩; have HB7 := Lib.hid hb7; clear hb7))
            go_roundw
            case rel => exact ⟨z, fs ++ [⟨k, fa, fb, 0⟩], hzn, rfl, HI1.out.push HB4.out HCH5.out HC5.out HG6.out HO6.out HB7.out HWS.out.symm HK17.out.1 HK17.out.2 hz1⟩
            case measure => simp [intOf]; omega
          · rw [if_neg (by rw [show ordK fs (Fd.mk k fa fb 0).k = cd from hord]; exact hcd), show ordK fs (Fd.mk k fa fb 0).k = cd from hord] at HWS
            have HB4 := Lib.hid hb4
            have HI4 := Lib.hid ((HI1.out.under ((Below.refl _ _).alloc (Nat.le_refl _) (.cells (Fd.cells ⟨k, fa, fb, 0⟩).toArray 28))).under hb4)
            have HFB4 := Lib.hid (CB.below HFB.out hb4)
            have hcd0 : ((cd : Int) == 0) = false := by simp; omega
            have HCD := Lib.hid hcd
            clear hb4 hord hcd
            go_wp2_with (refine wpl_storeS 52 (.tmp 6) _ rfl rfl (t := 52) (g := w.heap.size) (cur := kK fs) (vs := (kL false false false false false false false).toArray) ?_ ?_ ?_ ?_ ?_ ?_ ?_; exact HI4.out.kb; rfl; rfl; rfl; exact infoKi; rfl; intro w5 hc5 hch5 hsz5; have HC5 : Hid (CB w5 52 w.heap.size (kL false false false false false false false)) := hc5; have HCH5 := Lib.hid hch5; clear hc5 hch5 hsz5; have HFB5 := Lib.hid (CB.chg HFB4.out HCH5.out hne))
            rw [Exit.noGoto_ret]
            go_ret3
            exact ⟨.inl ⟨i, cd, by rw [HWS.out]; rfl, HCD.out, rfl⟩, bel_store HI4.out.below HCH5.out (Nat.le_refl _)⟩
        · have hws := walk_none (fs := fs) (by rw [HSL.out]; omega) HGO.out hbeg
          rw [HI.out.walk] at hws
          have HI1 := Lib.hid (HI.out.under hb1)
          have HWS := Lib.hid hws
          clear hb1 hbeg hws
          go_wp2
          rw [Exit.noGoto_ret]
          go_ret3
          exact ⟨.inl ⟨i, 131, by rw [HWS.out]; rfl, by decide, rfl⟩, bel_alloc HI1.out.below _⟩
end Go.Proofs.Ytdaaapingaebkaa
