import Derived.Test.YtdaaapingaebkaaFdU
import Derived.Test.YtdaaapingaebkaaFdT
namespace Go.Proofs.Ytdaaapingaebkaa
open Go.RowKit

/-! fields: the reference's Split. -/
theorem ordK_ends (n k : Nat) (fs : List Fd) : ordK (ends n fs) k = ordK fs k := by
  unfold ordK
  rw [hasK_ends, hasK_ends]
  have : (ends n fs).isEmpty = fs.isEmpty := by cases fs <;> rfl
  rw [this]
theorem ends_push (n : Nat) (f : Fd) : ∀ fs : List Fd, ends n (fs ++ [f]) = ends f.a fs ++ [⟨f.k, f.a, f.b, n⟩]
  | [] => rfl
  | g :: r => by
    rw [List.cons_append, ends, ends, ends_push n f r, List.cons_append]
    congr 2
    cases r <;> rfl
theorem ends_last (n m : Nat) {fs : List Fd} (h : 0 < fs.length) : ((ends n fs).flatMap Fd.cells).set ((fs.length - 1) * 4 + 3) (.int .i64 (m : Nat)) = (ends m fs).flatMap Fd.cells := by
  obtain ⟨gs, g, rfl⟩ : ∃ gs g, fs = gs ++ [g] := ⟨fs.dropLast, fs.getLast (List.length_pos_iff.1 h), (List.dropLast_concat_getLast _).symm⟩
  rw [ends_push, ends_push]
  have h1 := end_set (ends g.a gs) [] g.k g.a g.b n m
  rw [ends_len] at h1
  rw [List.length_append, List.length_singleton, Nat.add_sub_cancel]
  exact h1
/-- At a byte. -/
structure SplI (w : World) (s : ByteArray) (n i j : Nat) (fs : List Fd) (a : Option Addr) (len cap : Nat) (wr : World) : Prop where
  walk : walk (bsN s) j fs = walk (bsN s) 0 []
  num : fs.length = len
  lei : len ≤ i
  row : wr.ownsRow w.heap.size 28 4 (.slice a len cap) len ((ends n fs).flatMap Fd.cells)
  below : Below w.heap.size w wr
  ij : i ≤ j
  jn : j ≤ n
  mid : ∀ p, i ≤ p → p < j → 0 < p ∧ at0 (bsN s) (p - 1) ≠ 10
  start : j = 0 ∨ at0 (bsN s) (j - 1) = 10 ∨ j = n
theorem SplI.under {w : World} {s : ByteArray} {n i j : Nat} {fs : List Fd} {a : Option Addr} {len cap : Nat} {wr w' : World} (h : SplI w s n i j fs a len cap wr) (hb : Below wr.heap.size wr w') : SplI w s n i j fs a len cap w' :=
  ⟨h.walk, h.num, h.lei, (Chg.of_below hb).ownsS h.row fun k hk => (by have := World.ownsRow.lt h.row k hk; omega), bel_next h.below hb, h.ij, h.jn, h.mid, h.start⟩
theorem SplI.skip {w : World} {s : ByteArray} {n i j : Nat} {fs : List Fd} {a : Option Addr} {len cap : Nat} {wr : World} (h : SplI w s n i j fs a len cap wr) (hij : i < j) : SplI w s n (i + 1) j fs a len cap wr :=
  ⟨h.walk, h.num, by have := h.lei; omega, h.row, h.below, hij, h.jn, fun p h1 h2 => h.mid p (by omega) h2, h.start⟩
theorem SplI.frow {w : World} {s : ByteArray} {n i j : Nat} {fs : List Fd} {a : Option Addr} {len cap : Nat} {wr : World} (h : SplI w s n i j fs a len cap wr) : FRow wr (.slice a len cap) (ends n fs) := by
  have h1 := h.row
  have h2 : (ends n fs).length = len := by rw [ends_len]; exact h.num
  rw [← h2] at h1 ⊢
  exact own_frow h1
theorem mid_next {l : List Nat} {i : Nat} : ∀ p, i + 1 ≤ p → p < i + behL (l.drop i) → 0 < p ∧ at0 l (p - 1) ≠ 10 := fun p h1 h2 => by
  refine ⟨by omega, ?_⟩
  have h3 := behL_in (l := l.drop i) (j := p - 1 - i) (by omega)
  rw [at0_drop] at h3
  rwa [show i + (p - 1 - i) = p - 1 by omega] at h3
theorem SplI.goes {w : World} {s : ByteArray} {n i : Nat} {fs : List Fd} {a : Option Addr} {len cap : Nat} {wr : World} (h : SplI w s n i i fs a len cap wr) (hn : (bsN s).length = n) (hi : i < n) (hg : goesB (at0 (bsN s) i) = true) : SplI w s n (i + 1) (i + behL ((bsN s).drop i)) fs a len cap wr := by
  obtain ⟨l1, l2, l3⟩ := line_next (l := bsN s) (i := i) (by omega)
  exact ⟨by rw [← walk_goes (by omega) hg]; exact h.walk, h.num, by have := h.lei; omega, h.row, h.below, by omega, by omega, mid_next, by rcases l3 with e | e; exact .inr (.inl e); exact .inr (.inr (by omega))⟩
theorem SplI.push {w : World} {s : ByteArray} {n i : Nat} {fs : List Fd} {k b : Nat} {a : Option Addr} {len cap : Nat} {a' : Option Addr} {cap' : Nat} {wr w5 w6 : World} {o2 : Obj} (h : SplI w s n i i fs a len cap wr) (hn : (bsN s).length = n) (hi : i < n)
    (hg : goesB (at0 (bsN s) i) = false) (hb : begL (bsN s) i = some ⟨k, i, b, 0⟩) (ho : ordK fs k = 0) (hb5 : Below w.heap.size w w5) (h5 : w5.ownsRow w.heap.size 28 4 (.slice a len cap) len ((ends i fs).flatMap Fd.cells))
    (hgr : (w5.alloc o2).grownBy w6 (Value.slice a len cap).ownBlock) (hown : w6.ownsRow w.heap.size 28 4 (.slice a' (len + 1) cap') (len + 1) ((ends i fs).flatMap Fd.cells ++ Fd.cells ⟨k, i, b, n⟩)) :
    SplI w s n (i + 1) (i + behL ((bsN s).drop i)) (fs ++ [⟨k, i, b, 0⟩]) a' (len + 1) cap' w6 := by
  obtain ⟨l1, l2, l3⟩ := line_next (l := bsN s) (i := i) (by omega)
  have hw := walk_some (fs := fs) (by omega) hg hb
  rw [if_pos ho, h.walk] at hw
  have hl := World.ownsRow.lt h5
  refine ⟨hw.symm, by rw [List.length_append, h.num]; rfl, by have := h.lei; omega, ?_, ?_, by omega, by omega, mid_next, by rcases l3 with e | e; exact .inr (.inl e); exact .inr (.inr (by omega))⟩
  · rw [ends_push, List.flatMap_append, List.flatMap_cons, List.flatMap_nil, List.append_nil]
    exact hown
  · have h7 := bel_alloc hb5 o2
    exact h7.trans ((Chg.of_grown hgr).below h7.size fun q hq => (hl q hq.symm).1)
set_option maxHeartbeats 16000000 in
set_option maxRecDepth 100000 in
theorem r_Split (s : ByteArray) (n : Nat) (w : World) (hn : s.size = n) (r : Res) (hr : (splitR (bsN s)).fin n = r) :
    Calls Try.prog 11 #[.string s] w fun e w' => SRet r w e w' := by
  have hsl : (bsN s).length = n := by rw [bsN_len, hn]
  unfold splitR at hr
  rw [hsl] at hr
  by_cases hbig : 65536 < n
  · rw [if_pos hbig] at hr
    obtain rfl : r = .bad 0 3 := hr.symm
    have hb2 : (n : Int) > 65536 := by omega
    clear hr hsl
    go_enter Try.func11, Try.ntmps11
    go_wp2
    go_ret3
    exact ⟨.inl ⟨0, 3, rfl, by decide, rfl⟩, Below.refl _ _⟩
  · rw [if_neg hbig] at hr
    have HR := Lib.hid hr
    have HSL := Lib.hid hsl
    have hb2 : decide ((65536 : Int) < (n : Int)) = false := decide_eq_false (by omega)
    have hb3 : n ≤ 65536 := by omega
    clear hr hsl hbig
    go_enter Try.func11, Try.ntmps11
    go_wp2
    go_loopw [5] (fun iv wr => ∃ i : Nat, i ≤ n ∧ iv = .int .i64 (i : Nat) ∧ Hid (∀ j, j < i → mayB (at0 (bsN s) j) = true) ∧ wr = w) (fun iv _ => n - (intOf iv).toNat)
    case atStart => exact ⟨0, Nat.zero_le _, rfl, fun j h => absurd h (Nat.not_lt_zero _), rfl⟩
    case round =>
      obtain ⟨i, hi, rfl, HE, rfl⟩ := hrel
      by_cases hin : i < n
      · obtain ⟨c, hc⟩ : ∃ c, at0 (bsN s) i = c := ⟨_, rfl⟩
        have x1 : ∀ W, (Instr.index 9 (.string s) (.int .i64 (i : Int))).run Try.prog W = .ok (.int .u8 (c : Nat)) W := idx_str 9 Try.underlying9 s i c (by omega) hc
        have c1 : (0 : Int) ≤ (i : Int) := by omega
        have c2 : (i : Int) < (s.size : Int) := by omega
        have HC := Lib.hid hc
        obtain ⟨b, hb⟩ : ∃ b, mayB c = b := ⟨_, rfl⟩
        have HM : Hid (∀ W, Calls Try.prog 26 #[.int .u8 (c : Nat)] W fun e w' => e = .returned (.bool b) ∧ w' = W) := fun W => by have := r_may c W; rw [hb] at this; exact this
        have HB := Lib.hid hb
        clear hc hb
        cases b with
        | true =>
          have HE2 : Hid (∀ j, j < i + 1 → mayB (at0 (bsN s) j) = true) := fun j hj => by
            by_cases h : j = i
            · subst h; rw [HC.out]; exact HB.out
            · exact HE.out j (by omega)
          go_wp2_with (go_at_call 26; refine (HM.out _).mono ?_; rintro e w1 ⟨rfl, rfl⟩)
          go_roundw
          case rel => exact ⟨i + 1, by omega, by go_num, HE2.out, trivial⟩
          case measure => simp [intOf]; omega
        | false =>
          have hbad := badB_some (l := bsN s) (by rw [HSL.out]; exact hin) HE.out (by rw [HC.out]; exact HB.out)
          have hr := HR.out
          rw [hbad] at hr
          obtain rfl : r = .bad i 130 := hr.symm
          clear hbad hr
          go_wp2_with (go_at_call 26; refine (HM.out _).mono ?_; rintro e w1 ⟨rfl, rfl⟩)
          go_ret3
          exact ⟨.inl ⟨i, 130, rfl, by decide, rfl⟩, Below.refl _ _⟩
      · obtain rfl : i = n := by omega
        have hr := HR.out
        rw [badB_none (l := bsN s) (by rw [HSL.out]; exact HE.out)] at hr
        simp only at hr
        by_cases h0 : i = 0
        · obtain rfl := str_empty (hn.trans h0)
          obtain rfl : r = .bad 0 131 := by rw [← hr]; rfl
          clear hr
          go_wp2
          go_ret3
          exact ⟨.inl ⟨0, 131, rfl, by decide, rfl⟩, Below.refl _ _⟩
        · have hne : (bsN s).isEmpty = false := by
            cases hx : bsN s with
            | nil => have := HSL.out; rw [hx] at this; simp at this; omega
            | cons c t => rfl
          have hse : (s.toList == []) = false := by
            rw [beq_lit]
            refine decide_eq_false fun e => ?_
            rw [e] at hne
            cases hne
          obtain ⟨c, hc⟩ : ∃ c, at0 (bsN s) 0 = c := ⟨_, rfl⟩
          have x1 : ∀ W, (Instr.index 9 (.string s) (.int .i64 0)).run Try.prog W = .ok (.int .u8 (c : Nat)) W := fun W => idx_str 9 Try.underlying9 s 0 c (by omega) hc W
          have c2 : (0 : Int) < (s.size : Int) := by omega
          obtain ⟨bk, hbk⟩ : ∃ b, decide (c = 9 ∨ c = 13 ∨ c = 32) = b := ⟨_, rfl⟩
          have HBK : Hid (∀ W, Calls Try.prog 27 #[.int .u8 (c : Nat)] W fun e w' => e = .returned (.bool bk) ∧ w' = W) := fun W => by have := r_Blank c W; rw [hbk] at this; exact this
          obtain ⟨b, hb⟩ : ∃ b, goesB c = b := ⟨_, rfl⟩
          rw [hne, hc, hb] at hr
          have HC := Lib.hid hc
          have HG := Lib.hid hb
          have hgb : b = true ↔ bk = true ∨ c = 10 := by
            rw [← hb, ← hbk]
            unfold goesB
            simp only [decide_eq_true_eq]
            omega
          have h0' : 0 < i := by omega
          clear hc hb hbk hne HR HE h0
          cases b with
          | true =>
            obtain rfl : r = .bad 0 131 := hr.symm
            clear hr
            cases bk with
            | true =>
              clear hgb
              go_wp2_with (go_at_call 27; refine (HBK.out _).mono ?_; rintro e w1 ⟨rfl, rfl⟩)
              go_ret3
              exact ⟨.inl ⟨0, 131, rfl, by decide, rfl⟩, Below.refl _ _⟩
            | false =>
              have h10 : ((c : Int) == 10) = true := by
                rcases hgb.1 rfl with h | h
                · cases h
                · rw [h]; rfl
              clear hgb
              go_wp2_with (go_at_call 27; refine (HBK.out _).mono ?_; rintro e w1 ⟨rfl, rfl⟩)
              go_ret3
              exact ⟨.inl ⟨0, 131, rfl, by decide, rfl⟩, Below.refl _ _⟩
          | false =>
            have hr2 : (walk (bsN s) 0 []).fin i = r := hr
            have HRR := Lib.hid hr2
            obtain rfl : bk = false := by
              cases bk with
              | true => exact absurd (hgb.2 (.inl rfl)) (by decide)
              | false => rfl
            have h10 : ((c : Int) == 10) = false := by
              simp only [beq_eq_false_iff_ne]
              intro h
              exact absurd (hgb.2 (.inr (by omega))) (by decide)
            clear hr hr2 hgb
            have hgo0 : goesB (at0 (bsN s) 0) = false := by rw [HC.out]; exact HG.out
            have HGO0 := Lib.hid hgo0
            clear hgo0
            go_wp2_with (go_at_call 27; refine (HBK.out _).mono ?_; rintro e w0 ⟨rfl, hw0⟩; have hw0' := hw0.symm; subst hw0')
            obtain ⟨n, rfl⟩ : ∃ n, n = i := ⟨_, rfl⟩
            obtain ⟨W0, rfl⟩ : ∃ W0, W0 = wr := ⟨_, rfl⟩
            have HI0 : Hid (SplI W0 s n 0 0 [] none 0 0 W0) := ⟨rfl, rfl, Nat.le_refl _, ⟨rfl, .inl ⟨rfl, rfl⟩⟩, Below.refl _ _, Nat.le_refl _, Nat.zero_le _, fun p _ h => absurd h (Nat.not_lt_zero _), .inl rfl⟩
            clear hi hin x1 c2 h0' h10
            go_loopw [6, 7] (fun v6 v7 wx => ∃ (i j : Nat) (fs : List Fd) (a : Option Addr) (len cap : Nat), i ≤ n ∧ v7 = .int .i64 (i : Nat) ∧ v6 = .slice a len cap ∧ Hid (SplI W0 s n i j fs a len cap wx)) (fun _ v7 _ => n - (intOf v7).toNat)
            case atStart => exact ⟨0, 0, [], none, 0, 0, Nat.zero_le _, rfl, rfl, HI0.out⟩
            case round =>
              obtain ⟨i, j, fs, a, len, cap, hi, rfl, rfl, HI⟩ := hrel
              by_cases hin : i < n
              · obtain ⟨c, hc⟩ : ∃ c, at0 (bsN s) i = c := ⟨_, rfl⟩
                have x1 : ∀ W, (Instr.index 9 (.string s) (.int .i64 (i : Int))).run Try.prog W = .ok (.int .u8 (c : Nat)) W := idx_str 9 Try.underlying9 s i c (by omega) hc
                have c1 : (0 : Int) ≤ (i : Int) := by omega
                have c2 : (i : Int) < (s.size : Int) := by omega
                have HCC := Lib.hid hc
                clear hc
                obtain ⟨bk, hbk⟩ : ∃ b, decide (c = 9 ∨ c = 13 ∨ c = 32) = b := ⟨_, rfl⟩
                have HBK : Hid (∀ W, Calls Try.prog 27 #[.int .u8 (c : Nat)] W fun e w' => e = .returned (.bool bk) ∧ w' = W) := fun W => by have := r_Blank c W; rw [hbk] at this; exact this
                have hgb : goesB c = true ↔ bk = true ∨ c = 10 := by
                  rw [← hbk]
                  unfold goesB
                  simp only [decide_eq_true_eq]
                  omega
                clear hbk
                by_cases h0 : i = 0
                · have hj : j = i := by
                    rcases Nat.lt_or_ge i j with h | h
                    · have := (HI.out.mid i (Nat.le_refl _) h).1
                      omega
                    · have := HI.out.ij
                      omega
                  subst hj
                  have hp1 : decide ((0 : Int) < (j : Int)) = false := decide_eq_false (by omega)
                  have hp2 : decide (0 < j) = false := decide_eq_false (by omega)
                  have hgo : goesB c = false := by rw [← HCC.out, h0]; exact HGO0.out
                  clear h0
                  obtain ⟨i, rfl⟩ : ∃ i, i = j := ⟨_, rfl⟩
                  obtain rfl : bk = false := by
                    cases bk with
                    | true => rw [hgb.2 (.inl rfl)] at hgo; cases hgo
                    | false => rfl
                  have h10 : ((c : Int) == 10) = false := by
                    simp only [beq_eq_false_iff_ne]
                    intro h
                    rw [hgb.2 (.inr (by omega))] at hgo
                    cases hgo
                  have HGO : Hid (goesB (at0 (bsN s) i) = false) := by show _ = _; rw [HCC.out]; exact hgo
                  clear hgb hgo
                  have HONE : Hid (∀ W, FRow W (.slice a len cap) (ends n fs) → Calls Try.prog 28 #[.string s, .int .i64 (i : Nat), .slice a len cap] W fun e w' => OneRet (begL (bsN s) i) (ends n fs) n e ∧ Below W.heap.size W w') := fun W h => r_one s n i _ (ends n fs) W hn hb3 (by omega) h (by rw [ends_len, HI.out.num]; have := HI.out.lei; omega)
                  go_wp2_with (go_at_call 27; refine (HBK.out _).mono ?_; rintro e w0 ⟨rfl, hw0⟩; have hw0' := hw0.symm; subst hw0')
                  refine (HONE.out _ HI.out.frow).mono ?_
                  rintro e w1 ⟨⟨hbeg, rfl⟩ | ⟨f, cd, hbeg, hord, hcd, rfl⟩ | ⟨k, fa, fb, hbeg, hord, hk1, hk7, rfl⟩, hb1⟩
                  · have hw := walk_none (fs := fs) (by rw [HSL.out]; exact hin) HGO.out hbeg
                    rw [HI.out.walk] at hw
                    have hr := HRR.out
                    rw [hw] at hr
                    obtain rfl : r = .bad i 131 := hr.symm
                    have HB1 := Lib.hid (HI.out.under hb1).below
                    clear hw hr hbeg hb1
                    go_wp2
                    go_ret3
                    exact ⟨.inl ⟨i, 131, rfl, by decide, rfl⟩, bel_alloc HB1.out _⟩
                  · have hw := walk_some (fs := fs) (by rw [HSL.out]; exact hin) HGO.out hbeg
                    rw [ordK_ends] at hord
                    rw [HI.out.walk, hord, if_neg hcd] at hw
                    have hr := HRR.out
                    rw [hw] at hr
                    obtain rfl : r = .bad i cd := hr.symm
                    have HB1 := Lib.hid (HI.out.under hb1).below
                    have hcd0 : ((cd : Int) == 0) = false := by simp; omega
                    have HCD := Lib.hid hcd
                    clear hw hr hbeg hb1 hord hcd
                    go_wp2
                    go_ret3
                    exact ⟨.inl ⟨i, cd, rfl, HCD.out, rfl⟩, bel_alloc HB1.out _⟩
                  · obtain rfl : fa = i := (begL_ok hbeg (by rw [HSL.out]; exact hin) (by rw [HSL.out]; exact HI.out.start)).2.1
                    rw [ordK_ends] at hord
                    have HI1 := Lib.hid (HI.out.under hb1)
                    have HBEG := Lib.hid hbeg
                    have HORD := Lib.hid hord
                    have hbase0 := HI1.out.below.size
                    have hlen5 := HI1.out.lei
                    clear hbeg hord hb1 hk1 hk7
                    by_cases hl0 : len = 0
                    · have hd1 : decide ((0 : Int) < (len : Int)) = false := decide_eq_false (by omega)
                      have hd2 : decide (0 < len) = false := decide_eq_false (by omega)
                      have hnil : fs = [] := List.length_eq_zero_iff.1 (HI.out.num.trans hl0)
                      have H5 : Hid ((w1.alloc (.cells (#[.int .u8 (k : Nat), .int .i64 (fa : Nat), .int .i64 (fb : Nat), .int .i64 (n : Nat)]) 28)).ownsRow W0.heap.size 28 4 (.slice a len cap) len ((ends fa fs).flatMap Fd.cells)) := by
                        have := World.ownsRow.alloc HI1.out.row (.cells (#[.int .u8 (k : Nat), .int .i64 (fa : Nat), .int .i64 (fb : Nat), .int .i64 (n : Nat)]) 28)
                        rw [hnil] at this ⊢
                        exact this
                      have hcnt : len + 1 ≤ 1099511627776 := by omega
                      have hbase : W0.heap.size ≤ ((w1.alloc (.cells (#[.int .u8 (k : Nat), .int .i64 (fa : Nat), .int .i64 (fb : Nat), .int .i64 (n : Nat)]) 28)).alloc (.cells (#[.int .u8 (k : Nat), .int .i64 (fa : Nat), .int .i64 (fb : Nat), .int .i64 (n : Nat)]) 28)).heap.size := by simp; omega
                      clear hl0 hnil
                      go_wp2_with (at_builtin; refine wpl_appS 22 28 Try.underlying22 infoF3 rfl (by decide) (by decide) rfl _ _ rfl W0.heap.size (.slice a len cap) len ((ends fa fs).flatMap Fd.cells) rfl (World.ownsRow.alloc H5.out _) (w1.heap.size + 1) [.int .u8 (k : Nat), .int .i64 (fa : Nat), .int .i64 (fb : Nat), .int .i64 (n : Nat)] rfl rfl ?_ ?_ ?_ ?_ ?_; exact fun x u hx => (CB.cell (cb2 w1 (.cells (#[.int .u8 (k : Nat), .int .i64 (fa : Nat), .int .i64 (fb : Nat), .int .i64 (n : Nat)]) 28) 28 [.int .u8 (k : Nat), .int .i64 (fa : Nat), .int .i64 (fb : Nat), .int .i64 (n : Nat)]) x).trans hx; exact all_one (by rfl); exact hcnt; exact hbase; intro g6 cap6 w6 hown6 hgr6 hBg6 hlt6 hor6; have HO6 := Lib.hid hown6; have HG6 := Lib.hid hgr6; clear hown6 hgr6)
                      go_roundw
                      case rel => exact ⟨fa + 1, fa + behL ((bsN s).drop fa), fs ++ [Fd.mk k fa fb 0], some ⟨g6, 0, none⟩, len + 1, cap6, by omega, by go_num, rfl, HI1.out.push HSL.out hin HGO.out HBEG.out HORD.out (bel_alloc HI1.out.below _) H5.out HG6.out HO6.out⟩
                      case measure => simp [intOf]; omega
                    · obtain ⟨m, rfl⟩ : ∃ m, len = m + 1 := ⟨len - 1, by omega⟩
                      have hnum := HI1.out.num
                      obtain ⟨g, rfl, hgB, hrow⟩ := own_fd (fs := ends n fs) (by have := HI1.out.row; rw [show m + 1 = m + 1 from rfl] at this; exact this) (by rw [ends_len]; exact hnum) (by omega)
                      have hlt := (World.ownsRow.lt HI1.out.row g rfl).2
                      have hm : m < (ends n fs).length := by rw [ends_len]; omega
                      obtain ⟨-, -, -, z3w⟩ := range4 (hrow m hm)
                      rw [ends_get n fs m (by omega) hm, List.drop_eq_nil_of_le (by omega)] at z3w
                      have z3 : w1.cell? ⟨g, m * 4 + 3, none⟩ = some (.int .i64 (n : Nat)) := z3w
                      have hown1 := HI1.out.row
                      have zf : w1.frozen? ⟨g, m * 4 + 3, none⟩ = false := hown1.frozenAt _
                      have hst := (hown1.stored (m * 4 + 3) (.int .i64 (fa : Nat))).1
                      have hel := ends_last n fa (fs := fs) (by omega)
                      rw [hnum, Nat.add_sub_cancel] at hel
                      rw [hel] at hst
                      have H5 := Lib.hid (World.ownsRow.alloc hst (.cells (#[.int .u8 (k : Nat), .int .i64 (fa : Nat), .int .i64 (fb : Nat), .int .i64 (n : Nat)]) 28))
                      have hsz : (w1.setCell ⟨g, m * 4 + 3, none⟩ (.int .i64 (fa : Nat))).heap.size = w1.heap.size := by simp [World.setCell]
                      have HNEW : Hid (CB (((w1.setCell ⟨g, m * 4 + 3, none⟩ (.int .i64 (fa : Nat))).alloc (.cells (#[.int .u8 (k : Nat), .int .i64 (fa : Nat), .int .i64 (fb : Nat), .int .i64 (n : Nat)]) 28)).alloc (.cells (#[.int .u8 (k : Nat), .int .i64 (fa : Nat), .int .i64 (fb : Nat), .int .i64 (n : Nat)]) 28)) 28 (w1.heap.size + 1) [.int .u8 (k : Nat), .int .i64 (fa : Nat), .int .i64 (fb : Nat), .int .i64 (n : Nat)]) := by
                        have := cb2 (w1.setCell ⟨g, m * 4 + 3, none⟩ (.int .i64 (fa : Nat))) (.cells (#[.int .u8 (k : Nat), .int .i64 (fa : Nat), .int .i64 (fb : Nat), .int .i64 (n : Nat)]) 28) 28 [.int .u8 (k : Nat), .int .i64 (fa : Nat), .int .i64 (fb : Nat), .int .i64 (n : Nat)]
                        rwa [hsz] at this
                      have hcnt : m + 1 + 1 ≤ 1099511627776 := by omega
                      have hbase : W0.heap.size ≤ (((w1.setCell ⟨g, m * 4 + 3, none⟩ (.int .i64 (fa : Nat))).alloc (.cells (#[.int .u8 (k : Nat), .int .i64 (fa : Nat), .int .i64 (fb : Nat), .int .i64 (n : Nat)]) 28)).alloc (.cells (#[.int .u8 (k : Nat), .int .i64 (fa : Nat), .int .i64 (fb : Nat), .int .i64 (n : Nat)]) 28)).heap.size := by simp [World.setCell]; omega
                      have HB5 : Hid (Below W0.heap.size W0 ((w1.setCell ⟨g, m * 4 + 3, none⟩ (.int .i64 (fa : Nat))).alloc (.cells (#[.int .u8 (k : Nat), .int .i64 (fa : Nat), .int .i64 (fb : Nat), .int .i64 (n : Nat)]) 28))) := bel_alloc (HI1.out.below.setCell (p := ⟨g, m * 4 + 3, none⟩) hgB _) _
                      clear hl0 z3w hnum hrow hm hown1 hst hel hgB hsz
                      go_wp2_with (at_builtin; refine wpl_appS 22 28 Try.underlying22 infoF3 rfl (by decide) (by decide) rfl _ _ rfl W0.heap.size (.slice (some ⟨g, 0, none⟩) (m + 1) cap) (m + 1) ((ends fa fs).flatMap Fd.cells) rfl (World.ownsRow.alloc H5.out _) (w1.heap.size + 1) [.int .u8 (k : Nat), .int .i64 (fa : Nat), .int .i64 (fb : Nat), .int .i64 (n : Nat)] rfl rfl ?_ ?_ ?_ ?_ ?_; exact fun x u hx => (CB.cell HNEW.out x).trans hx; exact all_one (by rfl); exact hcnt; exact hbase; intro g6 cap6 w6 hown6 hgr6 hBg6 hlt6 hor6; have HO6 := Lib.hid hown6; have HG6 := Lib.hid hgr6; clear hown6 hgr6)
                      go_roundw
                      case rel => exact ⟨fa + 1, fa + behL ((bsN s).drop fa), fs ++ [Fd.mk k fa fb 0], some ⟨g6, 0, none⟩, m + 1 + 1, cap6, by omega, by go_num, rfl, HI1.out.push HSL.out hin HGO.out HBEG.out HORD.out HB5.out H5.out HG6.out HO6.out⟩
                      case measure => simp [intOf]; omega
                · have hp1 : (0 : Int) < (i : Int) := by omega
                  have hp2 : 0 < i := by omega
                  obtain ⟨d, hd⟩ : ∃ d, at0 (bsN s) (i - 1) = d := ⟨_, rfl⟩
                  have e0 : ((i : Int) - 1) = ((i - 1 : Nat) : Int) := by omega
                  have x2 : ∀ W, (Instr.index 9 (.string s) (.int .i64 ((i : Int) - 1))).run Try.prog W = .ok (.int .u8 (d : Nat)) W := by rw [e0]; exact idx_str 9 Try.underlying9 s (i - 1) d (by omega) hd
                  have e1 : IntKind.i64.wrap ((i : Int) - 1) = (i : Int) - 1 := by rw [e0]; exact wrap_i64_nat _ (by omega)
                  have c4 : (0 : Int) ≤ (i : Int) - 1 := by omega
                  have c5 : (i : Int) - 1 < (s.size : Int) := by omega
                  have HD := Lib.hid hd
                  clear hd e0 h0
                  by_cases hij : i < j
                  · have hd10 : ((d : Int) == 10) = false := by
                      have := (HI.out.mid i (Nat.le_refl _) hij).2
                      rw [HD.out] at this
                      simp; omega
                    have HI2 := Lib.hid (HI.out.skip hij)
                    clear hgb hij
                    go_wp2_with (go_at_call 27; refine (HBK.out _).mono ?_; rintro e w0 ⟨rfl, hw0⟩; have hw0' := hw0.symm; subst hw0')
                    all_goals
                      go_roundw
                      case rel => exact ⟨i + 1, j, fs, a, len, cap, by omega, by go_num, rfl, HI2.out⟩
                      case measure => simp [intOf]; omega
                  · have hj : j = i := by have := HI.out.ij; omega
                    have hd10 : d = 10 := by
                      rcases HI.out.start with h | h | h
                      · omega
                      · rw [hj, HD.out] at h; exact h
                      · omega
                    subst hd10
                    subst hj
                    clear hij
                    obtain ⟨i, rfl⟩ : ∃ i, i = j := ⟨_, rfl⟩
                    cases hgo : goesB c with
                    | true =>
                      have HI2 := Lib.hid (HI.out.goes HSL.out hin (by rw [HCC.out]; exact hgo))
                      cases bk with
                      | true =>
                        clear hgb hgo
                        go_wp2_with (go_at_call 27; refine (HBK.out _).mono ?_; rintro e w0 ⟨rfl, hw0⟩; have hw0' := hw0.symm; subst hw0')
                        all_goals
                          go_roundw
                          case rel => exact ⟨i + 1, _, fs, a, len, cap, by omega, by go_num, rfl, HI2.out⟩
                          case measure => simp [intOf]; omega
                      | false =>
                        have h10 : ((c : Int) == 10) = true := by
                          rcases hgb.1 hgo with h | h
                          · cases h
                          · rw [h]; rfl
                        clear hgb hgo
                        go_wp2_with (go_at_call 27; refine (HBK.out _).mono ?_; rintro e w0 ⟨rfl, hw0⟩; have hw0' := hw0.symm; subst hw0')
                        all_goals
                          go_roundw
                          case rel => exact ⟨i + 1, _, fs, a, len, cap, by omega, by go_num, rfl, HI2.out⟩
                          case measure => simp [intOf]; omega
                    | false =>
                      obtain rfl : bk = false := by
                        cases bk with
                        | true => rw [hgb.2 (.inl rfl)] at hgo; cases hgo
                        | false => rfl
                      have h10 : ((c : Int) == 10) = false := by
                        simp only [beq_eq_false_iff_ne]
                        intro h
                        rw [hgb.2 (.inr (by omega))] at hgo
                        cases hgo
                      have HGO : Hid (goesB (at0 (bsN s) i) = false) := by show _ = _; rw [HCC.out]; exact hgo
                      clear hgb hgo
                      have HONE : Hid (∀ W, FRow W (.slice a len cap) (ends n fs) → Calls Try.prog 28 #[.string s, .int .i64 (i : Nat), .slice a len cap] W fun e w' => OneRet (begL (bsN s) i) (ends n fs) n e ∧ Below W.heap.size W w') := fun W h => r_one s n i _ (ends n fs) W hn hb3 (by omega) h (by rw [ends_len, HI.out.num]; have := HI.out.lei; omega)
                      go_wp2_with (go_at_call 27; refine (HBK.out _).mono ?_; rintro e w0 ⟨rfl, hw0⟩; have hw0' := hw0.symm; subst hw0')
                      refine (HONE.out _ HI.out.frow).mono ?_
                      rintro e w1 ⟨⟨hbeg, rfl⟩ | ⟨f, cd, hbeg, hord, hcd, rfl⟩ | ⟨k, fa, fb, hbeg, hord, hk1, hk7, rfl⟩, hb1⟩
                      · have hw := walk_none (fs := fs) (by rw [HSL.out]; exact hin) HGO.out hbeg
                        rw [HI.out.walk] at hw
                        have hr := HRR.out
                        rw [hw] at hr
                        obtain rfl : r = .bad i 131 := hr.symm
                        have HB1 := Lib.hid (HI.out.under hb1).below
                        clear hw hr hbeg hb1
                        go_wp2
                        go_ret3
                        exact ⟨.inl ⟨i, 131, rfl, by decide, rfl⟩, bel_alloc HB1.out _⟩
                      · have hw := walk_some (fs := fs) (by rw [HSL.out]; exact hin) HGO.out hbeg
                        rw [ordK_ends] at hord
                        rw [HI.out.walk, hord, if_neg hcd] at hw
                        have hr := HRR.out
                        rw [hw] at hr
                        obtain rfl : r = .bad i cd := hr.symm
                        have HB1 := Lib.hid (HI.out.under hb1).below
                        have hcd0 : ((cd : Int) == 0) = false := by simp; omega
                        have HCD := Lib.hid hcd
                        clear hw hr hbeg hb1 hord hcd
                        go_wp2
                        go_ret3
                        exact ⟨.inl ⟨i, cd, rfl, HCD.out, rfl⟩, bel_alloc HB1.out _⟩
                      · obtain rfl : fa = i := (begL_ok hbeg (by rw [HSL.out]; exact hin) (by rw [HSL.out]; exact HI.out.start)).2.1
                        rw [ordK_ends] at hord
                        have HI1 := Lib.hid (HI.out.under hb1)
                        have HBEG := Lib.hid hbeg
                        have HORD := Lib.hid hord
                        have hbase0 := HI1.out.below.size
                        have hlen5 := HI1.out.lei
                        clear hbeg hord hb1 hk1 hk7
                        by_cases hl0 : len = 0
                        · have hd1 : decide ((0 : Int) < (len : Int)) = false := decide_eq_false (by omega)
                          have hd2 : decide (0 < len) = false := decide_eq_false (by omega)
                          have hnil : fs = [] := List.length_eq_zero_iff.1 (HI.out.num.trans hl0)
                          have H5 : Hid ((w1.alloc (.cells (#[.int .u8 (k : Nat), .int .i64 (fa : Nat), .int .i64 (fb : Nat), .int .i64 (n : Nat)]) 28)).ownsRow W0.heap.size 28 4 (.slice a len cap) len ((ends fa fs).flatMap Fd.cells)) := by
                            have := World.ownsRow.alloc HI1.out.row (.cells (#[.int .u8 (k : Nat), .int .i64 (fa : Nat), .int .i64 (fb : Nat), .int .i64 (n : Nat)]) 28)
                            rw [hnil] at this ⊢
                            exact this
                          have hcnt : len + 1 ≤ 1099511627776 := by omega
                          have hbase : W0.heap.size ≤ ((w1.alloc (.cells (#[.int .u8 (k : Nat), .int .i64 (fa : Nat), .int .i64 (fb : Nat), .int .i64 (n : Nat)]) 28)).alloc (.cells (#[.int .u8 (k : Nat), .int .i64 (fa : Nat), .int .i64 (fb : Nat), .int .i64 (n : Nat)]) 28)).heap.size := by simp; omega
                          clear hl0 hnil
                          go_wp2_with (at_builtin; refine wpl_appS 22 28 Try.underlying22 infoF3 rfl (by decide) (by decide) rfl _ _ rfl W0.heap.size (.slice a len cap) len ((ends fa fs).flatMap Fd.cells) rfl (World.ownsRow.alloc H5.out _) (w1.heap.size + 1) [.int .u8 (k : Nat), .int .i64 (fa : Nat), .int .i64 (fb : Nat), .int .i64 (n : Nat)] rfl rfl ?_ ?_ ?_ ?_ ?_; exact fun x u hx => (CB.cell (cb2 w1 (.cells (#[.int .u8 (k : Nat), .int .i64 (fa : Nat), .int .i64 (fb : Nat), .int .i64 (n : Nat)]) 28) 28 [.int .u8 (k : Nat), .int .i64 (fa : Nat), .int .i64 (fb : Nat), .int .i64 (n : Nat)]) x).trans hx; exact all_one (by rfl); exact hcnt; exact hbase; intro g6 cap6 w6 hown6 hgr6 hBg6 hlt6 hor6; have HO6 := Lib.hid hown6; have HG6 := Lib.hid hgr6; clear hown6 hgr6)
                          go_roundw
                          case rel => exact ⟨fa + 1, fa + behL ((bsN s).drop fa), fs ++ [Fd.mk k fa fb 0], some ⟨g6, 0, none⟩, len + 1, cap6, by omega, by go_num, rfl, HI1.out.push HSL.out hin HGO.out HBEG.out HORD.out (bel_alloc HI1.out.below _) H5.out HG6.out HO6.out⟩
                          case measure => simp [intOf]; omega
                        · obtain ⟨m, rfl⟩ : ∃ m, len = m + 1 := ⟨len - 1, by omega⟩
                          have hnum := HI1.out.num
                          obtain ⟨g, rfl, hgB, hrow⟩ := own_fd (fs := ends n fs) (by have := HI1.out.row; rw [show m + 1 = m + 1 from rfl] at this; exact this) (by rw [ends_len]; exact hnum) (by omega)
                          have hlt := (World.ownsRow.lt HI1.out.row g rfl).2
                          have hm : m < (ends n fs).length := by rw [ends_len]; omega
                          obtain ⟨-, -, -, z3w⟩ := range4 (hrow m hm)
                          rw [ends_get n fs m (by omega) hm, List.drop_eq_nil_of_le (by omega)] at z3w
                          have z3 : w1.cell? ⟨g, m * 4 + 3, none⟩ = some (.int .i64 (n : Nat)) := z3w
                          have hown1 := HI1.out.row
                          have zf : w1.frozen? ⟨g, m * 4 + 3, none⟩ = false := hown1.frozenAt _
                          have hst := (hown1.stored (m * 4 + 3) (.int .i64 (fa : Nat))).1
                          have hel := ends_last n fa (fs := fs) (by omega)
                          rw [hnum, Nat.add_sub_cancel] at hel
                          rw [hel] at hst
                          have H5 := Lib.hid (World.ownsRow.alloc hst (.cells (#[.int .u8 (k : Nat), .int .i64 (fa : Nat), .int .i64 (fb : Nat), .int .i64 (n : Nat)]) 28))
                          have hsz : (w1.setCell ⟨g, m * 4 + 3, none⟩ (.int .i64 (fa : Nat))).heap.size = w1.heap.size := by simp [World.setCell]
                          have HNEW : Hid (CB (((w1.setCell ⟨g, m * 4 + 3, none⟩ (.int .i64 (fa : Nat))).alloc (.cells (#[.int .u8 (k : Nat), .int .i64 (fa : Nat), .int .i64 (fb : Nat), .int .i64 (n : Nat)]) 28)).alloc (.cells (#[.int .u8 (k : Nat), .int .i64 (fa : Nat), .int .i64 (fb : Nat), .int .i64 (n : Nat)]) 28)) 28 (w1.heap.size + 1) [.int .u8 (k : Nat), .int .i64 (fa : Nat), .int .i64 (fb : Nat), .int .i64 (n : Nat)]) := by
                            have := cb2 (w1.setCell ⟨g, m * 4 + 3, none⟩ (.int .i64 (fa : Nat))) (.cells (#[.int .u8 (k : Nat), .int .i64 (fa : Nat), .int .i64 (fb : Nat), .int .i64 (n : Nat)]) 28) 28 [.int .u8 (k : Nat), .int .i64 (fa : Nat), .int .i64 (fb : Nat), .int .i64 (n : Nat)]
                            rwa [hsz] at this
                          have hcnt : m + 1 + 1 ≤ 1099511627776 := by omega
                          have hbase : W0.heap.size ≤ (((w1.setCell ⟨g, m * 4 + 3, none⟩ (.int .i64 (fa : Nat))).alloc (.cells (#[.int .u8 (k : Nat), .int .i64 (fa : Nat), .int .i64 (fb : Nat), .int .i64 (n : Nat)]) 28)).alloc (.cells (#[.int .u8 (k : Nat), .int .i64 (fa : Nat), .int .i64 (fb : Nat), .int .i64 (n : Nat)]) 28)).heap.size := by simp [World.setCell]; omega
                          have HB5 : Hid (Below W0.heap.size W0 ((w1.setCell ⟨g, m * 4 + 3, none⟩ (.int .i64 (fa : Nat))).alloc (.cells (#[.int .u8 (k : Nat), .int .i64 (fa : Nat), .int .i64 (fb : Nat), .int .i64 (n : Nat)]) 28))) := bel_alloc (HI1.out.below.setCell (p := ⟨g, m * 4 + 3, none⟩) hgB _) _
                          clear hl0 z3w hnum hrow hm hown1 hst hel hgB hsz
                          go_wp2_with (at_builtin; refine wpl_appS 22 28 Try.underlying22 infoF3 rfl (by decide) (by decide) rfl _ _ rfl W0.heap.size (.slice (some ⟨g, 0, none⟩) (m + 1) cap) (m + 1) ((ends fa fs).flatMap Fd.cells) rfl (World.ownsRow.alloc H5.out _) (w1.heap.size + 1) [.int .u8 (k : Nat), .int .i64 (fa : Nat), .int .i64 (fb : Nat), .int .i64 (n : Nat)] rfl rfl ?_ ?_ ?_ ?_ ?_; exact fun x u hx => (CB.cell HNEW.out x).trans hx; exact all_one (by rfl); exact hcnt; exact hbase; intro g6 cap6 w6 hown6 hgr6 hBg6 hlt6 hor6; have HO6 := Lib.hid hown6; have HG6 := Lib.hid hgr6; clear hown6 hgr6)
                          go_roundw
                          case rel => exact ⟨fa + 1, fa + behL ((bsN s).drop fa), fs ++ [Fd.mk k fa fb 0], some ⟨g6, 0, none⟩, m + 1 + 1, cap6, by omega, by go_num, rfl, HI1.out.push HSL.out hin HGO.out HBEG.out HORD.out HB5.out H5.out HG6.out HO6.out⟩
                          case measure => simp [intOf]; omega
              · obtain rfl : i = n := by omega
                obtain rfl : j = i := by have := HI.out.ij; have := HI.out.jn; omega
                obtain ⟨b2, hb2'⟩ : ∃ b, hasK 2 (ends j fs) = b := ⟨_, rfl⟩
                have HH2 : Hid (∀ W, FRow W (.slice a len cap) (ends j fs) → Calls Try.prog 29 #[.slice a len cap, .int .u8 2] W fun e w' => e = .returned (.bool b2) ∧ w' = W) := fun W h => r_has _ (ends j fs) 2 b2 W h (by rw [ends_len, HI.out.num]; have := HI.out.lei; omega) hb2'
                have hw := walk_end (l := bsN s) (i := j) (fs := fs) (by rw [HSL.out]; exact Nat.le_refl _)
                rw [HI.out.walk, HSL.out, ← hasK_ends j, hb2'] at hw
                have hr := HRR.out
                rw [hw] at hr
                have hel := ends_len j fs
                have hnum := HI.out.num
                cases b2 with
                | false =>
                  obtain rfl : r = .bad j 134 := hr.symm
                  clear hr hw hb2'
                  go_wp2_with (go_at_call 29; refine (HH2.out _ HI.out.frow).mono ?_; rintro e w1 ⟨rfl, rfl⟩)
                  go_ret3
                  exact ⟨.inl ⟨j, 134, rfl, by decide, rfl⟩, HI.out.below⟩
                | true =>
                  obtain rfl : r = .ok (ends j fs) := hr.symm
                  have hpos : 0 < (ends j fs).length := by
                    cases hx : ends j fs with
                    | nil => rw [hx] at hb2'; cases hb2'
                    | cons f r => simp
                  have HEL := Lib.hid (hel.trans hnum)
                  have HPOS := Lib.hid hpos
                  clear hr hw hb2' hel hnum hpos
                  go_wp2_with (go_at_call 29; refine (HH2.out _ HI.out.frow).mono ?_; rintro e w1 ⟨rfl, rfl⟩)
                  go_ret3
                  refine ⟨.inr ⟨ends j fs, a, cap, rfl, HPOS.out, by rw [HEL.out]; have := HI.out.lei; omega, by rw [HEL.out]; rfl, by rw [HEL.out]; exact HI.out.row⟩, HI.out.below⟩
end Go.Proofs.Ytdaaapingaebkaa
