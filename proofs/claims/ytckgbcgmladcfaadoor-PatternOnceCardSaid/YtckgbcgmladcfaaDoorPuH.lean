import Derived.Test.YtckgbcgmladcfaaDoorPuG
namespace Go.Proofs.YtckgbcgmladcfaaDoor
open Go.RowKit

/-! The runs of a set. -/
def runCells (R : List (Nat × Nat)) : List Value := R.flatMap fun x => [.int .u8 (x.1 : Nat), .int .u8 (x.2 : Nat)]
theorem runCells_app (a b : List (Nat × Nat)) : runCells (a ++ b) = runCells a ++ runCells b := List.flatMap_append
theorem runCells_len (R : List (Nat × Nat)) : (runCells R).length = 2 * R.length := by
  induction R with
  | nil => rfl
  | cons x t ih => unfold runCells at ih ⊢; rw [List.flatMap_cons, List.length_append, ih]; simp; omega
theorem runsR_len (p : Nat → Bool) (c : Nat) : (runsR p c).length ≤ c := by
  induction c with
  | zero => simp [runsR]
  | succ c ih =>
    rw [runsR]
    split
    · split
      · split
        · rename_i h; rw [h] at ih; simp at ih ⊢; omega
        · simp
      · simp; omega
    · omega
theorem runsL_len (p : Nat → Bool) (c : Nat) : (runsL p c).length ≤ c := by unfold runsL; rw [List.length_reverse]; exact runsR_len p c
theorem runsL_no {p : Nat → Bool} {c : Nat} (h : p c = false) : runsL p (c + 1) = runsL p c := by unfold runsL; rw [runsR, if_neg (by rw [h]; decide)]
theorem runsL_new {p : Nat → Bool} {c : Nat} (h : p c = true) (h2 : ¬ (0 < c ∧ p (c - 1) = true)) : runsL p (c + 1) = runsL p c ++ [(c, c)] := by unfold runsL; rw [runsR, if_pos h, if_neg h2, List.reverse_cons]
theorem runsL_on {p : Nat → Bool} {c : Nat} (h : p c = true) (h0 : 0 < c) (h1 : p (c - 1) = true) : ∃ T a, runsL p c = T ++ [(a, c - 1)] ∧ runsL p (c + 1) = T ++ [(a, c)] := by
  obtain ⟨a, t, e⟩ := runsR_last (p := p) (c := c - 1) h1
  rw [show c - 1 + 1 = c by omega] at e
  refine ⟨t.reverse, a, ?_, ?_⟩
  · unfold runsL; rw [e, List.reverse_cons]
  · unfold runsL; rw [runsR, if_pos h, if_pos ⟨h0, h1⟩, e, List.reverse_cons]
theorem runCells_set (T : List (Nat × Nat)) (a b c : Nat) : (runCells (T ++ [(a, b)])).set (T.length * 2 + 1) (.int .u8 (c : Nat)) = runCells (T ++ [(a, c)]) := by
  rw [runCells_app, runCells_app, List.set_append_right _ _ (by rw [runCells_len]; omega), runCells_len, show T.length * 2 + 1 - 2 * T.length = 1 by omega]
  rfl
theorem infoRun3 : (Tryd.prog.info? 59).map (fun i => (i.zero, i.size, i.bytes)) = some (some (.agg #[.int .u8 0, .int .u8 0]), 2, 2) := by kernel_rfl
theorem own_last {w : World} {B E g n c : Nat} {xs : List Value} (h : w.ownsRow B E 2 (.slice (some ⟨g, 0, none⟩) n c) n xs) (j : Nat) (hj : j < n * 2) : (∃ v, w.cell? ⟨g, j, none⟩ = some v) ∧ w.frozen? ⟨g, j, none⟩ = false := by
  refine ⟨?_, World.ownsRow.frozenAt h j⟩
  rw [World.ownsRow.cellAt h j hj]
  exact ⟨_, List.getElem?_eq_getElem (by have := h.1; omega)⟩
set_option maxHeartbeats 1500000 in
set_option maxRecDepth 100000 in
theorem p_runs (s : S4) (w : World) (hs : s.fit) : Calls Tryd.prog 27 #[s.val] w fun e w' => ∃ v, e = .returned v ∧ w'.ownsRow (w.heap.size + 1) 59 2 v (runsL s.has 256).length (runCells (runsL s.has 256)) ∧ Below w.heap.size w w' := by
  have HF := Lib.hid hs
  have HS0 : Hid (SB (w.alloc (.cells s.cells.toArray 24)) w.heap.size s) := CB.new w _ s.cells
  clear hs
  go_enter Tryd.func27, Tryd.ntmps27
  go_wp2
  go_loopw [3, 6] (fun lv cv wr => ∃ (c n : Nat) (R : List (Nat × Nat)), c ≤ 256 ∧ cv = .int .i64 (c : Nat) ∧ R.length = n ∧ Hid (R = runsL s.has c) ∧ Hid (wr.ownsRow (w.heap.size + 1) 59 2 lv n (runCells R)) ∧ Hid (SB wr w.heap.size s) ∧ Hid (Below w.heap.size w wr)) (fun _ cv _ => 256 - (intOf cv).toNat)
  case atStart => exact ⟨0, 0, [], by omega, rfl, rfl, rfl, World.ownsRow_nil _ _ _ _, HS0.out, (Below.refl _ _).alloc (Nat.le_refl _) _⟩
  case round =>
    obtain ⟨c, n, R, hc, rfl, hRn, HR, HO, HS, HB⟩ := hrel
    obtain ⟨la, lc, rfl⟩ := own_slice HO.out
    by_cases hlt : c < 256
    · have hwc : IntKind.u8.wrap (c : Int) = (c : Int) := wrap_u8_nat c hlt
      obtain ⟨s0, s1, s2, s3⟩ := HS.out.four
      have hcall := p_has s c wr HF.out hlt
      obtain ⟨b, hb⟩ : ∃ b, s.has c = b := ⟨_, rfl⟩
      rw [hb] at hcall
      have HC := Lib.hid hcall
      clear hcall
      have HS2 : Hid (SB (wr.alloc (.cells s.cells.toArray 24)) w.heap.size s) := CB.alloc HS.out _
      have hsz0 := HB.out.size
      have hsl := CB.lt HS.out
      have hn1 : n + 1 ≤ 1099511627776 := by have h := runsL_len s.has c; rw [← HR.out, hRn] at h; omega
      have HA5 : Hid (¬ some w.heap.size = (Value.slice la n lc).ownBlock) := fun e => by have := World.ownsRow.lt HO.out _ e.symm; omega
      have HA6 : Hid (∀ k, some k = (Value.slice la n lc).ownBlock → w.heap.size ≤ k) := fun k e => by have := World.ownsRow.lt HO.out _ e.symm; omega
      cases b
      · have HN := Lib.hid (runsL_no hb)
        clear hb
        go_wp2_with (go_at_call 35; refine HC.out.mono ?_; rintro e w2 ⟨rfl, rfl⟩)
        go_roundw
        case rel => exact ⟨c + 1, n, R, by omega, by go_num, hRn, (by show _ = _; rw [HN.out]; exact HR.out), HO.out.alloc _, CB.alloc HS.out _, HB.out.alloc HB.out.size _⟩
        case measure => simp [intOf]; omega
      · by_cases h0 : 0 < c
        · have hc1 : IntKind.u8.wrap ((c : Int) - 1) = ((c - 1 : Nat) : Int) := by
            rw [show ((c : Int) - 1) = ((c - 1 : Nat) : Int) by omega]
            exact wrap_u8_nat _ (by omega)
          have d0 : (0 : Int) < (c : Int) := by omega
          have hcall := fun W => p_has s (c - 1) W HF.out (by omega)
          obtain ⟨b2, hb2⟩ : ∃ b, s.has (c - 1) = b := ⟨_, rfl⟩
          rw [hb2] at hcall
          have HC2 := Lib.hid hcall
          clear hcall
          cases b2
          · have HN := Lib.hid (runsL_new hb (by rw [hb2]; simp))
            clear hb hb2
            have HNB : Hid (CB (((wr.alloc (.cells s.cells.toArray 24)).alloc (.cells s.cells.toArray 24)).alloc (.cells #[.int .u8 (c : Nat), .int .u8 (c : Nat)] 59)) 59 (wr.heap.size + 1 + 1) [.int .u8 (c : Nat), .int .u8 (c : Nat)]) := cb3 wr _ _ _ _
            have hsz1 : w.heap.size + 1 ≤ (((wr.alloc (.cells s.cells.toArray 24)).alloc (.cells s.cells.toArray 24)).alloc (.cells #[.int .u8 (c : Nat), .int .u8 (c : Nat)] 59)).heap.size := by simp only [World.size_alloc]; omega
            go_wp2_with (first | (go_at_call 35; with_reducible refine HC.out.mono ?_; rintro e w2 ⟨rfl, rfl⟩; obtain ⟨y0, y1, y2, y3⟩ := HS2.out.four) | (go_at_call 35; with_reducible refine (HC2.out _).mono ?_; rintro e w2 ⟨rfl, rfl⟩) | (at_builtin; refine wpl_appS 55 59 Tryd.underlying55 infoRun3 rfl (by decide) (by decide) rfl _ _ rfl (w.heap.size + 1) (.slice la n lc) n (runCells R) rfl (((HO.out.alloc _).alloc _).alloc _) _ [.int .u8 (c : Nat), .int .u8 (c : Nat)] rfl rfl ?_ ?_ ?_ ?_ ?_; exact fun x u hx => (CB.cell HNB.out x).trans hx; exact all_one (by rfl); exact hn1; exact hsz1; intro g5 cap5 w5 hown5 hgr5 hBg5 hlt5 hor5; have HO5 := Lib.hid hown5; have HG5 := Lib.hid hgr5; clear hown5 hgr5))
            go_roundw
            case rel => exact ⟨c + 1, n + 1, R ++ [(c, c)], by omega, by go_num, by rw [List.length_append, hRn]; rfl, (by show _ = _; rw [HN.out, HR.out]), (by show World.ownsRow _ _ _ _ _ _ _; rw [runCells_app]; exact HO5.out), CB.chg (CB.alloc (CB.alloc (CB.alloc HS.out _) _) _) (Chg.of_grown HG5.out) HA5.out, (((HB.out.alloc (by have := HB.out.size; first | omega | (simp only [World.size_alloc]; omega)) _).alloc (by have := HB.out.size; first | omega | (simp only [World.size_alloc]; omega)) _).alloc (by have := HB.out.size; first | omega | (simp only [World.size_alloc]; omega)) _).trans ((Chg.of_grown HG5.out).below (by have := HB.out.size; first | omega | (simp only [World.size_alloc]; omega)) HA6.out)⟩
            case measure => simp [intOf]; omega
          · obtain ⟨T, a, e1, e2⟩ := runsL_on hb h0 hb2
            have hRT : R = T ++ [(a, c - 1)] := HR.out.trans e1
            have hTn : n = T.length + 1 := by rw [← hRn, hRT, List.length_append]; rfl
            subst hTn
            obtain ⟨g, cap, hlv⟩ : ∃ g, ∃ _ : Nat, la = some ⟨g, 0, none⟩ := by
              rcases HO.out.2 with ⟨h1, h2⟩ | ⟨g, cap, cur, h1, _⟩
              · exact absurd h2 (by omega)
              · injection h1 with h1 h3 h4
                exact ⟨g, cap, h1⟩
            subst hlv
            have HE2 := Lib.hid e2
            have HO4 : Hid (((wr.alloc (.cells s.cells.toArray 24)).alloc (.cells s.cells.toArray 24)).ownsRow (w.heap.size + 1) 59 2 (.slice (some ⟨g, 0, none⟩) (T.length + 1) lc) (T.length + 1) (runCells (T ++ [(a, c - 1)]))) := by
              show World.ownsRow _ _ _ _ _ _ _
              rw [← hRT]
              exact (HO.out.alloc _).alloc _
            obtain ⟨⟨vv, z1⟩, z2⟩ := own_last HO4.out (T.length * 2 + 1) (by omega)
            have e9 : (((T.length + 1 : Nat) : Int) - 1) = (T.length : Int) := by omega
            clear hb hb2 e1 e2 hRT
            go_wp2_with (first | (go_at_call 35; with_reducible refine HC.out.mono ?_; rintro e w2 ⟨rfl, rfl⟩; obtain ⟨y0, y1, y2, y3⟩ := HS2.out.four) | (go_at_call 35; with_reducible refine (HC2.out _).mono ?_; rintro e w2 ⟨rfl, rfl⟩))
            have hgl := World.ownsRow.lt HO4.out g rfl
            go_roundw
            case rel => exact ⟨c + 1, T.length + 1, T ++ [(a, c)], by omega, by go_num, by rw [List.length_append]; rfl, HE2.out.symm, (by show World.ownsRow _ _ _ _ _ _ _; rw [← runCells_set T a (c - 1) c]; exact (World.ownsRow.stored HO4.out (T.length * 2 + 1) _).1), CB.other (CB.alloc (CB.alloc HS.out _) _) _ (by show g ≠ w.heap.size; omega) _, ((HB.out.alloc (by have := HB.out.size; omega) _).alloc (by have := HB.out.size; simp only [World.size_alloc]; omega) _).setCell (p := ⟨g, T.length * 2 + 1, none⟩) (by show w.heap.size ≤ g; omega) _⟩
            case measure => simp [intOf]; omega
        · have HN := Lib.hid (runsL_new hb (fun h => h0 h.1))
          have d0 : ¬ (0 : Int) < (c : Int) := by omega
          clear hb
          have HNB : Hid (CB ((wr.alloc (.cells s.cells.toArray 24)).alloc (.cells #[.int .u8 (c : Nat), .int .u8 (c : Nat)] 59)) 59 (wr.heap.size + 1) [.int .u8 (c : Nat), .int .u8 (c : Nat)]) := cb2 wr _ _ _
          have hsz1 : w.heap.size + 1 ≤ ((wr.alloc (.cells s.cells.toArray 24)).alloc (.cells #[.int .u8 (c : Nat), .int .u8 (c : Nat)] 59)).heap.size := by simp only [World.size_alloc]; omega
          go_wp2_with (first | (go_at_call 35; with_reducible refine HC.out.mono ?_; rintro e w2 ⟨rfl, rfl⟩; obtain ⟨y0, y1, y2, y3⟩ := HS2.out.four) | (at_builtin; refine wpl_appS 55 59 Tryd.underlying55 infoRun3 rfl (by decide) (by decide) rfl _ _ rfl (w.heap.size + 1) (.slice la n lc) n (runCells R) rfl ((HO.out.alloc _).alloc _) _ [.int .u8 (c : Nat), .int .u8 (c : Nat)] rfl rfl ?_ ?_ ?_ ?_ ?_; exact fun x u hx => (CB.cell HNB.out x).trans hx; exact all_one (by rfl); exact hn1; exact hsz1; intro g5 cap5 w5 hown5 hgr5 hBg5 hlt5 hor5; have HO5 := Lib.hid hown5; have HG5 := Lib.hid hgr5; clear hown5 hgr5))
          go_roundw
          case rel => exact ⟨c + 1, n + 1, R ++ [(c, c)], by omega, by go_num, by rw [List.length_append, hRn]; rfl, (by show _ = _; rw [HN.out, HR.out]), (by show World.ownsRow _ _ _ _ _ _ _; rw [runCells_app]; exact HO5.out), CB.chg (CB.alloc (CB.alloc HS.out _) _) (Chg.of_grown HG5.out) HA5.out, ((HB.out.alloc (by have := HB.out.size; first | omega | (simp only [World.size_alloc]; omega)) _).alloc (by have := HB.out.size; first | omega | (simp only [World.size_alloc]; omega)) _).trans ((Chg.of_grown HG5.out).below (by have := HB.out.size; first | omega | (simp only [World.size_alloc]; omega)) HA6.out)⟩
          case measure => simp [intOf]; omega
    · obtain rfl : c = 256 := by omega
      go_wp2
      go_ret
      refine ⟨_, rfl, ?_, HB.out⟩
      rw [← HR.out, hRn]
      exact HO.out
end Go.Proofs.YtckgbcgmladcfaaDoor
