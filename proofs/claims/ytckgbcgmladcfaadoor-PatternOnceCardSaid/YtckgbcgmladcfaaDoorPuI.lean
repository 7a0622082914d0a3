import Derived.Test.YtckgbcgmladcfaaDoorPuF
import Derived.Test.YtckgbcgmladcfaaDoorPuH
namespace Go.Proofs.YtckgbcgmladcfaaDoor
open Go.RowKit

/-! A set written. -/
theorem runs_ok (s : S4) : ∀ x ∈ runsL s.has 256, x.1 ≤ x.2 ∧ x.2 < 256 := fun x hx => (runsR_ok s.has 256).1 x (by unfold runsL at hx; simpa using hx)
theorem flat_runT_take (R : List (Nat × Nat)) (i : Nat) (h : i < R.length) : (R.take (i + 1)).flatMap runT = (R.take i).flatMap runT ++ runT R[i] := by
  rw [List.take_add_one, List.getElem?_eq_getElem h, List.flatMap_append]
  simp
theorem flat_runT_len (R : List (Nat × Nat)) : (R.flatMap runT).length ≤ 11 * R.length := by
  induction R with
  | nil => simp
  | cons x t ih =>
    obtain ⟨a, b⟩ := x
    rw [List.flatMap_cons, List.length_append, List.length_cons]
    have := runT_len a b
    omega
theorem runCells_at (R : List (Nat × Nat)) (i : Nat) (h : i < R.length) : ∀ j, j < 2 → (runCells R)[i * 2 + j]? = [Value.int .u8 ((R[i]).1 : Nat), .int .u8 ((R[i]).2 : Nat)][j]? := by
  induction R generalizing i with
  | nil => cases h
  | cons x t ih =>
    intro j hj
    cases i with
    | zero => unfold runCells; rw [List.flatMap_cons, List.getElem?_append_left (by simp; omega)]; simp
    | succ i =>
      unfold runCells at ih ⊢
      rw [List.flatMap_cons, List.getElem?_append_right (by simp; omega), show (i + 1) * 2 + j - [Value.int .u8 (x.1 : Nat), .int .u8 (x.2 : Nat)].length = i * 2 + j by simp; omega]
      exact ih i (by simpa using h) j hj
/-- A run out of a row. -/
theorem own_run {w : World} {B : Nat} {v : Value} {R : List (Nat × Nat)} (h : w.ownsRow B 59 2 v R.length (runCells R)) {i : Nat} (hi : i < R.length) :
    ∃ g c, v = .slice (some ⟨g, 0, none⟩) R.length c ∧ B ≤ g ∧ g < w.heap.size ∧ w.rangeAt g (0 + i * 2) [.int .u8 ((R[i]).1 : Nat), .int .u8 ((R[i]).2 : Nat)] := by
  rcases h.2 with ⟨_, h2⟩ | ⟨g, cap, cur, rfl, hb, hg, _⟩
  · omega
  · refine ⟨g, cap, rfl, hb, (World.ownsRow.lt h g rfl).2, fun j u hu => ?_⟩
    have hj : j < 2 := by have := (List.getElem?_eq_some_iff.1 hu).1; simpa using this
    rw [Nat.zero_add, World.ownsRow.cellAt h (i * 2 + j) (by omega), runCells_at R i hi j hj]
    exact hu
theorem infoRunS : (Tryd.prog.info? 59).map (·.size) = some 2 := by kernel_rfl
theorem wpl_loadR {w : World} {ops : Array Oper} {rest : List Oper} {o : Oper} {a : Act} {Q : Exit → Act → World → Prop} (x : Operand) (ho : o.op = .load 59 x) (hgd : o.guard = none)
    {g off : Nat} (hx : a.eval x = .pointer (some ⟨g, off, none⟩)) {p q : Value} (hr : w.rangeAt g off [p, q])
    (h : wpList Tryd.prog ops Q rest (a.put o.dst (.agg #[p, q])) w) : wpList Tryd.prog ops Q (o :: rest) a w := by
  refine wpList_plain hgd fun K hK => ?_
  refine wp_load_mid _ x ho g off hx _ _ hr Tryd.underlying59 rfl ?_ (hK _ _ h)
  rw [infoRunS]
  rfl
theorem setTxt_len (s : S4) : (setTxt s).length ≤ 2818 := by
  have h1 := runsL_len s.has 256
  have h2 := flat_runT_len (runsL s.has 256)
  unfold setTxt
  split
  · simp
  · split
    · simp
    · rename_i a b h
      split
      · unfold escT; split <;> simp
      · have := runT_len a b; simp; omega
    · rw [List.length_cons, List.length_append, List.length_singleton]
      omega
theorem setTxt_of {s : S4} (h : s.isAll = false) (h0 : runsL s.has 256 ≠ []) (h1 : ∀ a, runsL s.has 256 ≠ [(a, a)]) : setTxt s = 91 :: ((runsL s.has 256).flatMap runT ++ [93]) := by
  unfold setTxt
  rw [if_neg (by rw [h]; decide)]
  split
  · rename_i e; exact absurd e h0
  · rename_i a b e
    rw [if_neg (fun hab => h1 a (by rw [e, hab]))]
    simp [e]
  · rfl
theorem all_isAll : S4.all.isAll = true := List.all_eq_true.2 fun c hc => S4.has_all c (List.mem_range.1 hc)
theorem isAll_int (s S : S4) (hs : s.fit) (hS : S = .all) : (((s.a : Nat) : Int) == ((S.a : Nat) : Int) && (((s.b : Nat) : Int) == ((S.b : Nat) : Int) && (((s.c : Nat) : Int) == ((S.c : Nat) : Int) && ((s.d : Nat) : Int) == ((S.d : Nat) : Int)))) = s.isAll := by
  rw [Bool.eq_iff_iff]
  simp only [Bool.and_eq_true, beq_iff_eq]
  constructor
  · rintro ⟨h1, h2, h3, h4⟩
    have : s = S := by
      obtain ⟨a, b, c, d⟩ := s
      obtain ⟨e, f, g, i⟩ := S
      simp only [S4.mk.injEq]
      dsimp only at h1 h2 h3 h4
      omega
    rw [this, hS]
    exact all_isAll
  · intro h
    have := S4.isAll_eq hs h
    subst this
    subst hS
    exact ⟨rfl, rfl, rfl, rfl⟩
theorem WS.drewN {a b : World} {wb : Nat} {v0 v1 : Value} {l : List Nat} {o d : Nat} (h : WS a b wb v0 l o d v1) (n : Nat) : WS a (b.drewN n) wb v0 l o d v1 :=
  ⟨⟨h.at_.b8, CB.drewN h.at_.box n, h.at_.row⟩, h.chg.drewN n, h.own⟩
theorem own_drewN {w : World} {B E k n : Nat} {v : Value} {xs : List Value} (h : w.ownsRow B E k v n xs) (m : Nat) : (w.drewN m).ownsRow B E k v n xs := h
theorem own_some {w : World} {B E S n : Nat} {v : Value} {xs : List Value} (h : w.ownsRow B E S v n xs) (hn : 0 < n) : ∃ g c, v = .slice (some ⟨g, 0, none⟩) n c ∧ B ≤ g ∧ g < w.heap.size := by
  rcases h.2 with ⟨_, h2⟩ | ⟨g, cap, cur, rfl, hb, hg, _⟩
  · omega
  · exact ⟨g, cap, rfl, hb, (World.ownsRow.lt h g rfl).2⟩
theorem own_two {w : World} {B E g c : Nat} {a b : Value} (h : w.ownsRow B E 2 (.slice (some ⟨g, 0, none⟩) 1 c) 1 [a, b]) : w.cell? ⟨g, 0, none⟩ = some a ∧ w.cell? ⟨g, 1, none⟩ = some b := by
  rw [World.ownsRow.cellAt h 0 (by omega), World.ownsRow.cellAt h 1 (by omega)]
  exact ⟨rfl, rfl⟩
theorem own_run2 {w : World} {B E g n c : Nat} {R : List (Nat × Nat)} (h : w.ownsRow B E 2 (.slice (some ⟨g, 0, none⟩) n c) n (runCells R)) (hn : R.length = n) {i : Nat} (hi : i < R.length) : w.rangeAt g (i * 2) [.int .u8 ((R[i]).1 : Nat), .int .u8 ((R[i]).2 : Nat)] := fun j u hu => by
  have hj : j < 2 := by have := (List.getElem?_eq_some_iff.1 hu).1; simpa using this
  rw [World.ownsRow.cellAt h (i * 2 + j) (by omega), runCells_at R i hi j hj]
  exact hu
theorem own_far {a b : World} {wb B E k n n' g c : Nat} {v0 v1 : Value} {l : List Nat} {o d : Nat} {xs : List Value} (h : WS a b wb v0 l o d v1) (hr : a.ownsRow B E k (.slice (some ⟨g, 0, none⟩) n' c) n xs) (h1 : g ≠ wb) (h2 : v0.ownBlock ≠ some g) : b.ownsRow B E k (.slice (some ⟨g, 0, none⟩) n' c) n xs :=
  h.chg.ownsS hr fun i hi hS => by
    simp [Value.ownBlock] at hi
    subst hi
    exact hS.elim h1 h2
set_option maxHeartbeats 1500000 in
set_option maxRecDepth 100000 in
theorem p_set (wb : Nat) (s : S4) (l : List Nat) (o d : Nat) (v : Value) (w : World) (hs : s.fit) (h : WC w wb l o d v) (hlen : l.length + 2818 ≤ 549755813888) :
    Calls Tryd.prog 18 #[.pointer (some ⟨wb, 0, none⟩), s.val] w fun e w' => Wrote wb v (l ++ setTxt s) o d w e w' := by
  have HH := Lib.hid h
  have hwb := h.lt
  have HF := Lib.hid hs
  have HS0 : Hid (SB (w.alloc (.cells s.cells.toArray 24)) w.heap.size s) := CB.new w _ s.cells
  obtain ⟨R, hR⟩ : ∃ R, runsL s.has 256 = R := ⟨_, rfl⟩
  obtain ⟨n, hn⟩ : ∃ n, R.length = n := ⟨_, rfl⟩
  have hruns := fun W => p_runs s W hs
  rw [hR] at hruns
  rw [hn] at hruns
  have HRU := Lib.hid hruns
  have hn256 : n ≤ 256 := by rw [← hn, ← hR]; exact runsL_len _ _
  have HR := Lib.hid hR
  have HN := Lib.hid hn
  obtain ⟨b, hb⟩ : ∃ b, s.isAll = b := ⟨_, rfl⟩
  have HE : Hid (∀ S : S4, S = .all → (((s.a : Nat) : Int) == ((S.a : Nat) : Int) && (((s.b : Nat) : Int) == ((S.b : Nat) : Int) && (((s.c : Nat) : Int) == ((S.c : Nat) : Int) && ((s.d : Nat) : Int) == ((S.d : Nat) : Int)))) = b) := fun S hS => by rw [isAll_int s S hs hS, hb]
  have hT1 : b = true → setTxt s = bsN ⟨#[46]⟩ := fun e => by unfold setTxt; rw [if_pos (hb.trans e)]; rfl
  have HT1 := Lib.hid hT1
  clear h hs hruns hR hn hT1
  cases b
  · by_cases h0 : n = 0
    · subst h0
      have hRnil : R = [] := List.eq_nil_of_length_eq_zero HN.out
      subst hRnil
      obtain ⟨L, hL⟩ : ∃ L, l ++ bsN ⟨#[91, 94, 0, 45, 255, 93]⟩ = L := ⟨_, rfl⟩
      have hLl : L.length = l.length + 6 := by rw [← hL, List.length_append, bsN_len]; rfl
      have hT : setTxt s = bsN ⟨#[91, 94, 0, 45, 255, 93]⟩ := by unfold setTxt; rw [if_neg (by rw [hb]; decide), HR.out]; rfl
      rw [hT, hL]
      have HL := Lib.hid hL
      have HLL : Hid (L.length ≤ 549755813888) := (by show _ ≤ _; omega)
      clear hL hLl hb hT
      go_enter Tryd.func18, Tryd.ntmps18
      go_wp2_with (first | (go_at_call 27; refine (HRU.out _).mono ?_; rintro e w2 ⟨rv, rfl, hrow, hb2⟩; have HRW := Lib.hid hrow; obtain ⟨ra, rc, rfl⟩ := own_slice hrow; have HB2 := Lib.hid hb2; have HS2 := Lib.hid (CB.below HS0.out hb2); obtain ⟨s0, s1, s2, s3⟩ := SB.four (CB.below HS0.out hb2); have HW2 := Lib.hid (((WS.refl HH.out).alloc _).below hb2); clear hrow hb2))
      go_region_with (go_at_call 28; refine (p_every _).mono ?_; rintro e w3 ⟨S, rfl, hS, hb3⟩; have hq := HE.out S hS.out; have hb4 := below_drw hb3; obtain ⟨t0, t1, t2, t3⟩ := SB.four (CB.below HS2.out hb4); have HW3 := Lib.hid (HW2.out.below hb4); have HRW3 := Lib.hid ((Chg.of_below hb4).ownsS HRW.out (fun k hk => by have := World.ownsRow.lt HRW.out k hk; omega)))
      all_goals
        go_wp2_with (go_at_call 19; refine (p_put wb _ l L o d v _ HW3.out.at_ HL.out HLL.out).mono ?_; rintro e w4 ⟨rfl, v4, hS4⟩; have HS4 := Lib.hid hS4; clear hS4)
        exact bodyPost_end (results_none rfl _ _ _) rfl ⟨rfl, _, HW3.out.trans HS4.out⟩
    · have hn0 : 0 < n := by omega
      by_cases h1 : ∃ a, R = [(a, a)]
      · obtain ⟨a, rfl⟩ := h1
        have hn1 : 1 = n := HN.out
        subst hn1
        have ha : a < 256 := (runs_ok s (a, a) (by rw [HR.out]; simp)).2
        have hT : setTxt s = escT a := by unfold setTxt; rw [if_neg (by rw [hb]; decide), HR.out]; simp
        have HL2 : Hid (l.length + 2 ≤ 549755813888) := (by show _ ≤ _; omega)
        rw [hT]
        clear hb hT
        go_enter Tryd.func18, Tryd.ntmps18
        go_wp2_with (first | (go_at_call 27; refine (HRU.out _).mono ?_; rintro e w2 ⟨rv, rfl, hrow, hb2⟩; rw [World.size_alloc] at hrow; obtain ⟨g, rc, rfl, hBg, hlg⟩ := own_some hrow hn0; have hgwb : g ≠ wb := (by omega); have HV := Lib.hid (show v.ownBlock ≠ some g from fun e => absurd (World.ownsRow.lt HH.out.row g e).2 (by omega)); have HRW := Lib.hid hrow; have HB2 := Lib.hid hb2; have HS2 := Lib.hid (CB.below HS0.out hb2); obtain ⟨s0, s1, s2, s3⟩ := SB.four (CB.below HS0.out hb2); have HW2 := Lib.hid (((WS.refl HH.out).alloc _).below hb2); clear hrow hb2))
        go_region_with (go_at_call 28; refine (p_every _).mono ?_; rintro e w3 ⟨S, rfl, hS, hb3⟩; have hq := HE.out S hS.out; have hb4 := below_drw hb3; obtain ⟨t0, t1, t2, t3⟩ := SB.four (CB.below HS2.out hb4); have HW3 := Lib.hid (HW2.out.below hb4); have HRW3 := Lib.hid ((Chg.of_below hb4).ownsS HRW.out (fun k hk => by have := World.ownsRow.lt HRW.out k hk; omega)); obtain ⟨r0, r1⟩ := own_two HRW3.out)
        all_goals
          go_wp2
          go_quiet (fail)
          go_wp2_with (go_at_call 29; refine (p_alone wb a l o d v _ ha (HW3.out.drewN _).at_ HL2.out).mono ?_; rintro e w4 ⟨rfl, v4, hS4⟩; have HS4 := Lib.hid hS4; clear hS4)
          exact bodyPost_end (results_none rfl _ _ _) rfl ⟨rfl, _, (HW3.out.drewN _).trans HS4.out⟩
      · obtain ⟨L, hL⟩ : ∃ L, l ++ bsN ⟨#[91]⟩ = L := ⟨_, rfl⟩
        have hLl : L.length = l.length + 1 := by rw [← hL, List.length_append, bsN_len]; rfl
        have hT := setTxt_of hb (by rw [HR.out]; intro e; rw [e] at HN; exact h0 HN.out.symm) (fun a e => h1 ⟨a, by rw [← HR.out, e]⟩)
        rw [HR.out] at hT
        have HT := Lib.hid hT
        have HL := Lib.hid hL
        have HLE : Hid (∀ X : List Nat, L ++ X ++ bsN ⟨#[93]⟩ = l ++ 91 :: (X ++ [93])) := fun X => by rw [← hL]; simp [bsN]
        have HLL : Hid (L.length ≤ 549755813888) := (by show _ ≤ _; omega)
        have HLF : Hid ((l ++ setTxt s).length ≤ 549755813888) := (by show _ ≤ _; rw [List.length_append]; have := setTxt_len s; omega)
        have HOK : Hid (∀ x ∈ R, x.1 ≤ x.2 ∧ x.2 < 256) := fun x hx => runs_ok s x (by rw [HR.out]; exact hx)
        clear hL hb hT
        by_cases h2 : n = 1
        · have hRl : R.length = 1 := by rw [HN.out, h2]
          obtain ⟨x, hx⟩ := List.length_eq_one_iff.1 hRl
          obtain ⟨pa, pb⟩ := x
          have hab : ((pa : Int) == (pb : Int)) = false := by
            simp only [beq_eq_false_iff_ne, ne_eq]
            intro e
            have e' : pa = pb := by omega
            subst e'
            exact h1 ⟨pa, hx⟩
          have HRab := Lib.hid hx
          have H2 := Lib.hid h2
          have e2 : ((n : Int) == 1) = true := by rw [h2]; rfl
          clear hx hRl h1 h0 h2
          go_enter Tryd.func18, Tryd.ntmps18
          go_wp2_with (first | (go_at_call 27; refine (HRU.out _).mono ?_; rintro e w2 ⟨rv, rfl, hrow, hb2⟩; rw [World.size_alloc] at hrow; obtain ⟨g, rc, rfl, hBg, hlg⟩ := own_some hrow hn0; have hgwb : g ≠ wb := (by omega); have HV := Lib.hid (show v.ownBlock ≠ some g from fun e => absurd (World.ownsRow.lt HH.out.row g e).2 (by omega)); have HRW := Lib.hid hrow; have HB2 := Lib.hid hb2; have HS2 := Lib.hid (CB.below HS0.out hb2); obtain ⟨s0, s1, s2, s3⟩ := SB.four (CB.below HS0.out hb2); have HW2 := Lib.hid (((WS.refl HH.out).alloc _).below hb2); clear hrow hb2))
          go_region_with (go_at_call 28; refine (p_every _).mono ?_; rintro e w3 ⟨S, rfl, hS, hb3⟩; have hq := HE.out S hS.out; have hb4 := below_drw hb3; obtain ⟨t0, t1, t2, t3⟩ := SB.four (CB.below HS2.out hb4); have HW3 := Lib.hid (HW2.out.below hb4); have HRW3 := Lib.hid ((Chg.of_below hb4).ownsS HRW.out (fun k hk => by have := World.ownsRow.lt HRW.out k hk; omega)); obtain ⟨r0, r1⟩ := own_two (a := .int .u8 (pa : Nat)) (b := .int .u8 (pb : Nat)) (by have h9 := HRW3.out; rw [HRab.out, H2.out] at h9; exact h9))
          all_goals
            go_wp2
            go_quiet (fail)
            go_wp2_with (go_at_call 19; refine (p_put wb _ l L o d v _ (HW3.out.drewN _).at_ HL.out HLL.out).mono ?_; rintro e w4 ⟨rfl, v4, hS4⟩; have HR4 := Lib.hid (own_far hS4 (own_drewN HRW3.out _) hgwb HV.out); have HA4 := Lib.hid (hS4.apart (g := g) (Nat.lt_of_lt_of_le hlg hb4.size) HV.out); have HS4 := Lib.hid ((HW3.out.drewN _).trans hS4); clear hS4)
            go_loopw [13] (fun iv wr => ∃ (i : Nat) (vi : Value), i ≤ n ∧ iv = .int .i64 (i : Nat) ∧ Hid (WS w wr wb v (L ++ (R.take i).flatMap runT) o d vi) ∧ Hid (wr.ownsRow (w.heap.size + 1 + 1) 59 2 (.slice (some ⟨g, 0, none⟩) n rc) n (runCells R)) ∧ Hid (vi.ownBlock ≠ some g)) (fun iv _ => n - (intOf iv).toNat)
            case atStart => exact ⟨0, v4, Nat.zero_le _, rfl, by rw [List.take_zero, List.flatMap_nil, List.append_nil]; exact HS4, HR4, HA4⟩
            case round =>
              obtain ⟨i, vi, hi, rfl, HWi, HRi, HAi⟩ := hrel
              obtain ⟨M, hM⟩ : ∃ M, L ++ (R.take i).flatMap runT = M := ⟨_, rfl⟩
              rw [hM] at HWi
              have hMl : M.length ≤ L.length + 11 * i := by rw [← hM, List.length_append]; have h9 := flat_runT_len (R.take i); rw [List.length_take] at h9; omega
              by_cases hlt : i < n
              · have hiR : i < R.length := by rw [HN.out]; exact hlt
                obtain ⟨p, hp⟩ : ∃ p, (R[i]).1 = p := ⟨_, rfl⟩
                obtain ⟨q, hqq⟩ : ∃ q, (R[i]).2 = q := ⟨_, rfl⟩
                have hok : (R[i]).1 ≤ (R[i]).2 ∧ (R[i]).2 < 256 := HOK.out _ (List.getElem_mem _)
                have hstep := flat_runT_take R i hiR
                have hpair : R[i] = (p, q) := by rw [← hp, ← hqq]
                rw [hpair] at hstep
                have hrg := own_run2 HRi.out HN.out hiR
                rw [hp, hqq] at hok hrg
                obtain ⟨hpq, hq8⟩ := hok
                have HRG := Lib.hid hrg
                have HST : Hid (L ++ (R.take (i + 1)).flatMap runT = M ++ runT (p, q)) := (by show _ = _; rw [hstep, ← List.append_assoc, hM])
                have HM11 : Hid (M.length + 11 ≤ 549755813888) := (by show _ ≤ _; omega)
                have hgl : ∀ x, g < (wr.alloc x).heap.size := fun x => by rw [World.size_alloc]; have := (World.ownsRow.lt HRi.out g rfl).2; omega
                clear hrg hp hqq hstep hpair hM hMl
                go_wp2_with (first | (refine wpl_loadR (.tmp 15) rfl rfl (g := g) (off := i * 2) (p := .int .u8 (p : Nat)) (q := .int .u8 (q : Nat)) ?_ ?_ ?_; rfl; exact HRG.out) | (go_at_call 30; refine (p_run wb p q M o d vi _ hpq hq8 (HWi.out.at_.alloc _) HM11.out).mono ?_; rintro e w6 ⟨rfl, v6, hS6⟩; have HR6 := Lib.hid (own_far (((WS.refl HWi.out.at_).alloc _).trans hS6) HRi.out hgwb HAi.out); have HA6 := Lib.hid (hS6.apart (g := g) (hgl _) HAi.out); have HS6 := Lib.hid ((HWi.out.alloc _).trans hS6); clear hS6))
                go_roundw
                case rel => exact ⟨i + 1, v6, by omega, by go_num, by rw [HST.out]; exact HS6, HR6, HA6⟩
                case measure => simp [intOf]; omega
              · obtain rfl : i = n := by omega
                have HMF : Hid (M ++ bsN ⟨#[93]⟩ = l ++ setTxt s) := (by show _ = _; rw [← hM, List.take_of_length_le (by rw [HN.out]; exact Nat.le_refl _), HT.out]; exact HLE.out _)
                clear hM hMl
                go_wp2_with (go_at_call 19; refine (p_put wb _ M (l ++ setTxt s) o d vi _ HWi.out.at_ HMF.out HLF.out).mono ?_; rintro e w7 ⟨rfl, v7, hS7⟩; have HS7 := Lib.hid (HWi.out.trans hS7); clear hS7)
                exact bodyPost_end (results_none rfl _ _ _) rfl ⟨rfl, _, HS7.out⟩
        · have e2 : ((n : Int) == 1) = false := by simp; omega
          go_enter Tryd.func18, Tryd.ntmps18
          go_wp2_with (first | (go_at_call 27; refine (HRU.out _).mono ?_; rintro e w2 ⟨rv, rfl, hrow, hb2⟩; rw [World.size_alloc] at hrow; obtain ⟨g, rc, rfl, hBg, hlg⟩ := own_some hrow hn0; have hgwb : g ≠ wb := (by omega); have HV := Lib.hid (show v.ownBlock ≠ some g from fun e => absurd (World.ownsRow.lt HH.out.row g e).2 (by omega)); have HRW := Lib.hid hrow; have HB2 := Lib.hid hb2; have HS2 := Lib.hid (CB.below HS0.out hb2); obtain ⟨s0, s1, s2, s3⟩ := SB.four (CB.below HS0.out hb2); have HW2 := Lib.hid (((WS.refl HH.out).alloc _).below hb2); clear hrow hb2))
          go_region_with (go_at_call 28; refine (p_every _).mono ?_; rintro e w3 ⟨S, rfl, hS, hb3⟩; have hq := HE.out S hS.out; have hb4 := below_drw hb3; obtain ⟨t0, t1, t2, t3⟩ := SB.four (CB.below HS2.out hb4); have HW3 := Lib.hid (HW2.out.below hb4); have HRW3 := Lib.hid ((Chg.of_below hb4).ownsS HRW.out (fun k hk => by have := World.ownsRow.lt HRW.out k hk; omega)))
          all_goals
            go_wp2
            go_quiet (fail)
            go_wp2_with (go_at_call 19; refine (p_put wb _ l L o d v _ (HW3.out.drewN _).at_ HL.out HLL.out).mono ?_; rintro e w4 ⟨rfl, v4, hS4⟩; have HR4 := Lib.hid (own_far hS4 (own_drewN HRW3.out _) hgwb HV.out); have HA4 := Lib.hid (hS4.apart (g := g) (Nat.lt_of_lt_of_le hlg hb4.size) HV.out); have HS4 := Lib.hid ((HW3.out.drewN _).trans hS4); clear hS4)
            go_loopw [13] (fun iv wr => ∃ (i : Nat) (vi : Value), i ≤ n ∧ iv = .int .i64 (i : Nat) ∧ Hid (WS w wr wb v (L ++ (R.take i).flatMap runT) o d vi) ∧ Hid (wr.ownsRow (w.heap.size + 1 + 1) 59 2 (.slice (some ⟨g, 0, none⟩) n rc) n (runCells R)) ∧ Hid (vi.ownBlock ≠ some g)) (fun iv _ => n - (intOf iv).toNat)
            case atStart => exact ⟨0, v4, Nat.zero_le _, rfl, by rw [List.take_zero, List.flatMap_nil, List.append_nil]; exact HS4, HR4, HA4⟩
            case round =>
              obtain ⟨i, vi, hi, rfl, HWi, HRi, HAi⟩ := hrel
              obtain ⟨M, hM⟩ : ∃ M, L ++ (R.take i).flatMap runT = M := ⟨_, rfl⟩
              rw [hM] at HWi
              have hMl : M.length ≤ L.length + 11 * i := by rw [← hM, List.length_append]; have h9 := flat_runT_len (R.take i); rw [List.length_take] at h9; omega
              by_cases hlt : i < n
              · have hiR : i < R.length := by rw [HN.out]; exact hlt
                obtain ⟨p, hp⟩ : ∃ p, (R[i]).1 = p := ⟨_, rfl⟩
                obtain ⟨q, hqq⟩ : ∃ q, (R[i]).2 = q := ⟨_, rfl⟩
                have hok : (R[i]).1 ≤ (R[i]).2 ∧ (R[i]).2 < 256 := HOK.out _ (List.getElem_mem _)
                have hstep := flat_runT_take R i hiR
                have hpair : R[i] = (p, q) := by rw [← hp, ← hqq]
                rw [hpair] at hstep
                have hrg := own_run2 HRi.out HN.out hiR
                rw [hp, hqq] at hok hrg
                obtain ⟨hpq, hq8⟩ := hok
                have HRG := Lib.hid hrg
                have HST : Hid (L ++ (R.take (i + 1)).flatMap runT = M ++ runT (p, q)) := (by show _ = _; rw [hstep, ← List.append_assoc, hM])
                have HM11 : Hid (M.length + 11 ≤ 549755813888) := (by show _ ≤ _; omega)
                have hgl : ∀ x, g < (wr.alloc x).heap.size := fun x => by rw [World.size_alloc]; have := (World.ownsRow.lt HRi.out g rfl).2; omega
                clear hrg hp hqq hstep hpair hM hMl
                go_wp2_with (first | (refine wpl_loadR (.tmp 15) rfl rfl (g := g) (off := i * 2) (p := .int .u8 (p : Nat)) (q := .int .u8 (q : Nat)) ?_ ?_ ?_; rfl; exact HRG.out) | (go_at_call 30; refine (p_run wb p q M o d vi _ hpq hq8 (HWi.out.at_.alloc _) HM11.out).mono ?_; rintro e w6 ⟨rfl, v6, hS6⟩; have HR6 := Lib.hid (own_far (((WS.refl HWi.out.at_).alloc _).trans hS6) HRi.out hgwb HAi.out); have HA6 := Lib.hid (hS6.apart (g := g) (hgl _) HAi.out); have HS6 := Lib.hid ((HWi.out.alloc _).trans hS6); clear hS6))
                go_roundw
                case rel => exact ⟨i + 1, v6, by omega, by go_num, by rw [HST.out]; exact HS6, HR6, HA6⟩
                case measure => simp [intOf]; omega
              · obtain rfl : i = n := by omega
                have HMF : Hid (M ++ bsN ⟨#[93]⟩ = l ++ setTxt s) := (by show _ = _; rw [← hM, List.take_of_length_le (by rw [HN.out]; exact Nat.le_refl _), HT.out]; exact HLE.out _)
                clear hM hMl
                go_wp2_with (go_at_call 19; refine (p_put wb _ M (l ++ setTxt s) o d vi _ HWi.out.at_ HMF.out HLF.out).mono ?_; rintro e w7 ⟨rfl, v7, hS7⟩; have HS7 := Lib.hid (HWi.out.trans hS7); clear hS7)
                exact bodyPost_end (results_none rfl _ _ _) rfl ⟨rfl, _, HS7.out⟩
  · obtain ⟨L, hL⟩ : ∃ L, l ++ bsN ⟨#[46]⟩ = L := ⟨_, rfl⟩
    have hLl : L.length = l.length + 1 := by rw [← hL, List.length_append, bsN_len]; rfl
    rw [HT1.out rfl, hL]
    have HL := Lib.hid hL
    have HLL : Hid (L.length ≤ 549755813888) := (by show _ ≤ _; omega)
    clear hL hLl hb
    go_enter Tryd.func18, Tryd.ntmps18
    go_wp2_with (first | (go_at_call 27; refine (HRU.out _).mono ?_; rintro e w2 ⟨rv, rfl, hrow, hb2⟩; have HRW := Lib.hid hrow; have HB2 := Lib.hid hb2; have HS2 := Lib.hid (CB.below HS0.out hb2); obtain ⟨s0, s1, s2, s3⟩ := SB.four (CB.below HS0.out hb2); have HW2 := Lib.hid (((WS.refl HH.out).alloc _).below hb2); clear hrow hb2))
    go_region_with (go_at_call 28; refine (p_every _).mono ?_; rintro e w3 ⟨S, rfl, hS, hb3⟩; have hq := HE.out S hS.out; have hb4 := below_drw hb3; obtain ⟨t0, t1, t2, t3⟩ := SB.four (CB.below HS2.out hb4); have HW3 := Lib.hid (HW2.out.below hb4))
    all_goals
      go_wp2_with (go_at_call 19; refine (p_put wb _ l L o d v _ HW3.out.at_ HL.out HLL.out).mono ?_; rintro e w4 ⟨rfl, v4, hS4⟩; have HS4 := Lib.hid hS4; clear hS4)
      exact bodyPost_end (results_none rfl _ _ _) rfl ⟨rfl, _, HW3.out.trans HS4.out⟩
end Go.Proofs.YtckgbcgmladcfaaDoor
