import Derived.Test.YtkccbpebmiicfaaNfL
import Derived.Test.YtkccbpebmiicfaaNfJ
import Derived.Lib.SmallJoins
namespace Go.Proofs.Ytkccbpebmiicfaa
open Go.RowKit

/-! A machine that is lent, and kept. -/
theorem wpl_appM {w : World} {ops : Array Oper} {rest : List Oper} {o : Oper} {a : Act} {Q : Exit → Act → World → Prop} (hgd : o.guard = none) (s x : Operand)
    (ho : o.op = .call { callee := .builtin .append, args := #[s, x], argTypes := #[33, 33] })
    (B : Nat) (v : Value) (n : Nat) (xs : List Value) (hs : a.eval s = v) (hown : w.ownsRow B 47 7 v n xs) (ad : Option Addr) (m c : Nat) (hx : a.eval x = .slice ad m c) (news : List Value) (hl : news.length = m * 7)
    (hc : 0 < m → ∃ b off, ad = some ⟨b, off, none⟩ ∧ w.rangeAt b off news) (h0 : ad = none → c = 0) (h1 : ∀ u ∈ news, u.oneCell' = true) (hn : n + m ≤ 1099511627776) (hB : B ≤ w.heap.size)
    (h : ∀ v' w', w'.ownsRow B 47 7 v' (n + m) (xs ++ news) → w.grownBy w' v.ownBlock → wpList Try.prog ops Q rest (a.put o.dst v') w') :
    wpList Try.prog ops Q (o :: rest) a w := by
  obtain ⟨i, hi, hz, hsz, hb⟩ := info_parts infoSt3
  refine wpList_plain hgd fun K hK => ?_
  have key : ∃ v' w', (Builtin.append_ #[33, 33] o.type #[v, .slice ad m c]).run Try.prog w = .ok v' w' ∧ w'.ownsRow B 47 7 v' (n + m) (xs ++ news) ∧ w.grownBy w' v.ownBlock := by
    cases ad with
    | none =>
      have hm : m = 0 := Nat.eq_zero_of_not_pos (fun h => by obtain ⟨p, q, hp, _⟩ := hc h; cases hp)
      subst hm
      obtain rfl := h0 rfl
      obtain rfl : news = [] := List.eq_nil_of_length_eq_zero (by omega)
      exact ⟨v, w, run_append_owned_none (P := Try.prog) w B 33 o.type 47 i 7 Try.underlying33 hi v n xs hown, by simpa using hown, ⟨rfl, rfl, rfl, Nat.le_refl _, fun _ _ _ => rfl⟩⟩
    | some p =>
      have hnews : ∀ (j : Nat) u, news[j]? = some u → w.cell? (p.add j) = some u := by
        intro j u hj
        have hlt : j < news.length := (List.getElem?_eq_some_iff.1 hj).1
        obtain ⟨b, off, hp', hr⟩ := hc (by omega)
        cases hp'
        rw [show (⟨b, off, none⟩ : Addr).add j = ⟨b, off + j, none⟩ by unfold Addr.add; split <;> simp_all]
        exact hr j u hj
      obtain ⟨v', w', hr, hown', hg, _⟩ := run_append_own (P := Try.prog) w B 33 o.type 47 i (stVal 0 .zero 0 0) 7 56 Try.underlying33 hi hz hsz hb rfl (by decide) v n xs hown p m c news hl hnews h1 (by simp only [maxLen]; omega) (by omega) hB
      exact ⟨v', w', hr, hown', hg⟩
  obtain ⟨v', w', hr, h2, h3⟩ := key
  unfold Oper.wp execOp
  simp only [ho, resolve, invoke, builtin, Sem.run_bind, Sem.run_pure, Result.andThen_ok, List.map_toArray, List.map_cons, List.map_nil, hs, hx, hr]
  exact hK _ _ (h v' w' h2 h3)
def badS : St := ⟨-77, .zero, 0, 0⟩
set_option maxHeartbeats 1000000 in
set_option maxRecDepth 100000 in
theorem n_keptNfa (L : List St) (g cap c : Nat) (a : Option Addr) (q : Int) (w : World) (hlen : L.length ≤ 5000) (hcap : L.length + 5 ≤ cap) (h1 : RowAt w (some ⟨g, 0, none⟩) ((L ++ List.replicate 5 badS).flatMap St.cells)) (h2 : RowAt w a (L.flatMap St.cells)) :
    Calls Try.prog 20 #[.agg #[.slice (some ⟨g, 0, none⟩) L.length cap, .int .i64 q], .agg #[.slice a L.length c, .int .i64 q]] w fun e w' => e = .returned (.bool true) ∧ Below w.heap.size w w' := by
  have hne : (L ++ List.replicate 5 badS).flatMap St.cells ≠ [] := by
    intro h
    have := congrArg List.length h
    rw [stflat_len] at this
    simp at this
  have hr1 : w.rangeAt g 0 ((L ++ List.replicate 5 badS).flatMap St.cells) := by
    rcases h1 with h | ⟨b, off, e, h⟩
    · exact absurd h hne
    · injection e with e
      injection e with e1 e2
      subst e1 e2
      exact h
  have hL : RowAt w (some ⟨g, 0, none⟩) (L.flatMap St.cells) := .inr ⟨g, 0, rfl, fun j v hv => hr1 j v (by rw [List.flatMap_append, List.getElem?_append_left (List.getElem?_eq_some_iff.1 hv).1]; exact hv)⟩
  have hbad : ∀ i, L.length ≤ i → i < L.length + 5 → ∀ W, Below w.heap.size w W → W.cell? ⟨g, i * 7, none⟩ = some (.int .i64 (-77)) := by
    intro i hi1 hi2 W hW
    have hh := stflat_at (L ++ List.replicate 5 badS) i (by simp; omega) 0 (by decide)
    have he : (L ++ List.replicate 5 badS)[i]'(by simp; omega) = badS := by
      rw [List.getElem_append_right hi1, List.getElem_replicate]
    rw [he] at hh
    have := hr1 (7 * i + 0) _ hh
    rw [show 0 + (7 * i + 0) = i * 7 by omega] at this
    exact below_cell hW _ _ this
  have hsame := fun W (hW : Below w.heap.size w W) => p_sameNfa L (some ⟨g, 0, none⟩) a cap c q W (by omega) (hL.mono (below_cell hW)) (h2.mono (below_cell hW))
  obtain ⟨len, hl⟩ : ∃ len, L.length = len := ⟨_, rfl⟩
  rw [hl] at hlen hcap hbad hsame ⊢
  have HBAD := Lib.hid hbad
  have HSAME := Lib.hid hsame
  have hci : ((len : Int) + 5) ≤ (cap : Int) := by omega
  have e5 : ((len : Int) + 5).toNat = len + 5 := by omega
  have HC1 : Hid (CB ((w.alloc (.cells #[.slice (some ⟨g, 0, none⟩) len cap, .int .i64 q] 35)).alloc (.cells #[.slice a len c, .int .i64 q] 35)) 35 w.heap.size [.slice (some ⟨g, 0, none⟩) len cap, .int .i64 q]) := CB.alloc (CB.new w _ _) _
  have HC2 : Hid (CB ((w.alloc (.cells #[.slice (some ⟨g, 0, none⟩) len cap, .int .i64 q] 35)).alloc (.cells #[.slice a len c, .int .i64 q] 35)) 35 (w.heap.size + 1) [.slice a len c, .int .i64 q]) := cb2 w _ _ _
  have HBW : Hid (Below w.heap.size w ((w.alloc (.cells #[.slice (some ⟨g, 0, none⟩) len cap, .int .i64 q] 35)).alloc (.cells #[.slice a len c, .int .i64 q] 35))) := ((Below.refl _ _).alloc (Nat.le_refl _) _).alloc (by go_size) _
  clear h1 h2 hr1 hL hbad hsame hne hl
  go_enter Try.func20, Try.ntmps20
  go_wp2_with (go_at_call 13; refine (HSAME.out _ HBW.out).mono ?_; rintro e w2 ⟨rfl, hb2⟩; have HB2 := Lib.hid (HBW.out.trans (hb2.mono HBW.out.size)); obtain ⟨⟨x0, x1⟩, -⟩ := CB.two (CB.below HC1.out hb2); obtain ⟨⟨y0, y1⟩, -⟩ := CB.two (CB.below HC2.out hb2); clear hb2)
  go_loopw [6] (fun iv wr => ∃ i : Nat, len ≤ i ∧ i ≤ len + 5 ∧ iv = .int .i64 (i : Nat) ∧ wr = w2) (fun iv _ => len + 5 - (intOf iv).toNat)
  case atStart => exact ⟨len, Nat.le_refl _, by omega, rfl, rfl⟩
  case round =>
    obtain ⟨i, hi1, hi2, rfl, rfl⟩ := hrel
    by_cases hlt : i < len + 5
    · have hc := HBAD.out i hi1 hlt _ HB2.out
      have hii : (i : Int) < ((len + 5 : Nat) : Int) := by omega
      go_wp2
      go_roundw
      case rel => exact ⟨i + 1, by omega, by omega, by go_num, by first | exact rfl | trivial⟩
      case measure => simp [intOf]; omega
    · obtain rfl : i = len + 5 := by omega
      go_wp2
      go_ret
      exact ⟨rfl, HB2.out⟩
theorem lent_row {L : List St} {g : Nat} {w : World} (h1 : RowAt w (some ⟨g, 0, none⟩) ((L ++ List.replicate 5 badS).flatMap St.cells)) : RowAt w (some ⟨g, 0, none⟩) (L.flatMap St.cells) := by
  rcases h1 with h | ⟨b, off, e, h⟩
  · have := congrArg List.length h
    rw [stflat_len] at this
    simp at this
  · exact .inr ⟨b, off, e, fun j v hv => h j v (by rw [List.flatMap_append, List.getElem?_append_left (List.getElem?_eq_some_iff.1 hv).1]; exact hv)⟩
theorem one_states (L : List St) : ∀ u ∈ L.flatMap St.cells, u.oneCell' = true := by
  intro u hu
  obtain ⟨t, _, ht⟩ := List.mem_flatMap.1 hu
  revert ht
  unfold St.cells
  intro ht
  simp only [List.mem_cons, List.mem_nil_iff, or_false] at ht
  rcases ht with rfl | rfl | rfl | rfl | rfl | rfl | rfl <;> rfl
theorem rep_snoc (L : List St) (i : Nat) : (L ++ List.replicate (i + 1) badS).flatMap St.cells = (L ++ List.replicate i badS).flatMap St.cells ++ badS.cells := by
  rw [List.replicate_succ', ← List.append_assoc, List.flatMap_append]
  simp
set_option maxHeartbeats 2000000 in
set_option maxRecDepth 100000 in
theorem n_lentNfaF (L : List St) (F : List Value) (hF : (L ++ List.replicate 5 badS).flatMap St.cells = F) (a : Option Addr) (c : Nat) (q : Int) (w : World) (hlen : L.length ≤ 5000) (hr : RowAt w a (L.flatMap St.cells)) (hnone : a = none → c = 0) :
    Calls Try.prog 17 #[.agg #[.slice a L.length c, .int .i64 q]] w fun e w' => Below w.heap.size w w' ∧ ∃ g cap, L.length + 5 ≤ cap ∧ e = .returned (.agg #[.slice (some ⟨g, 0, none⟩) L.length cap, .int .i64 q]) ∧ RowAt w' (some ⟨g, 0, none⟩) F := by
  have HF := Lib.hid hF
  clear hF
  obtain ⟨len, hl⟩ : ∃ len, L.length = len := ⟨_, rfl⟩
  rw [hl] at hlen ⊢
  have HL := Lib.hid hl
  have HROW := Lib.hid hr
  have HNONE := Lib.hid hnone
  have HBW : Hid (Below w.heap.size w (((w.alloc (.cells #[.slice a len c, .int .i64 q] 35)).alloc (.cells #[.slice none 0 0, .int .i64 0] 35)).alloc (.cells #[.slice none 0 0, .int .i64 q] 35))) := (((Below.refl _ _).alloc (Nat.le_refl _) _).alloc (by go_size) _).alloc (by go_size) _
  have HP : Hid (CB (((w.alloc (.cells #[.slice a len c, .int .i64 q] 35)).alloc (.cells #[.slice none 0 0, .int .i64 0] 35)).alloc (.cells #[.slice none 0 0, .int .i64 q] 35)) 35 w.heap.size [.slice a len c, .int .i64 q]) := CB.alloc (CB.alloc (CB.new w _ _) _) _
  have HRES : Hid (CB (((w.alloc (.cells #[.slice a len c, .int .i64 q] 35)).alloc (.cells #[.slice none 0 0, .int .i64 0] 35)).alloc (.cells #[.slice none 0 0, .int .i64 q] 35)) 35 (w.heap.size + 1) [.slice none 0 0, .int .i64 0]) := CB.alloc (cb2 w _ _ _) _
  have HOUT : Hid (CB (((w.alloc (.cells #[.slice a len c, .int .i64 q] 35)).alloc (.cells #[.slice none 0 0, .int .i64 0] 35)).alloc (.cells #[.slice none 0 0, .int .i64 q] 35)) 35 (w.heap.size + 1 + 1) [.slice none 0 0, .int .i64 q]) := cb3 w _ _ _ _
  have hsz : (((w.alloc (.cells #[.slice a len c, .int .i64 q] 35)).alloc (.cells #[.slice none 0 0, .int .i64 0] 35)).alloc (.cells #[.slice none 0 0, .int .i64 q] 35)).heap.size = w.heap.size + 3 := by simp
  have HSZ := Lib.hid hsz
  have HEL : Hid (0 < len → ∃ b off, a = some ⟨b, off, none⟩ ∧ (((w.alloc (.cells #[.slice a len c, .int .i64 q] 35)).alloc (.cells #[.slice none 0 0, .int .i64 0] 35)).alloc (.cells #[.slice none 0 0, .int .i64 q] 35)).rangeAt b off (L.flatMap St.cells)) := fun h => by
    rcases hr with h9 | ⟨b, off, e, h9⟩
    · have := stflat_len L; rw [h9, hl] at this; simp at this; omega
    · exact ⟨b, off, e, fun j v hv => below_cell HBW.out _ _ (h9 j v hv)⟩
  clear hl hr hnone hsz
  go_enter Try.func17, Try.ntmps17
  go_wp2_with (at_builtin; refine wpl_appM rfl (.tmp 9) (.tmp 11) rfl (w.heap.size + 3) (.slice none 0 0) 0 [] rfl (World.ownsRow_nil _ _ _ _) a len c rfl (L.flatMap St.cells) (by rw [stflat_len, HL.out]; omega) ?_ HNONE.out ?_ (by omega) (by have := HSZ.out; omega) ?_; exact fun h => HEL.out h; exact one_states L; intro v1 w1 hown1 hgr1; have HB1 : Hid (Below w.heap.size w w1) := HBW.out.grown hgr1 (by have := HSZ.out; omega) (fun k hk => (by cases hk)); have hch := Chg.of_grown hgr1; have HP1 := Lib.hid (CB.chg HP.out hch (fun e => (by cases e))); have HRES1 := Lib.hid (CB.chg HRES.out hch (fun e => (by cases e))); have HOUT1 := Lib.hid (CB.chg HOUT.out hch (fun e => (by cases e))); obtain ⟨⟨o0, o1⟩, of0, of1⟩ := CB.two HOUT1.out; obtain ⟨va1, vc1, rfl⟩ := own_slice hown1; have HO1 : Hid (w1.ownsRow (w.heap.size + 3) 47 7 (.slice va1 len vc1) len ((L ++ List.replicate 0 badS).flatMap St.cells)) := (by show World.ownsRow _ _ _ _ _ _ _; have h9 := hown1; simp only [Nat.zero_add] at h9; simpa using h9); have hz1 : (0 : Nat) + len = len := (Nat.zero_add _); clear hown1 hgr1 hch)
  go_loopw [4] (fun iv wr => ∃ (i : Nat) (va : Option Addr) (vc : Nat), i ≤ 5 ∧ iv = .int .i64 (i : Nat) ∧ Hid (wr.ownsRow (w.heap.size + 3) 47 7 (.slice va (len + i) vc) (len + i) ((L ++ List.replicate i badS).flatMap St.cells)) ∧ Hid (CB wr 35 (w.heap.size + 1 + 1) [.slice va (len + i) vc, .int .i64 q]) ∧ Hid (CB wr 35 w.heap.size [.slice a len c, .int .i64 q]) ∧ Hid (CB wr 35 (w.heap.size + 1) [.slice none 0 0, .int .i64 0]) ∧ Hid (Below w.heap.size w wr)) (fun iv _ => 5 - (intOf iv).toNat)
  case atStart => exact ⟨0, va1, vc1, by omega, rfl, (Chg.setCell (S := fun k => k = w.heap.size + 1 + 1) (Chg.refl _ w1) (p := ⟨w.heap.size + 1 + 1, 0, none⟩) rfl _).ownsS HO1.out (fun k hk e => (by have := World.ownsRow.lt HO1.out k hk; omega)), CB.set HOUT1.out 0 _, CB.other HP1.out _ (by show _ ≠ _; simp; omega) _, CB.other HRES1.out _ (by show _ ≠ _; simp) _, HB1.out.setCell (p := ⟨w.heap.size + 1 + 1, 0, none⟩) (by show w.heap.size ≤ w.heap.size + 1 + 1; omega) _⟩
  case round =>
    obtain ⟨i, va, vc, hi, rfl, HO, HU, HPr, HRr, HB⟩ := hrel
    obtain ⟨⟨u0, u1⟩, uf0, uf1⟩ := CB.two HU.out
    obtain ⟨⟨p0, p1⟩, -⟩ := CB.two HPr.out
    obtain ⟨⟨s0, s1⟩, sf0, sf1⟩ := CB.two HRr.out
    by_cases hlt : i < 5
    · have hbx := CB.lt HU.out
      have HNB : Hid (CB (wr.alloc (.cells #[.int .i64 (-77), .int .u64 0, .int .u64 0, .int .u64 0, .int .u64 0, .int .i64 0, .int .i64 0] 47)) 47 wr.heap.size badS.cells) := CB.new wr _ _
      have hn1 : len + i + 1 ≤ 1099511627776 := by omega
      have hsz1 : w.heap.size + 3 ≤ (wr.alloc (.cells #[.int .i64 (-77), .int .u64 0, .int .u64 0, .int .u64 0, .int .u64 0, .int .i64 0, .int .i64 0] 47)).heap.size := by simp only [World.size_alloc]; omega
      go_wp2_with (at_builtin; refine wpl_appS 33 47 Try.underlying33 infoSt3 rfl (by decide) (by decide) rfl (.tmp 19) (.tmp 21) rfl (w.heap.size + 3) (.slice va (len + i) vc) (len + i) ((L ++ List.replicate i badS).flatMap St.cells) rfl ((Chg.of_below ((Below.refl wr.heap.size wr).alloc (Nat.le_refl _) _)).ownsS HO.out (fun k hk => (by have := World.ownsRow.lt HO.out k hk; omega))) wr.heap.size badS.cells rfl rfl ?_ ?_ ?_ ?_ ?_; exact fun x u hx => (CB.cell HNB.out x).trans hx; exact all_one (by rfl); exact hn1; exact hsz1; intro g5 cap5 w5 hown5 hgr5 hBg5 hlt5 hor5; have hch := Chg.of_grown hgr5; have hlo : ∀ k, (Value.slice va (len + i) vc).ownBlock = some k → w.heap.size + 3 ≤ k := (fun k hk => (World.ownsRow.lt HO.out k hk).1); have HU5 := Lib.hid (CB.chg (CB.alloc HU.out _) hch (fun e => (by have := hlo _ e.symm; omega))); have HP5 := Lib.hid (CB.chg (CB.alloc HPr.out _) hch (fun e => (by have := hlo _ e.symm; omega))); have HR5 := Lib.hid (CB.chg (CB.alloc HRr.out _) hch (fun e => (by have := hlo _ e.symm; omega))); have HB5 : Hid (Below w.heap.size w w5) := (HB.out.alloc HB.out.size _).grown hgr5 (by have := HB.out.size; simp only [World.size_alloc]; omega) (fun k hk => (by have := hlo k hk; omega)); obtain ⟨⟨q0, q1⟩, qf0, qf1⟩ := CB.two HU5.out; have HO5 := Lib.hid hown5; clear hown5 hgr5 hch hlo)
      go_roundw
      case rel => exact ⟨i + 1, some ⟨g5, 0, none⟩, cap5, by omega, by go_num, (by show World.ownsRow _ _ _ _ _ _ _; rw [rep_snoc]; exact (Chg.setCell (S := fun k => k = w.heap.size + 1 + 1) (Chg.refl _ w5) (p := ⟨w.heap.size + 1 + 1, 0, none⟩) rfl _).ownsS HO5.out (fun k hk e => (by have := World.ownsRow.lt HO5.out k hk; omega))), CB.set HU5.out 0 _, CB.other HP5.out _ (by show _ ≠ _; simp; omega) _, CB.other HR5.out _ (by show _ ≠ _; simp) _, HB5.out.setCell (p := ⟨w.heap.size + 1 + 1, 0, none⟩) (by show w.heap.size ≤ w.heap.size + 1 + 1; omega) _⟩
      case measure => simp [intOf]; omega
    · obtain rfl : i = 5 := by omega
      obtain ⟨g, cap, cur, hv⟩ : ∃ (g cap : Nat) (_ : Unit), Value.slice va (len + 5) vc = .slice (some ⟨g, 0, none⟩) (len + 5) cap := by
        obtain ⟨g, cap, h⟩ := Go.Joins.ownsRow_form HO.out (by omega)
        exact ⟨g, cap, (), h⟩
      injection hv with e1 e2 e3
      subst e1 e3
      have hcap : len + 5 ≤ vc := by
        rcases HO.out.2 with ⟨h, _⟩ | ⟨g', cap', cur', h1, _, _, h2, _⟩
        · cases h
        · injection h1 with _ _ h3; omega
      have hci : (len : Int) ≤ (vc : Int) := by omega
      have HOF : Hid (wr.ownsRow (w.heap.size + 3) 47 7 (.slice (some ⟨g, 0, none⟩) (len + 5) vc) (len + 5) F) := HF.out ▸ HO.out
      go_wp2
      have h1 := CB.set HU.out 0 (Value.slice (some ⟨g, 0, none⟩) len vc)
      have h2 := CB.set (CB.set (CB.other HRr.out ⟨w.heap.size + 1 + 1, 0, none⟩ (by show w.heap.size + 1 + 1 ≠ w.heap.size + 1; omega) (Value.slice (some ⟨g, 0, none⟩) len vc)) 0 (Value.slice (some ⟨g, 0, none⟩) len vc)) 1 (Value.int .i64 q)
      have h3 := Chg.setCell (S := fun k => k = w.heap.size + 1 + 1 ∨ k = w.heap.size + 1) (Chg.setCell (Chg.setCell (Chg.refl _ wr) (p := ⟨w.heap.size + 1 + 1, 0, none⟩) (.inl rfl) (.slice (some ⟨g, 0, none⟩) len vc)) (p := ⟨w.heap.size + 1, 0, none⟩) (.inr rfl) (.slice (some ⟨g, 0, none⟩) len vc)) (p := ⟨w.heap.size + 1, 1, none⟩) (.inr rfl) (.int .i64 q)
      have h4 := h3.ownsS HOF.out (fun k hk e => (by have := World.ownsRow.lt HOF.out k hk; omega))
      refine bodyPost_ret (ret_row rfl rfl h2 _ Try.underlying35 rfl infoNfa) rfl ⟨?_, g, vc, hcap, rfl, ?_⟩
      · exact ((HB.out.setCell (p := ⟨w.heap.size + 1 + 1, 0, none⟩) (by show w.heap.size ≤ w.heap.size + 1 + 1; omega) _).setCell (p := ⟨w.heap.size + 1, 0, none⟩) (by show w.heap.size ≤ w.heap.size + 1; omega) _).setCell (p := ⟨w.heap.size + 1, 1, none⟩) (by show w.heap.size ≤ w.heap.size + 1; omega) _
      · have h5 := HF.out
        subst h5
        exact own_rowAt h4 (by simp [HL.out])
theorem n_lentNfa (L : List St) (a : Option Addr) (c : Nat) (q : Int) (w : World) (hlen : L.length ≤ 5000) (hr : RowAt w a (L.flatMap St.cells)) (hnone : a = none → c = 0) :
    Calls Try.prog 17 #[.agg #[.slice a L.length c, .int .i64 q]] w fun e w' => Below w.heap.size w w' ∧ ∃ g cap, L.length + 5 ≤ cap ∧ e = .returned (.agg #[.slice (some ⟨g, 0, none⟩) L.length cap, .int .i64 q]) ∧ RowAt w' (some ⟨g, 0, none⟩) ((L ++ List.replicate 5 badS).flatMap St.cells) :=
  n_lentNfaF L _ rfl a c q w hlen hr hnone
end Go.Proofs.Ytkccbpebmiicfaa
