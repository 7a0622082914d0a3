import Derived.Test.YthhchpmlljfpjaaGreatPuS
import Derived.Test.YthhchpmlljfpjaaGreatMP5
import Derived.Test.YthhchpmlljfpjaaGreatMP1
import Derived.Test.YthhchpmlljfpjaaGreatNP5
import Derived.Test.YthhchpmlljfpjaaGreatPP1
namespace Go.Proofs.YthhchpmlljfpjaaGreat
open Go.RowKit

section
/-! The fixed patterns of match's own check. -/
theorem plain_c : atomPlain 99 := by
  unfold atomPlain isRep
  decide
def endA : PT := .mk 4 .zero 0 0 [setT (S4.span 97 97), endT]
def begA : PT := .mk 4 .zero 0 0 [beginT, setT (S4.span 97 97)]
def abC : PT := .mk 4 .zero 0 0 [repT4 1 (-1) abT, setT (S4.span 99 99)]
theorem run_endA : Run 0 (.pat []) [97, 36] (.ok endA []) :=
  .patEnd (acc := []) (.altMore (by simp) (by simp [hd, isEnd]) (.pieceOk (.atomByte (plain_byte 97 (.inl rfl))) (.repEnd (by simp [hd, isRep]))) (.altMore (by simp) (by simp [hd, isEnd]) (.pieceOk .atomEnd (.repEnd (by simp [hd]))) (.altEnd (.inl rfl)))) (by simp)
theorem run_begA : Run 0 (.pat []) [94, 97] (.ok begA []) :=
  .patEnd (acc := []) (.altMore (by simp) (by simp [hd, isEnd]) (.pieceOk .atomBegin (.repEnd (by simp [hd, isRep]))) (.altMore (by simp) (by simp [hd, isEnd]) (.pieceOk (.atomByte (plain_byte 97 (.inl rfl))) (.repEnd (by simp [hd]))) (.altEnd (.inl rfl)))) (by simp)
theorem run_abC : Run 0 (.pat []) [40, 97, 98, 41, 43, 99] (.ok abC []) := by
  have hab : Run 1 (.pat []) [97, 98, 41, 43, 99] (.ok abT [41, 43, 99]) :=
    .patEnd (acc := []) (.altMore (by simp) (by simp [hd, isEnd]) (.pieceOk (.atomByte (plain_byte 97 (.inl rfl))) (.repEnd (by simp [hd, isRep]))) (.altMore (by simp) (by simp [hd, isEnd]) (.pieceOk (.atomByte (plain_byte 98 (.inr rfl))) (.repEnd (by simp [hd, isRep]))) (.altEnd (.inr (by simp [hd, isEnd]))))) (by simp)
  exact .patEnd (acc := []) (.altMore (by simp) (by simp [hd, isEnd]) (.pieceOk (.atomGroup (by decide) hab) (.repOk (.plus _) (.repEnd (by simp [hd, isRep])))) (.altMore (by simp) (by simp [hd, isEnd]) (.pieceOk (.atomByte plain_c) (.repEnd (by simp [hd]))) (.altEnd (.inl rfl)))) (by simp)
theorem run_open : Run 0 (.pat []) [97, 40] (.no 100) :=
  .patErr (.altMore (by simp) (by simp [hd, isEnd]) (.pieceOk (.atomByte (plain_byte 97 (.inl rfl))) (.repEnd (by simp [hd, isRep]))) (.altErr (by simp) (by simp [hd, isEnd]) (.pieceErr (.atomOpen (by decide) (.patEnd (acc := []) (.altEnd (.inl rfl)) (by simp)) (by simp)))))
end

section
/-! Compile and Find of a pattern that is read. -/
/-- A whole value into a block that is known whole. -/
theorem wpl_storeQ {w : World} {ops : Array Oper} {rest : List Oper} {o : Oper} {a : Act} {Q : Exit → Act → World → Prop} (ty : TypeId) (x y : Operand) (ho : o.op = .store ty x y) (hgd : o.guard = none)
    {t : TypeId} {g : Nat} {cur : List Value} (hc : CB w t g cur) (hx : a.eval x = .pointer (some ⟨g, 0, none⟩)) {vs : Array Value} (hy : a.eval y = .agg vs) (hn : vs.size = cur.length) (hi : (Tryz.prog.info? ty).map (·.size) = some cur.length) (h1 : (vs.toList.all fun v => v.oneCell') = true)
    (h : ∀ w', CB w' t g vs.toList → Chg (fun k => k = g) w w' → w'.heap.size = w.heap.size → wpList Tryz.prog ops Q rest (a.put o.dst undef) w') : wpList Tryz.prog ops Q (o :: rest) a w := by
  refine wpList_plain hgd fun K hK => ?_
  refine wp_storec ty x y ho g 0 cur.length hx vs.toList (by simpa using hy) (by simpa using hn) hc hi (by omega) (List.all_eq_true.1 h1) fun w' h2 h3 h4 => hK _ _ (h w' ?_ h3 h4)
  have e : splice cur 0 vs.toList = vs.toList := by
    unfold splice
    simp [hn]
  rw [e] at h2
  exact h2
theorem Chg.ownsQ {S : Nat → Prop} {w w' : World} (h : Chg S w w') {B E n k : Nat} {v : Value} {xs : List Value} (ho : w.ownsRow B E k v n xs) (hn : ∀ k, v.ownBlock = some k → ¬ S k) : w'.ownsRow B E k v n xs := by
  refine ⟨ho.1, ?_⟩
  rcases ho.2 with h0 | ⟨g, cap, cur, rfl, hb, hg, rest⟩
  · exact .inl h0
  · exact .inr ⟨g, cap, cur, rfl, hb, h.heap hg (hn g rfl), rest⟩
theorem infoNf : (Tryz.prog.info? 24).map (·.size) = some 2 := by kernel_rfl
theorem bel_one {B : Nat} {w w' : World} {g : Nat} (h : Chg (fun k => k = g) w w') (hs : B ≤ w.heap.size) (hg : B ≤ g) : Below B w w' := h.below hs fun k hk => by omega
set_option maxHeartbeats 2000000 in
set_option maxRecDepth 100000 in
theorem m_Compile (s : ByteArray) (T : PT) (w : World) (hg : Gl w) (hw : 0 + 2 ≤ w.heap.size) (hl : (bsN s).length ≤ 1024) (hr : Run 0 (.pat []) (bsN s) (.ok T [])) (hnum : ∀ t : NT, t.pt = T → t.num) (h0 : sizeE T = 0) (L : List St) (q : Nat) (hL : mk11 T = (L, q)) :
    Calls Tryz.prog 13 #[.string s] w fun e w' => ∃ a c, e = .returned (.tuple #[.agg #[.slice a L.length c, .int .i64 (q : Nat)], .int .i64 0]) ∧ Hid (RowAt w' a (L.flatMap St.cells)) ∧ Below w.heap.size w w' := by
  have hcb : CB (w.alloc (.cells #[.slice none 0 0, .int .i64 0] 24)) 24 w.heap.size [.slice none 0 0, .int .i64 0] := CB.new w _ [.slice none 0 0, .int .i64 0]
  have hb0 : Below w.heap.size w (w.alloc (.cells #[.slice none 0 0, .int .i64 0] 24)) := (Below.refl _ _).alloc (Nat.le_refl _) _
  have hp := p_parse_ok s T (w.alloc (.cells #[.slice none 0 0, .int .i64 0] 24)) (hg.below hb0) (Nat.le_trans hw hb0.size) hl hr
  have HCB := Lib.hid hcb
  have HB0 := Lib.hid hb0
  have HP := Lib.hid hp
  have HNUM := Lib.hid hnum
  have HL := Lib.hid hL
  have H0 := Lib.hid h0
  clear hcb hb0 hp hg hw hl hr hnum hL h0
  go_enter Tryz.func13, Tryz.ntmps13
  go_wp2_with fail
  refine HP.out.mono ?_
  rintro e w2 ⟨hb2, k, S, m, n, a, cc, d, ps, hN, hpt, rfl⟩
  have HN2 := Lib.hid (NT.Own.lies _ hN.own)
  have hlies := HN2.out.below ((Below.refl w2.heap.size w2).alloc (Nat.le_refl _) (.cells #[.int .i64 k, .int .u64 (S.a : Nat), .int .u64 (S.b : Nat), .int .u64 (S.c : Nat), .int .u64 (S.d : Nat), .int .i64 m, .int .i64 n, .slice a cc d] 42))
  have hmk := n_Make (.mk k S m n (.slice a cc d) ps) _ (HNUM.out _ hpt) hlies (by rw [hpt]; exact H0.out)
  rw [hpt] at hmk
  unfold MadeM at hmk
  rw [HL.out] at hmk
  have HMK := Lib.hid hmk
  have HB2 := Lib.hid (b_next HB0.out hb2)
  have HC2 := Lib.hid (CB.alloc (CB.below HCB.out hb2) (.cells #[.int .i64 k, .int .u64 (S.a : Nat), .int .u64 (S.b : Nat), .int .u64 (S.c : Nat), .int .u64 (S.d : Nat), .int .i64 m, .int .i64 n, .slice a cc d] 42))
  have HB2a := Lib.hid (HB2.out.alloc HB2.out.size (.cells #[.int .i64 k, .int .u64 (S.a : Nat), .int .u64 (S.b : Nat), .int .u64 (S.c : Nat), .int .u64 (S.d : Nat), .int .i64 m, .int .i64 n, .slice a cc d] 42))
  clear hb2 hN hpt hlies hmk
  go_wp2_with fail
  refine HMK.out.mono ?_
  rintro e w3 ⟨hb3, ma, mc, rfl, hown⟩
  have HB3 := Lib.hid (b_next HB2a.out hb3)
  have HC3 := Lib.hid (CB.below HC2.out hb3)
  have HO := Lib.hid hown
  clear hown hb3
  go_wp2_with (refine wpl_storeQ 24 (.tmp 2) _ rfl rfl (t := 24) (g := w.heap.size) (cur := [.slice none 0 0, .int .i64 0]) (vs := #[.slice ma L.length mc, .int .i64 (q : Nat)]) ?_ ?_ ?_ ?_ ?_ ?_ ?_; exact HC3.out; rfl; rfl; rfl; exact infoNf; rfl; intro w5 hc5 hch5 hsz5)
  refine bodyPost_ret (results_cbT rfl rfl rfl hc5 Tryz.underlying24 infoNf) rfl ?_
  have hown5 := hch5.ownsQ HO.out fun k hk e => by
    have h1 := (HO.out.lt k hk).1
    have h2 := HC2.out.lt
    omega
  exact ⟨ma, ⟨mc, rfl⟩, own_rowAt hown5 rfl, HB3.out.trans (bel_one hch5 HB3.out.size (Nat.le_refl _))⟩
set_option maxHeartbeats 2000000 in
set_option maxRecDepth 100000 in
theorem m_CompileNo (s : ByteArray) (E : Nat) (w : World) (hg : Gl w) (hw : 0 + 2 ≤ w.heap.size) (hl : (bsN s).length ≤ 1024) (hE : E ≠ 0) (hr : Run 0 (.pat []) (bsN s) (.no E)) :
    Calls Tryz.prog 13 #[.string s] w fun e w' => e = .returned (.tuple #[.agg #[.slice none 0 0, .int .i64 0], .int .i64 (E : Nat)]) ∧ Below w.heap.size w w' := by
  have hcb : CB (w.alloc (.cells #[.slice none 0 0, .int .i64 0] 24)) 24 w.heap.size [.slice none 0 0, .int .i64 0] := CB.new w _ [.slice none 0 0, .int .i64 0]
  have hb0 : Below w.heap.size w (w.alloc (.cells #[.slice none 0 0, .int .i64 0] 24)) := (Below.refl _ _).alloc (Nat.le_refl _) _
  have hp := p_parse_no s E (w.alloc (.cells #[.slice none 0 0, .int .i64 0] 24)) (hg.below hb0) (Nat.le_trans hw hb0.size) hl hE hr
  have HCB := Lib.hid hcb
  have HB0 := Lib.hid hb0
  have HP := Lib.hid hp
  clear hcb hb0 hp hg hw hl hr
  go_enter Tryz.func13, Tryz.ntmps13
  go_wp2_with fail
  refine HP.out.mono ?_
  rintro e w2 ⟨hb2, k, hk, rfl⟩
  obtain rfl : k = (E : Int) := by omega
  have hE2 : ((E : Int) == 0) = false := by simpa using hE
  have HB2 := Lib.hid (b_next HB0.out hb2)
  have HC2 := Lib.hid (CB.alloc (CB.below HCB.out hb2) (.cells #[.int .i64 0, .int .u64 0, .int .u64 0, .int .u64 0, .int .u64 0, .int .i64 0, .int .i64 0, .slice none 0 0] 42))
  have HB2a := Lib.hid (HB2.out.alloc HB2.out.size (.cells #[.int .i64 0, .int .u64 0, .int .u64 0, .int .u64 0, .int .u64 0, .int .i64 0, .int .i64 0, .slice none 0 0] 42))
  clear hb2 hk
  go_wp2_with (refine wpl_storeQ 24 (.tmp 2) _ rfl rfl (t := 24) (g := w.heap.size) (cur := [.slice none 0 0, .int .i64 0]) (vs := #[.slice none 0 0, .int .i64 0]) ?_ ?_ ?_ ?_ ?_ ?_ ?_; exact HC2.out; rfl; rfl; rfl; exact infoNf; rfl; intro w5 hc5 hch5 hsz5)
  refine bodyPost_ret (results_cbT rfl rfl rfl hc5 Tryz.underlying24 infoNf) rfl ?_
  exact ⟨rfl, HB2a.out.trans (bel_one hch5 HB2a.out.size (Nat.le_refl _))⟩
set_option maxHeartbeats 2000000 in
set_option maxRecDepth 100000 in
theorem m_Find (p s : ByteArray) (T : PT) (w : World) (hg : Gl w) (hw : 0 + 2 ≤ w.heap.size) (hl : (bsN p).length ≤ 1024) (hr : Run 0 (.pat []) (bsN p) (.ok T [])) (hnum : ∀ t : NT, t.pt = T → t.num) (h0 : sizeE T = 0) (L : List St) (q : Nat) (hL : mk11 T = (L, q)) (hlen : L.length ≤ 5000) (hfit : ∀ x ∈ L, x.s.fit) (B : Bool) (K : Nat) (E : Int) (hv : hasV L (q : Int) (bsN s) = (B, K, E)) :
    Calls Tryz.prog 14 #[.string p, .string s] w fun e w' => e = .returned (.tuple #[.bool B, .int .i64 (K : Nat), .int .i64 E]) ∧ Below w.heap.size w w' := by
  have HC := Lib.hid (m_Compile p T w hg hw hl hr hnum h0 L q hL)
  have HHAS := Lib.hid fun a c W hx => m_Has L a c q s W (by omega) hx hfit B K E hv
  clear hg hw hl hr hnum h0 hL hfit hv
  go_enter Tryz.func14, Tryz.ntmps14
  go_wp2_with (first | (go_at_call 13; refine HC.out.mono ?_; rintro e w1 ⟨ma, mc, rfl, HR1, hb1⟩; have HB1 := Lib.hid (hb1.alloc hb1.size (.cells #[.slice ma L.length mc, .int .i64 (q : Nat)] 24)); have HR2 := Lib.hid (HR1.out.mono (below_cell ((Below.refl w1.heap.size w1).alloc (Nat.le_refl _) (.cells #[.slice ma L.length mc, .int .i64 (q : Nat)] 24)))); clear hb1) | (go_at_call 9; refine (HHAS.out _ _ _ HR2.out).mono ?_; rintro e w2 ⟨rfl, hb2⟩; have HB2 := Lib.hid (b_next HB1.out hb2); clear hb2))
  go_ret3
  exact ⟨rfl, HB2.out⟩
set_option maxHeartbeats 2000000 in
set_option maxRecDepth 100000 in
theorem m_FindNo (p s : ByteArray) (E : Nat) (w : World) (hg : Gl w) (hw : 0 + 2 ≤ w.heap.size) (hl : (bsN p).length ≤ 1024) (hE : E ≠ 0) (hr : Run 0 (.pat []) (bsN p) (.no E)) :
    Calls Tryz.prog 14 #[.string p, .string s] w fun e w' => e = .returned (.tuple #[.bool false, .int .i64 0, .int .i64 (E : Nat)]) ∧ Below w.heap.size w w' := by
  have HC := Lib.hid (m_CompileNo p E w hg hw hl hE hr)
  have hE2 : ((E : Int) == 0) = false := by simpa using hE
  clear hg hw hl hr
  go_enter Tryz.func14, Tryz.ntmps14
  go_wp2_with (go_at_call 13; refine HC.out.mono ?_; rintro e w1 ⟨rfl, hb1⟩; have HB1 := Lib.hid (hb1.alloc hb1.size (.cells #[.slice none 0 0, .int .i64 0] 24)); clear hb1)
  go_ret3
  exact ⟨rfl, HB1.out⟩
end

section
/-! works: the package's own patterns. -/
theorem find_of (p s : ByteArray) (P U : List Nat) (hP : bsN p = P) (hU : bsN s = U) (T : PT) (w : World) (hg : Gl w) (hw : 0 + 2 ≤ w.heap.size) (hl : P.length ≤ 1024) (hr : Run 0 (.pat []) P (.ok T [])) (hmay : may T = true) (hs : setsOk T) (h0 : sizeE T = 0)
    (hc : chkM (mk11 T).1 ((mk11 T).2 : Nat) = 0) (hlen : U.length ≤ 65536) (Xs : List (List Nat)) (B : Bool) (K : Nat) (hgo : goB (mk11 T).1 (mk11 T).2 U 0 [] Xs = some (B, K)) :
    Calls Tryz.prog 14 #[.string p, .string s] w fun e w' => e = .returned (.tuple #[.bool B, .int .i64 (K : Nat), .int .i64 0]) ∧ Below w.heap.size w w' := by
  subst hP hU
  obtain ⟨hm, -⟩ := chk_mach hc
  rw [Int.toNat_natCast] at hm
  refine m_Find p s T w hg hw hl hr (fun t ht => NT.num_of t (by rw [ht]; exact hmay) (by rw [ht]; exact hs)) h0 (mk11 T).1 (mk11 T).2 rfl (by have := hm.len; omega) (fun x hx => ?_) B K 0 ?_
  · have hgood : GoodS (mk11 T).1 := (lay_laid T hmay hs 0 [doneS] (by decide) (by decide) good_done).2.2
    obtain ⟨i, hi, rfl⟩ := List.getElem_of_mem hx
    exact (hgood i hi).2.2.2.2.2.2.2.2.2
  · unfold hasV
    rw [if_neg (by omega), if_neg (by omega), Int.toNat_natCast, hasM_of hm Xs hgo]
theorem sets_endA : setsOk endA := by
  unfold endA endT setT
  simp only [setsOk, setsOkL, and_true]
  exact ⟨S4.zero_fit, S4.of_fit _, S4.zero_fit⟩
theorem sets_begA : setsOk begA := by
  unfold begA beginT setT
  simp only [setsOk, setsOkL, and_true]
  exact ⟨S4.zero_fit, S4.zero_fit, S4.of_fit _⟩
theorem sets_abC : setsOk abC := by
  unfold abC abT repT4 setT
  simp only [setsOk, setsOkL, and_true]
  exact ⟨S4.zero_fit, ⟨S4.zero_fit, S4.zero_fit, S4.of_fit _, S4.of_fit _⟩, S4.of_fit _⟩
theorem f_endA (w : World) (hg : Gl w) (hw : 0 + 2 ≤ w.heap.size) : Calls Tryz.prog 14 #[.string ⟨#[97, 36]⟩, .string ⟨#[98, 97]⟩] w fun e w' => e = .returned (.tuple #[.bool true, .int .i64 5, .int .i64 0]) ∧ Below w.heap.size w w' :=
  find_of ⟨#[97, 36]⟩ ⟨#[98, 97]⟩ [97, 36] [98, 97] rfl rfl endA w hg hw (by decide) run_endA (by decide +kernel) sets_endA (by decide +kernel) (by decide +kernel) (by decide) [[2], [2], [2, 1, 0]] true 5 (by kernel_rfl)
theorem f_begA (w : World) (hg : Gl w) (hw : 0 + 2 ≤ w.heap.size) : Calls Tryz.prog 14 #[.string ⟨#[94, 97]⟩, .string ⟨#[98, 97]⟩] w fun e w' => e = .returned (.tuple #[.bool false, .int .i64 4, .int .i64 0]) ∧ Below w.heap.size w w' :=
  find_of ⟨#[94, 97]⟩ ⟨#[98, 97]⟩ [94, 97] [98, 97] rfl rfl begA w hg hw (by decide) run_begA (by decide +kernel) sets_begA (by decide +kernel) (by decide +kernel) (by decide) [[2, 1], [2], [2]] false 4 (by kernel_rfl)
theorem f_abC (w : World) (hg : Gl w) (hw : 0 + 2 ≤ w.heap.size) : Calls Tryz.prog 14 #[.string ⟨#[40, 97, 98, 41, 43, 99]⟩, .string ⟨#[120, 97, 98, 97, 98, 99]⟩] w fun e w' => e = .returned (.tuple #[.bool true, .int .i64 17, .int .i64 0]) ∧ Below w.heap.size w w' :=
  find_of ⟨#[40, 97, 98, 41, 43, 99]⟩ ⟨#[120, 97, 98, 97, 98, 99]⟩ [40, 97, 98, 41, 43, 99] [120, 97, 98, 97, 98, 99] rfl rfl abC w hg hw (by decide) run_abC (by decide +kernel) sets_abC (by decide +kernel) (by decide +kernel) (by decide) [[6], [6], [6, 5], [6, 2, 4, 1], [6, 5, 3], [6, 2, 4, 1], [6, 0]] true 17 (by kernel_rfl)
theorem f_open (w : World) (hg : Gl w) (hw : 0 + 2 ≤ w.heap.size) : Calls Tryz.prog 14 #[.string ⟨#[97, 40]⟩, .string ⟨#[]⟩] w fun e w' => e = .returned (.tuple #[.bool false, .int .i64 0, .int .i64 100]) ∧ Below w.heap.size w w' :=
  m_FindNo ⟨#[97, 40]⟩ ⟨#[]⟩ 100 w hg hw (by decide) (by decide) run_open
theorem f_zero (w : World) : Calls Tryz.prog 9 #[.agg #[.slice none 0 0, .int .i64 0], .string ⟨#[]⟩] w fun e w' => e = .returned (.tuple #[.bool false, .int .i64 0, .int .i64 110]) ∧ Below w.heap.size w w' :=
  m_Has [] none 0 0 ⟨#[]⟩ w (Nat.zero_le _) (.inl rfl) (fun x hx => by cases hx) false 0 110 (by unfold hasV; rw [if_pos (by decide +kernel)]; rw [show chkM [] 0 = 110 by decide +kernel])
set_option maxHeartbeats 2000000 in
set_option maxRecDepth 100000 in
theorem m_works (w : World) (hg : Gl w) (hw : 0 + 2 ≤ w.heap.size) : Calls Tryz.prog 12 #[] w fun e w' => e = .returned (.bool true) ∧ Below w.heap.size w w' := by
  have HG : Hid (∀ W, Below w.heap.size w W → Gl W) := fun W h => hg.below h
  have HW : Hid (∀ W, Below w.heap.size w W → 0 + 2 ≤ W.heap.size) := fun W h => Nat.le_trans hw h.size
  have HB0 : Hid (Below w.heap.size w w) := Below.refl _ _
  clear hg hw
  go_enter Tryz.func12, Tryz.ntmps12
  go_wp2_with (first | (go_at_call 9; refine (f_zero _).mono ?_; rintro e w5 ⟨rfl, hb5⟩; have HB5 := Lib.hid (b_next HB4.out hb5); clear hb5) | (go_at_call 14; refine (f_open _ (HG.out _ HB3.out) (HW.out _ HB3.out)).mono ?_; rintro e w4 ⟨rfl, hb4⟩; have HB4 := Lib.hid (b_next HB3.out hb4); clear hb4) | (go_at_call 14; refine (f_abC _ (HG.out _ HB2.out) (HW.out _ HB2.out)).mono ?_; rintro e w3 ⟨rfl, hb3⟩; have HB3 := Lib.hid (b_next HB2.out hb3); clear hb3) | (go_at_call 14; refine (f_begA _ (HG.out _ HB1.out) (HW.out _ HB1.out)).mono ?_; rintro e w2 ⟨rfl, hb2⟩; have HB2 := Lib.hid (b_next HB1.out hb2); clear hb2) | (go_at_call 14; refine (f_endA _ (HG.out _ HB0.out) (HW.out _ HB0.out)).mono ?_; rintro e w1 ⟨rfl, hb1⟩; have HB1 := Lib.hid (b_next HB0.out hb1); clear hb1))
  go_ret
  exact ⟨rfl, HB5.out⟩
end
end Go.Proofs.YthhchpmlljfpjaaGreat
