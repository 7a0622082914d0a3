import Derived.RangeFuncNested
import Derived.Test.YthhchpmlljfpjaaGreatNfD
import Derived.LoopIn
import Derived.LoopNIn
import Derived.OwnWalkIn
import Derived.RangeFuncLeaves
import Derived.Shelf.RegionOpen
import Derived.TacticsInMore
import Derived.Test.YthhchpmlljfpjaaGreatNP1
import Derived.Lib.SmallJoins
namespace Go.Proofs.YthhchpmlljfpjaaGreat
open Go.RowKit

section
open Go Go.RowKit

/-! A range over a function whose rounds are numbered: the k-th round is asked at the k-th element alone, and none breaks off. -/
variable {F : Fence} {n : Nat} {P : Program}

def Rounds (F : Fence) (n : Nat) (P : Program) (g : Nat) (lb : Array Value) (enc : Nat → Array Value) (Kp : World → World → Prop) (N : Nat) (w : World) : Prop :=
  ∀ (l : Nat) (J : Nat → World → Prop) (W : World), Below w.heap.size w W → AbidesFrom W.heap.size J →
    (∀ k W1, k < N → J k W1 → YieldAt F (n - 1) P l (enc k) W1 fun e W' => e = .returned (.bool true) ∧ J (k + 1) W' ∧ Kp W1 W') →
    J 0 W → CallsIn F n P g (#[.func (.yield l) #[] #[]] ++ lb) W fun e W' => (∃ v, e = .returned v) ∧ J N W'
def roundsPost (B : Nat) (Kp : World → World → Prop) (I : Nat → World → Prop) (k : Nat) (W : World) : Exit → Act → World → Prop
  | .normal, _, W' => KeepsFrom B W W' ∧ Kp W W' ∧ I (k + 1) W'
  | _, _, _ => False
theorem wpIn_rounds {g : Operand} {ps : Array Tmp} {assign body : Code} {Q : Exit → Act → World → Prop} {a : Act} {w : World} (hro : F.round = none) (h1 : 1 ≤ n) {gf : Nat} {lb : Array Value}
    (hg : a.eval g = .func (.func gf) #[] lb) (hFg : F.fn gf) (eg : ∀ args w, (callFunc gf args).run P w = .ok (.enter gf args) w)
    {enc : Nat → Array Value} {Kp : World → World → Prop} {N : Nat} {w0 : World} (hseq : Rounds F (n - 1) P gf lb enc Kp N w0)
    (hKt : ∀ {A B C : World}, Kp A B → Kp B C → Kp A C) (hKb : ∀ (W : World) (l : Nat) (o o' : Obj), w.heap.size ≤ l → W.heap[l]? = some o → o.isCells = false → o.isWalk = false → Kp W (W.putObj l o'))
    (hb0 : Below w0.heap.size w0 w) (hps : ∀ k, (enc k).size = ps.size)
    (I : Nat → World → Prop) (hI : OwnFrom w.heap.size I) (h0 : I 0 w) (A : Nat → Act → World → Prop) (hA : ∀ a', OwnFrom w.heap.size (fun k W => A k a' W))
    (hassign : ∀ (l k : Nat) (W : World), k < N → I k W →
      assign.wpIn (F.inRound l) (n - 1 - 1) P (Exit.then (fun a' W' => KeepsFrom w.heap.size W W' ∧ Kp W W' ∧ A k a' W') (fun _ _ _ => False)) { tmps := (ps.zip (enc k)).foldl (fun t (p, v) => t.setIfInBounds p v) a.tmps, defers := [] } W)
    (hbody : ∀ (l k : Nat) (a' : Act) (W : World), k < N → A k a' W → body.wpIn (F.inRound l) (n - 1 - 1) P (roundsPost w.heap.size Kp I k W) a' W)
    (hdone : ∀ (D : Nat) (W : World), w.heap.size ≤ D → I N W → W.heap[D]? = some (.deferred (some [])) → Q .normal { a with defers := { target := .collected D, args := #[] } :: a.defers } W) :
    (Code.rangeFunc g ps assign body).wpIn F n P Q a w := by
  refine wpIn_rangeFunc fun fn hfn => ?_
  rw [hro]
  obtain ⟨R, hR⟩ : ∃ R : LoopState → Loop, R = fun s => { state := s, pending := none, fn, tmps := a.tmps, params := ps, assign, body, defers := w.heap.size } := ⟨_, rfl⟩
  obtain ⟨V, hV⟩ : ∃ V, (w.alloc (.deferred (some []))).alloc (.loop (R .ready)) = V := ⟨_, rfl⟩
  have hVs : V.heap.size = w.heap.size + 2 := by rw [← hV]; simp
  have hd : V.heap[w.heap.size]? = some (.deferred (some [])) := by rw [← hV]; exact (Below.heap_alloc _ _ _ (by simp)).trans (World.alloc_heap_new w _)
  have hl : V.heap[w.heap.size + 1]? = some (.loop (R .ready)) := by rw [← hV]; have := World.alloc_heap_new (w.alloc (.deferred (some []))) (.loop (R .ready)); rwa [World.size_alloc] at this
  have hIV : I 0 V := by rw [← hV]; exact hI.alloc _ (hI.alloc _ h0)
  have hbV : Below w0.heap.size w0 V := by rw [← hV]; exact hb0.trans ((((Below.refl _ w).alloc (Nat.le_refl _) _).alloc (by simp) _).mono hb0.size)
  refine ⟨w.heap.size + 1, [{ target := .collected w.heap.size, args := #[] }], V, { target := .fn (.func gf) lb, args := #[.func (.yield (w.heap.size + 1)) #[] #[]] }, V, gf, #[.func (.yield (w.heap.size + 1)) #[] #[]] ++ lb, V, ?_, ?_, ?_, ?_, fun _ => h1, ?_⟩
  · rw [← hV, hR]; exact run_enterLoop_outer _ _ _ _ _
  · simp only [resolve, hg]
    simp [go_sem]
  · intro f' hf'
    simp [Target.leads] at hf'
    subst hf'
    exact hFg
  · simp [invoke, go_sem, eg]
  refine (hseq (w.heap.size + 1) (fun k W => I k W ∧ W.heap[w.heap.size + 1]? = some (.loop (R .ready)) ∧ W.heap[w.heap.size]? = some (.deferred (some []))) V hbV ?_ ?_ ⟨hIV, hl, hd⟩).mono ?_
  · rintro k A B row ⟨ha, hal, had⟩ hgr hrow
    refine ⟨hI k A B row ha hgr (fun r e => ?_), (grownBy_keeps hgr (fun r e => (hrow r e).2) hal rfl).trans hal, (grownBy_keeps hgr (fun r e => (hrow r e).2) had rfl).trans had⟩
    obtain ⟨hle, o, ho, hw⟩ := hrow r e
    exact ⟨by omega, o, ho, Obj.not_cells_of_walk hw⟩
  · rintro k W hk ⟨hi, hwl, hwd⟩
    have hlt : w.heap.size + 1 < W.heap.size := (Array.getElem?_eq_some_iff.1 hwl).1
    have hy := run_yield (P := P) (args := enc k) hwl (by rw [hR]; exact hps k)
    rw [hR] at hy
    clear hlt
    refine ⟨fn, _, assign, body, hy, roundIn_of_wpIn hfn (wpIn_mono (hassign _ k W hk hi) ?_)⟩
    intro e a' U hp
    cases e with
    | normal =>
      obtain ⟨hkf0, hkp0, hau⟩ := hp
      have hul := hkf0.same _ _ (by omega) hwl rfl
      have hud := hkf0.same _ _ (Nat.le_refl _) hwd rfl
      have hlt : w.heap.size + 1 < U.heap.size := (Array.getElem?_eq_some_iff.1 hul).1
      refine ⟨_, run_beginRound hul (by rw [hR]), ?_⟩
      have hbl : (U.putObj (w.heap.size + 1) (.loop { R .ready with state := .busy })).heap[w.heap.size + 1]? = some (.loop { R .ready with state := .busy }) := World.putObj_heap_same hlt
      have hbd : (U.putObj (w.heap.size + 1) (.loop { R .ready with state := .busy })).heap[w.heap.size]? = some (.deferred (some [])) := (World.putObj_heap_other (by omega)).trans hud
      refine wpIn_mono (hbody _ k a' _ hk ((hA a').putObj _ hau (by omega) hul rfl)) ?_
      intro e a3 X hp
      cases e with
      | normal =>
        obtain ⟨hkf, hkp, hix⟩ := hp
        have hxl := hkf.same _ _ (by omega) hbl rfl
        have hxd := hkf.same _ _ (Nat.le_refl _) hbd rfl
        have hr := run_endRound (P := P) none hxl
        rw [hR] at hr
        refine ⟨_, _, hr, rfl, ⟨hI.putObj _ hix (by omega) hxl rfl, ?_, (World.putObj_heap_other (by omega)).trans hxd⟩, hKt hkp0 (hKt (hKt (hKb _ _ _ _ (by omega) hul rfl rfl) hkp) (hKb _ _ _ _ (by omega) hxl rfl rfl))⟩
        rw [World.putObj_heap_same (Array.getElem?_eq_some_iff.1 hxl).1, hR]
        rfl
      | _ => exact hp.elim
    | _ => exact hp.elim
  · rintro e X ⟨⟨v, rfl⟩, hi, hxl, hxd⟩
    have hr := run_endLoop (P := P) hxl (by rw [hR]; simp)
    rw [hR] at hr
    exact ⟨none, _, hr, hdone _ _ (Nat.le_refl _) (hI.putObj _ hi (by omega) hxl rfl) ((World.putObj_heap_other (by omega)).trans hxd)⟩
end

section
open Go.RowKit Go.Shelf
attribute [local go_sem] Oper.semAt_some

/-! slices.Backward over a row of nodes. -/
theorem wplIn_loadN {F : Fence} {N : Nat} {w : World} {ops : Array Oper} {rest : List Oper} {o : Oper} {a : Act} {Q : Exit → Act → World → Prop} (x : Operand) (ho : o.op = .load 42 x) (hgd : o.guard = none)
    {g off : Nat} (hx : a.eval x = .pointer (some ⟨g, off, none⟩)) {k : Int} {s : S4} {m n : Int} {p : Value} (hr : w.rangeAt g off (nodeCells k s m n p))
    (h : wpListIn F N Tryz.prog ops Q rest (a.put o.dst (nodeVal k s m n p)) w) : wpListIn F N Tryz.prog ops Q (o :: rest) a w := by
  refine wpListIn_plain hgd fun K hK => ?_
  obtain ⟨d, hd, hd2⟩ := isRowNode
  refine ⟨fun f hf => (by simp [Oper.about, ho] at hf), ?_⟩
  rw [Oper.semAt_plain F a.eval o (fun c hc => by rw [ho] at hc; cases hc)]
  have hl := run_loadVar_mid (P := Tryz.prog) w g off 42 (nodeCells k s m n p) d hr hd hd2 (by rw [infoNode]; rfl)
  unfold execOp
  simp only [ho, hx, Instr.loadAt, Instr.sureAddr, Sem.run_bind, Sem.run_pure, Result.andThen_ok, hl]
  exact hK _ _ h
def backN (ps : List NT) (k : Nat) : Array Value := #[.int .i64 ((ps.length - 1 - k : Nat) : Int), (ps[ps.length - 1 - k]?.map NT.val).getD undef]
/-- What a round keeps: the iterator's own box, and what lay below. -/
def KeepB (B0 n0 : Nat) (W W' : World) : Prop := W'.heap[B0]? = W.heap[B0]? ∧ Below n0 W W'
set_option maxHeartbeats 2000000 in
set_option maxRecDepth 100000 in
theorem n_back {F : Fence} {n : Nat} (hF : F.fn 100) (hro : F.round = none) (hn : 1 ≤ n) (w0 w : World) (B0 : Nat) (ps : List NT) (a : Option Addr) (c : Nat) (hlen : ps.length ≤ 1099511627776)
    (hB0 : B0 < w.heap.size) (hb : Below w0.heap.size w0 w) (hc : w.cell? ⟨B0, 0, none⟩ = some (.slice a ps.length c)) (hrow : RowAt w0 a (ps.flatMap NT.cells)) (hps : ∀ t ∈ ps, t.Lies w0) :
    Rounds F n Tryz.prog 100 #[.pointer (some ⟨B0, 0, none⟩)] (backN ps) (KeepB B0 w0.heap.size) ps.length w := by
  intro l J W hW hJ hY h0
  have hcW := (hW.cell (p := ⟨B0, 0, none⟩) hB0).trans hc
  have hbW : Below w0.heap.size w0 W := hb.trans (hW.mono hb.size)
  obtain ⟨len, hl⟩ : ∃ len, ps.length = len := ⟨_, rfl⟩
  rw [hl] at hlen hc hcW hY ⊢
  have HY := Lib.hid hY
  have HROW := Lib.hid hrow
  have HPS := Lib.hid hps
  have HL := Lib.hid hl
  have HBW := Lib.hid hbW
  clear hY hrow hps hl hbW hJ hb
  refine callsIn_of_wp Tryz.func100 rfl hF ?_ hro
  simp only [Tryz.ntmps100, List.size_toArray, List.length_cons, List.length_nil, Nat.reduceAdd, Nat.reduceSub, Array.replicate_succ, Array.replicate_zero, List.push_toArray, List.append_toArray, List.nil_append, List.cons_append]
  gi_wp2
  gi_loopw [3] (fun i wr => ∃ (m k : Nat) (v : Int), m + k = len ∧ i = .int .i64 v ∧ v = (m : Int) - 1 ∧ wr.cell? ⟨B0, 0, none⟩ = some (.slice a len c) ∧ Hid (J k wr) ∧ Hid (Below w0.heap.size w0 wr)) (fun i _ => (intOf i + 1).toNat)
  case atStart => exact ⟨len, 0, _, by omega, rfl, rfl, hcW, h0, HBW.out⟩
  case round =>
    obtain ⟨m, k, v, hmk, rfl, hv, hcr, HJ, HB⟩ := hrel
    rcases m with _ | j
    · obtain rfl : v = -1 := by omega
      obtain rfl : k = len := by omega
      clear hmk hv
      gi_wp2
      go_end0
      exact ⟨⟨_, rfl⟩, HJ.out⟩
    · obtain rfl : v = (j : Int) := by omega
      have hjl : j < len := by omega
      have hip : j < ps.length := by rw [HL.out]; exact hjl
      obtain ⟨b, off, tk, tS, tm, tn, ta, tl, tc, tps, rfl, ht, htm, hra⟩ := lies_elem HROW.out HPS.out hip
      obtain ⟨fn, tmps, assign, body, hy, hR⟩ := HY.out k wr (by omega) HJ.out
      have henc : backN ps k = #[.int .i64 (j : Int), nodeVal tk tS tm tn (.slice ta tl tc)] := by
        have h1 : ps.length - 1 - k = j := by rw [HL.out]; omega
        unfold backN
        rw [h1, List.getElem?_eq_getElem hip, ht]
        rfl
      rw [henc] at hy
      have HR := Lib.hid hR
      have HRA := Lib.hid (rangeAt_below hra HB.out)
      have HMK := Lib.hid hmk
      clear henc hR ht hra hmk hip hv
      gi_wp2_with (refine wplIn_loadN (.tmp 15) rfl rfl (g := b) (off := off + j * 8) (k := tk) (s := tS) (m := tm) (n := tn) (p := .slice ta tl tc) ?_ ?_ ?_; rfl; exact HRA.out)
      refine HR.out.mono ?_
      rintro e W3 ⟨rfl, hJ3, hk3⟩
      have hc3 := (World.cell?_of_block (a := ⟨B0, 0, none⟩) hk3.1).trans hcr
      have HJ3 := Lib.hid hJ3
      have HB3 := Lib.hid (HB.out.trans hk3.2)
      clear hJ3 hk3
      gi_wp2
      go_roundw
      case rel => exact ⟨j, k + 1, _, (by have := HMK.out; omega), rfl, by go_num, hc3, HJ3.out, HB3.out⟩
      case measure => simp [intOf]
end

section
open Go.RowKit Go.Shelf
attribute [local go_sem] Oper.semAt_some

variable {B : Nat}

/-! A row laid. -/
theorem owned_cells {w : World} {b0 : Nat} {e : TypeId} {S : Nat} {v : Value} {n : Nat} {xs : List Value} (h : w.ownsRow b0 e S v n xs) {k : Nat} (hk : v.ownBlock = some k) : ∃ o : Obj, w.heap[k]? = some o ∧ o.isCells = true := by
  rcases h.2 with ⟨h2, _⟩ | ⟨g, cap, cur, hv, hg, hh, -⟩
  · subst h2; cases hk
  · subst hv
    injection hk with hk
    subst hk
    exact ⟨_, hh, rfl⟩
theorem CB.cells {w : World} {t : TypeId} {g : Nat} {cs : List Value} (h : CB w t g cs) : ∃ o : Obj, w.heap[g]? = some o ∧ o.isCells = true := ⟨_, h, rfl⟩
theorem not_cells {w : World} {k : Nat} (h1 : ∃ o : Obj, w.heap[k]? = some o ∧ o.isCells = true) (h2 : ∃ o : Obj, w.heap[k]? = some o ∧ o.isCells = false) : False := by
  obtain ⟨o, ho, hc⟩ := h1
  obtain ⟨p, hp, hd⟩ := h2
  rw [ho] at hp
  cases hp
  rw [hc] at hd
  cases hd
theorem CB.others {w w' : World} {t : TypeId} {g : Nat} {cs : List Value} {row : Option Nat} (h : CB w t g cs) (hg : w.grownBy w' row) (hr : ∀ r, row = some r → ∃ o : Obj, w.heap[r]? = some o ∧ o.isCells = false) : CB w' t g cs :=
  CB.chg h (Chg.of_grown hg) fun e => not_cells h.cells (hr g e.symm)
theorem LS.others {a w w' : World} {lb : Nat} {v v' : Value} {L : List St} {row : Option Nat} (h : LS B a w lb v L v') (hg : w.grownBy w' row) (hr : ∀ r, row = some r → a.heap.size ≤ r ∧ ∃ o : Obj, w.heap[r]? = some o ∧ o.isCells = false) : LS B a w' lb v L v' :=
  ⟨⟨h.at_.box.others hg fun r e => (hr r e).2, (Chg.of_grown hg).ownsS h.at_.row fun k hk e => not_cells (owned_cells h.at_.row hk) (hr k e.symm).2, h.at_.ne, h.at_.base⟩,
    h.chg.step (Chg.of_grown hg) fun i hi hlt => (by have := (hr i hi.symm).1; omega), h.own⟩
/-- What is no cells stays, as the layout goes on. -/
theorem LS.keeps {a b : World} {lb D : Nat} {v0 v1 : Value} {L M : List St} (h : LS B a b lb v0 M v1) (h0 : LC B a lb L v0) : KeepsFrom D a b :=
  ⟨h.chg.size, fun k o hk h1 ho => (h.chg.block k (Array.getElem?_eq_some_iff.1 h1).1 fun e => e.elim (fun e => by subst e; exact not_cells h0.box.cells ⟨o, h1, ho⟩) fun e => not_cells (owned_cells h0.row e) ⟨o, h1, ho⟩).trans h1⟩
theorem n_backward {F : Fence} {n : Nat} (hF : F.fn 86) (hro : F.round = none) (a : Option Addr) (len c : Nat) (w : World) :
    CallsIn F n Tryz.prog 86 #[.slice a len c] w fun e w' => e = .returned (.func (.func 100) #[] #[.pointer (some ⟨w.heap.size, 0, none⟩)]) ∧ w' = w.alloc (.cells #[.slice a len c] 40) := by
  refine callsIn_of_wp Tryz.func86 rfl hF ?_ hro
  simp only [Tryz.ntmps86, List.size_toArray, List.length_cons, List.length_nil, Nat.reduceAdd, Nat.reduceSub, Array.replicate_succ, Array.replicate_zero, List.push_toArray, List.append_toArray, List.nil_append, List.cons_append]
  gi_wp2
  go_ret
  exact ⟨rfl, rfl⟩
/-- The row's states when k parts are laid. -/
def rowK (ps : List PT) (q : Nat) (L : List St) (k : Nat) : List St × Nat := layRow (ps.drop (ps.length - k)) q L
theorem rowK_zero (ps : List PT) (q : Nat) (L : List St) : rowK ps q L 0 = (L, q) := by
  unfold rowK
  rw [Nat.sub_zero, List.drop_length, layRow]
theorem rowK_all (ps : List PT) (q : Nat) (L : List St) : rowK ps q L ps.length = layRow ps q L := by
  unfold rowK
  rw [Nat.sub_self, List.drop_zero]
theorem rowK_succ (ps : List PT) (q : Nat) (L : List St) {j k : Nat} (h : j + 1 + k = ps.length) (hj : j < ps.length) : rowK ps q L (k + 1) = layT ps[j] (rowK ps q L k).2 (rowK ps q L k).1 := by
  unfold rowK
  rw [show ps.length - (k + 1) = j by omega, show ps.length - k = j + 1 by omega, List.drop_eq_getElem_cons hj, layRow]
theorem cntL_drop (ps : List PT) (d : Nat) : cntL (ps.drop d) ≤ cntL ps := by
  induction ps generalizing d with
  | nil => simp
  | cons t ts ih =>
    cases d with
    | zero => simp
    | succ d => rw [List.drop_succ_cons, cntL]; have := ih d; omega
theorem rowK_laid (ps : List PT) (hp : ∀ t ∈ ps, Laid (layT t) (cnt t)) (q : Nat) (L : List St) (k : Nat) (h : LI L q) : (rowK ps q L k).1.length = L.length + cntL (ps.drop (ps.length - k)) ∧ LI (rowK ps q L k).1 (rowK ps q L k).2 := by
  have := layRow_laid (ps.drop (ps.length - k)) (fun t ht => hp t (List.mem_of_mem_drop ht)) q L h.1 h.2.1 h.2.2
  exact ⟨this.1, by unfold rowK; have := h.1; omega, this.2⟩
end
end Go.Proofs.YthhchpmlljfpjaaGreat
