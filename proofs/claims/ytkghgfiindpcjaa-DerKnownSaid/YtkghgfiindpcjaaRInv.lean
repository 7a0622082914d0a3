import Derived.Test.YtkghgfiindpcjaaGA
import Derived.Orders
namespace Go.Proofs.Ytkghgfiindpcjaa
open Go.RowKit

section
variable {P : Program} {ops : Array Oper} {Q : Exit → Act → World → Prop}

def dstAt (ops : Array Oper) (i : Nat) : Option Tmp := (ops[i]?).bind (·.dst)
/-- No two operations write one slot; each waits for earlier ones alone; none is guarded. -/
def plainB (ops : Array Oper) : Bool :=
  (List.range ops.size).all fun i => ((List.range ops.size).all fun j => i == j || dstAt ops i == none || dstAt ops i != dstAt ops j) &&
    ((ops[i]?).map fun o => o.guard.isNone && o.after.all fun e => !Region.binds .any e || decide (e.on < i)).getD true
theorem plain_dst (h : plainB ops = true) {i j : Nat} {d : Tmp} (hi : i < ops.size) (hj : j < ops.size) (h1 : dstAt ops i = some d) (h2 : dstAt ops j = some d) : i = j := by
  unfold plainB at h
  rw [List.all_eq_true] at h
  have h3 := h i (List.mem_range.2 hi)
  rw [Bool.and_eq_true, List.all_eq_true] at h3
  have h4 := h3.1 j (List.mem_range.2 hj)
  rw [h1, h2] at h4
  simpa using h4
theorem plain_op (h : plainB ops = true) {i : Nat} {o : Oper} (ho : ops[i]? = some o) : o.guard = none ∧ ∀ e ∈ o.after, Region.binds .any e = true → e.on < i := by
  unfold plainB at h
  rw [List.all_eq_true] at h
  have hi : i < ops.size := (Array.getElem?_eq_some_iff.1 ho).1
  have h3 := h i (List.mem_range.2 hi)
  rw [Bool.and_eq_true, ho] at h3
  have h4 := h3.2
  simp only [Option.map_some, Option.getD_some, Bool.and_eq_true, Option.isNone_iff_eq_none] at h4
  refine ⟨h4.1, fun e he hb => ?_⟩
  have h5 := Array.all_eq_true_iff_forall_mem.1 h4.2 e he
  simpa [hb] using h5
/-- What is listed. -/
def upB (L : Nat → Bool) (i : Nat) : Nat → Bool := fun j => if j = i then true else L j
def upV (v : Nat → Value) (i : Nat) (x : Value) : Nat → Value := fun j => if j = i then x else v j
/-- What the slots hold. -/
structure Holds (ops : Array Oper) (a0 : Act) (L : Nat → Bool) (val : Nat → Value) (a : Act) : Prop where
  size : a.tmps.size = a0.tmps.size
  defs : a.defers = a0.defers
  own : ∀ j d, j < ops.size → dstAt ops j = some d → L j = true → d < a0.tmps.size → a.tmps[d]? = some (val j)
  rest : ∀ t, (∀ j, j < ops.size → L j = true → dstAt ops j ≠ some t) → a.tmps[t]? = a0.tmps[t]?
theorem Holds.eval_own {a0 a : Act} {L : Nat → Bool} {val : Nat → Value} (h : Holds ops a0 L val a) (j d : Nat) (hj : j < ops.size) (hd : dstAt ops j = some d) (hL : L j = true) (hs : d < a0.tmps.size) : a.eval (.tmp d) = val j := by
  have h1 := h.own j d hj hd hL hs
  show a.tmps.getD d undef = _
  rw [Array.getD_eq_getD_getElem?, h1]; rfl
theorem Holds.eval_rest {a0 a : Act} {L : Nat → Bool} {val : Nat → Value} (h : Holds ops a0 L val a) (t : Nat) (ht : ∀ j, j < ops.size → L j = true → dstAt ops j ≠ some t) : a.eval (.tmp t) = a0.eval (.tmp t) := by
  have h1 := h.rest t ht
  show a.tmps.getD t undef = a0.tmps.getD t undef
  rw [Array.getD_eq_getD_getElem?, Array.getD_eq_getD_getElem?, h1]
theorem put_size (a : Act) (d : Option Tmp) (v : Value) : (a.put d v).tmps.size = a.tmps.size := by cases d <;> simp [Act.put]
theorem put_defs (a : Act) (d : Option Tmp) (v : Value) : (a.put d v).defers = a.defers := by cases d <;> simp [Act.put]
theorem put_at (a : Act) (d : Tmp) (v : Value) (h : d < a.tmps.size) : (a.put (some d) v).tmps[d]? = some v := by simp [Act.put, h]
theorem put_off (a : Act) (d : Option Tmp) (v : Value) (t : Tmp) (h : d ≠ some t) : (a.put d v).tmps[t]? = a.tmps[t]? := by
  cases d with
  | none => rfl
  | some d => simp [Act.put, Array.getElem?_setIfInBounds_ne (fun e : d = t => h (e ▸ rfl))]
theorem Holds.put {a0 a : Act} {L : Nat → Bool} {val : Nat → Value} (hp : plainB ops = true) (h : Holds ops a0 L val a) {i : Nat} (hi : i < ops.size) (hL : L i = false) (v : Value) : Holds ops a0 (upB L i) (upV val i v) (a.put (dstAt ops i) v) := by
  refine ⟨by rw [put_size, h.size], by rw [put_defs, h.defs], fun j d hj hd hLj hs => ?_, fun t ht => ?_⟩
  · by_cases hji : j = i
    · subst hji
      rw [hd, put_at _ _ _ (by rw [h.size]; exact hs)]
      simp [upV]
    · have h1 : dstAt ops i ≠ some d := fun h2 => hji (plain_dst hp hj hi hd h2)
      rw [put_off _ _ _ _ h1]
      have h2 : L j = true := by simpa [upB, hji] using hLj
      rw [h.own j d hj hd h2 hs]
      simp [upV, hji]
  · have h1 : dstAt ops i ≠ some t := ht i hi (by simp [upB])
    rw [put_off _ _ _ _ h1]
    exact h.rest t fun j hj hLj => ht j hj (by unfold upB; split <;> first | rfl | exact hLj)
/-- All values put. -/
def putAll (ops : Array Oper) (val : Nat → Value) (a : Act) : Nat → Act
  | 0 => a
  | n + 1 => (putAll ops val a n).put (dstAt ops n) (val n)
theorem putAll_size (val : Nat → Value) (a : Act) (n : Nat) : (putAll ops val a n).tmps.size = a.tmps.size := by
  induction n with
  | zero => rfl
  | succ n ih => rw [putAll, put_size, ih]
theorem putAll_defs (val : Nat → Value) (a : Act) (n : Nat) : (putAll ops val a n).defers = a.defers := by
  induction n with
  | zero => rfl
  | succ n ih => rw [putAll, put_defs, ih]
theorem putAll_own (hp : plainB ops = true) (val : Nat → Value) (a : Act) {j : Nat} {d : Tmp} (hd : dstAt ops j = some d) (hs : d < a.tmps.size) (n : Nat) (hn : n ≤ ops.size) (hj : j < n) : (putAll ops val a n).tmps[d]? = some (val j) := by
  induction n with
  | zero => omega
  | succ n ih =>
    rw [putAll]
    by_cases hjn : j = n
    · subst hjn
      rw [hd, put_at _ _ _ (by rw [putAll_size]; exact hs)]
    · have h1 : dstAt ops n ≠ some d := fun h2 => hjn (plain_dst hp (by omega) (by omega) hd h2)
      rw [put_off _ _ _ _ h1]
      exact ih (by omega) (by omega)
theorem putAll_rest (val : Nat → Value) (a : Act) (t : Tmp) (n : Nat) (h : ∀ j, j < n → dstAt ops j ≠ some t) : (putAll ops val a n).tmps[t]? = a.tmps[t]? := by
  induction n with
  | zero => rfl
  | succ n ih => rw [putAll, put_off _ _ _ _ (h n (by omega))]; exact ih fun j hj => h j (by omega)
theorem Holds.all {a0 a : Act} {L : Nat → Bool} {val : Nat → Value} (hp : plainB ops = true) (h : Holds ops a0 L val a) (hL : ∀ j, j < ops.size → L j = true) : a = putAll ops val a0 ops.size := by
  have h1 : a.tmps = (putAll ops val a0 ops.size).tmps := by
    apply Array.ext_getElem?
    intro t
    by_cases ht : ∃ j, j < ops.size ∧ dstAt ops j = some t
    · obtain ⟨j, hj, hd⟩ := ht
      by_cases hs : t < a0.tmps.size
      · rw [h.own j t hj hd (hL j hj) hs, putAll_own hp val a0 hd hs _ (Nat.le_refl _) hj]
      · rw [Array.getElem?_eq_none (by rw [h.size]; omega), Array.getElem?_eq_none (by rw [putAll_size]; omega)]
    · rw [h.rest t (fun j hj _ hd => ht ⟨j, hj, hd⟩), putAll_rest val a0 t _ (fun j hj hd => ht ⟨j, hj, hd⟩)]
  have h2 : a.defers = (putAll ops val a0 ops.size).defers := by rw [h.defs, putAll_defs]
  cases a
  simp only at h1 h2
  rw [h1, h2]
theorem ready_all (hp : plainB ops = true) {listed : Array Bool} (hsz : listed.size = ops.size) (hr : Region.ready .any ops listed = []) : ∀ n j, j < n → j < ops.size → listed.getD j false = true := by
  intro n
  induction n with
  | zero => intro j hj; omega
  | succ n ih =>
    intro j hj hjs
    apply Decidable.byContradiction
    intro hn
    have hf : listed.getD j false = false := by simpa using hn
    have hm : j ∈ Region.ready .any ops listed := by
      rw [mem_ready]
      refine ⟨?_, ops[j], by simp [hjs], fun e he hbn => ih e.on ?_ ?_⟩
      · rw [Array.getD_eq_getD_getElem?] at hf ⊢
        have : j < listed.size := by omega
        simpa [this] using hf
      · have := (plain_op hp (i := j) (o := ops[j]) (by simp [hjs])).2 e he hbn; omega
      · have := (plain_op hp (i := j) (o := ops[j]) (by simp [hjs])).2 e he hbn; omega
    rw [hr] at hm
    cases hm
theorem count_set (l : List Bool) (i : Nat) (hi : i < l.length) (h : l[i] = false) : (l.set i true).count false + 1 = l.count false := by
  have h1 : l.count false ≥ 1 := List.one_le_count_iff.2 (by rw [← h]; exact List.getElem_mem hi)
  rw [List.count_set hi, h]
  simp
  omega

theorem wpAny_inv (hp : plainB ops = true) (a0 : Act) (Φ : (Nat → Bool) → (Nat → Value) → World → Prop)
    (hext : ∀ L L' val w, (∀ j, L j = L' j) → Φ L val w → Φ L' val w)
    (hstep : ∀ i o L val a w, ops[i]? = some o → L i = false → (∀ e ∈ o.after, Region.binds .any e = true → L e.on = true) → Holds ops a0 L val a → Φ L val w →
      Oper.wp P o a w (fun a' w' => ∃ v, a' = a.put o.dst v ∧ Φ (upB L i) (upV val i v) w') Q)
    (hfin : ∀ L val w, (∀ j, j < ops.size → L j = true) → Φ L val w → Q .normal (putAll ops val a0 ops.size) w) :
    ∀ (fuel : Nat) (listed : Array Bool) (a : Act) (val : Nat → Value) (w : World), listed.size = ops.size → listed.toList.count false ≤ fuel → Holds ops a0 (fun j => listed.getD j false) val a → Φ (fun j => listed.getD j false) val w → wpAny P .any ops Q fuel listed a w := by
  intro fuel
  induction fuel with
  | zero =>
    intro listed a val w hsz hc hH hΦ
    have hall : ∀ j, j < ops.size → listed.getD j false = true := by
      intro j hj
      apply Decidable.byContradiction
      intro hn
      have hjl : j < listed.toList.length := by simp; omega
      have h1 : listed.toList[j] = false := by
        rw [Array.getD_eq_getD_getElem?] at hn
        simpa [show j < listed.size by omega] using hn
      have := List.one_le_count_iff.2 (show false ∈ listed.toList by rw [← h1]; exact List.getElem_mem hjl)
      omega
    refine ⟨?_, ?_⟩
    · apply List.eq_nil_iff_forall_not_mem.2
      intro j hj
      rw [mem_ready] at hj
      obtain ⟨h0, o, ho, _⟩ := hj
      have hjs : j < ops.size := (Array.getElem?_eq_some_iff.1 ho).1
      have h1 := hall j hjs
      rw [Array.getD_eq_getD_getElem?] at h0 h1
      have : j < listed.size := by omega
      simp [this] at h0 h1
      rw [h1] at h0
      cases h0
    · rw [hH.all hp hall]
      exact hfin _ _ _ hall hΦ
  | succ fuel ih =>
    intro listed a val w hsz hc hH hΦ
    refine ⟨fun hr => ?_, fun i hi => ?_⟩
    · have hall : ∀ j, j < ops.size → listed.getD j false = true := fun j hj => ready_all hp hsz hr (j + 1) j (by omega) hj
      rw [hH.all hp hall]
      exact hfin _ _ _ hall hΦ
    · rw [mem_ready] at hi
      obtain ⟨h0, o, ho, hdep⟩ := hi
      have his : i < ops.size := (Array.getElem?_eq_some_iff.1 ho).1
      have hil : i < listed.size := by omega
      have hLi : listed.getD i false = false := by
        rw [Array.getD_eq_getD_getElem?] at h0 ⊢
        simpa [hil] using h0
      have hst := hstep i o _ val a w ho hLi hdep hH hΦ
      have hw : Region.wanted o (yielded ops a.tmps) = true := by unfold Region.wanted; rw [(plain_op hp ho).1]
      have hdst : dstAt ops i = o.dst := by unfold dstAt; rw [ho]; rfl
      unfold wpOp
      rw [ho]
      simp only [hw, if_true]
      refine .inl (Oper.wp_mono ?_ hst)
      rintro a' w' ⟨v, rfl, hΦ'⟩
      have hfun : ∀ j, upB (fun j => listed.getD j false) i j = (listed.setIfInBounds i true).getD j false := by
        intro j
        unfold upB
        by_cases hji : j = i
        · subst hji; simp [hil]
        · rw [if_neg hji, getD_set_ne false (Ne.symm hji)]
      refine ih _ _ (upV val i v) _ (by simp [hsz]) ?_ ?_ (hext _ _ _ _ hfun hΦ')
      · have h1 := count_set listed.toList i (by simpa using hil) (by
          rw [Array.getD_eq_getD_getElem?] at hLi
          simpa [hil] using hLi)
        rw [Array.toList_setIfInBounds]
        omega
      · have h2 := hH.put hp his hLi v
        rw [hdst] at h2
        have e : upB (fun j => listed.getD j false) i = fun j => (listed.setIfInBounds i true).getD j false := funext hfun
        rw [e] at h2
        exact h2
/-- A REGION THAT DRAWS ITS ORDER, BY WHAT EACH OPERATION KEEPS. -/
theorem wp_region_inv {id : Nat} {a0 : Act} {w0 : World} (hm : P.follows .mixedOrders = true) (hp : plainB ops = true) (Φ : (Nat → Bool) → (Nat → Value) → World → Prop)
    (h0 : Φ (fun _ => false) (fun _ => undef) w0.drew)
    (hext : ∀ L L' val w, (∀ j, L j = L' j) → Φ L val w → Φ L' val w)
    (hstep : ∀ i o L val a w, ops[i]? = some o → L i = false → (∀ e ∈ o.after, Region.binds .any e = true → L e.on = true) → Holds ops a0 L val a → Φ L val w →
      ∀ K', Hid (∀ v w', Φ (upB L i) (upV val i v) w' → K' (a.put o.dst v) w') → Oper.wp P o a w K' Q)
    (hfin : ∀ L val w, (∀ j, j < ops.size → L j = true) → Φ L val w → Q .normal (putAll ops val a0 ops.size) w) : (Code.region id ops true).wp P Q a0 w0 := by
  refine wp_region_any hm ?_
  have hstep := fun i o L val a w h1 h2 h3 h4 h5 => hstep i o L val a w h1 h2 h3 h4 h5 (fun a' w' => ∃ v, a' = a.put o.dst v ∧ Φ (upB L i) (upV val i v) w') (fun v w' h => ⟨v, rfl, h⟩)
  have hL : ∀ j, (Array.replicate ops.size false).getD j false = false := by
    intro j
    rw [Array.getD_eq_getD_getElem?]
    by_cases hj : j < ops.size <;> simp [hj]
  refine wpAny_inv hp a0 Φ hext hstep hfin _ _ _ (fun _ => undef) _ (by simp) (by simp) ⟨rfl, rfl, fun j d _ _ h => ?_, fun _ _ => rfl⟩ (hext _ _ _ _ (fun j => (hL j).symm) h0)
  rw [hL] at h
  cases h
end
end Go.Proofs.Ytkghgfiindpcjaa
