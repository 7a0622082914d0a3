import Derived.Test.YtaookoejdnkkoaaGreatDoorQ05
import Derived.Defers
import Derived.Laws.NewBlocks
import Derived.Laws.Pointers
import Derived.Recover
import Derived.Test.YtaookoejdnkkoaaGreatDoorQGA
import Derived.Orders
namespace Go.Proofs.YtaookoejdnkkoaaGreatDoor
open Go.RowKit

/-! An integer's content: the program's and the reference's reading. -/
theorem intOK_split (b : List Nat) :
    (b.length = 0 ∧ intOK b = false) ∨ (0 < b.length ∧ 128 ≤ at0 b 0 ∧ intOK b = false) ∨ (b.length = 1 ∧ at0 b 0 < 128 ∧ intOK b = true) ∨
    (1 < b.length ∧ 0 < at0 b 0 ∧ at0 b 0 < 128 ∧ intOK b = true) ∨ (1 < b.length ∧ at0 b 0 = 0 ∧ 128 ≤ at0 b 1 ∧ intOK b = true) ∨ (1 < b.length ∧ at0 b 0 = 0 ∧ at0 b 1 < 128 ∧ intOK b = false) := by
  by_cases h0 : b.length = 0
  · exact .inl ⟨h0, by simp [intOK, h0]⟩
  refine .inr ?_
  by_cases h1 : 128 ≤ at0 b 0
  · exact .inl ⟨by omega, h1, by simp [intOK]; intro _ h; omega⟩
  refine .inr ?_
  by_cases h2 : b.length = 1
  · exact .inl ⟨h2, by omega, by simp [intOK, h2]; omega⟩
  refine .inr ?_
  by_cases h3 : at0 b 0 = 0
  · refine .inr ?_
    by_cases h4 : 128 ≤ at0 b 1
    · exact .inl ⟨by omega, h3, h4, by simp [intOK, h3, h4]; omega⟩
    · exact .inr ⟨by omega, h3, by omega, by simp [intOK, h3]; intro _; exact ⟨h2, by omega⟩⟩
  · exact .inl ⟨by omega, by omega, by omega, by simp [intOK, h3]; omega⟩

set_option maxHeartbeats 800000 in
set_option maxRecDepth 100000 in
theorem isContent_any (a : Option Addr) (len cap : Nat) (b : List Nat) (w : World) (hl : b.length = len) (hbig : len ≤ 1099511627776) (hr : Rd .u8 w a b) :
    Calls Tryz.prog 247 #[.slice a len cap] w fun e w' => e = .returned (.bool (intOK b)) ∧ w = w' := by
  have hsp := intOK_split b
  rw [hl] at hsp
  obtain ⟨R, hR⟩ : ∃ R, R = intOK b := ⟨_, rfl⟩
  rw [← hR] at hsp ⊢
  clear hR
  rcases hsp with ⟨h0, rfl⟩ | hsp
  · subst h0
    clear hr
    go_enter Tryz.func247, Tryz.ntmps247
    go_wp2
    go_ret
    exact ⟨rfl, rfl⟩
  · have h1 : 0 < len := by omega
    obtain ⟨bb, off, rfl, hc⟩ := hr.get (by omega)
    have c0 := hc 0 (by omega)
    rw [show b.getD 0 0 = at0 b 0 from rfl] at c0
    have HC := Lib.hid hc
    have HL := Lib.hid hl
    obtain ⟨x, hx⟩ : ∃ x, x = at0 b 0 := ⟨_, rfl⟩
    rw [← hx] at hsp c0
    rw [Nat.add_zero] at c0
    have hq0 : ((len : Int) == 0) = false := by simp; omega
    clear hc hr hl hx
    rcases hsp with ⟨-, h2, rfl⟩ | ⟨h2, h3, rfl⟩ | ⟨h2, h3, h4, rfl⟩ | hsp
    · have hq1 : decide ((128 : Int) ≤ (x : Int)) = true := decide_eq_true (by omega)
      go_enter Tryz.func247, Tryz.ntmps247
      go_wp2
      go_ret
      exact ⟨rfl, rfl⟩
    · have hq1 : decide ((128 : Int) ≤ (x : Int)) = false := decide_eq_false (by omega)
      subst h2
      go_enter Tryz.func247, Tryz.ntmps247
      go_wp2
      go_ret
      exact ⟨rfl, rfl⟩
    · have hq1 : decide ((128 : Int) ≤ (x : Int)) = false := decide_eq_false (by omega)
      have hq2 : ((len : Int) == 1) = false := by simp; omega
      have hq3 : decide ((0 : Int) < (x : Int)) = true := decide_eq_true (by omega)
      go_enter Tryz.func247, Tryz.ntmps247
      go_wp2
      go_ret
      exact ⟨rfl, rfl⟩
    · have hor : 1 < len ∧ x = 0 ∧ ((128 ≤ at0 b 1 ∧ R = true) ∨ (at0 b 1 < 128 ∧ R = false)) := by
        rcases hsp with ⟨h2, h3, h4, h5⟩ | ⟨h2, h3, h4, h5⟩
        · exact ⟨h2, h3, .inl ⟨h4, h5⟩⟩
        · exact ⟨h2, h3, .inr ⟨h4, h5⟩⟩
      obtain ⟨h2, rfl, hor⟩ := hor
      have hq2 : ((len : Int) == 1) = false := by simp; omega
      have c1 := HC.out 1 (by rw [HL.out]; omega)
      rw [show b.getD 1 0 = at0 b 1 from rfl] at c1
      obtain ⟨y, hy⟩ : ∃ y, y = at0 b 1 := ⟨_, rfl⟩
      rw [← hy] at c1 hor
      clear hy hsp
      rcases hor with ⟨h3, rfl⟩ | ⟨h3, rfl⟩
      · have hq4 : decide ((128 : Int) ≤ (y : Int)) = true := decide_eq_true (by omega)
        go_enter Tryz.func247, Tryz.ntmps247
        go_wp2
        go_ret
        exact ⟨rfl, rfl⟩
      · have hq4 : decide ((128 : Int) ≤ (y : Int)) = false := decide_eq_false (by omega)
        go_enter Tryz.func247, Tryz.ntmps247
        go_wp2
        go_ret
        exact ⟨rfl, rfl⟩

theorem bits_le {n k m : Nat} (h : BitsIs n k) : k ≤ m ↔ n < 2 ^ m := by
  rcases h with ⟨rfl, rfl⟩ | ⟨h0, h1, h2⟩
  · exact ⟨fun _ => Nat.two_pow_pos _, fun _ => Nat.zero_le _⟩
  · constructor
    · intro hk
      exact Nat.lt_of_lt_of_le h2 (Nat.pow_le_pow_right (by decide) hk)
    · intro hn
      refine Nat.le_of_not_lt fun hk => ?_
      have := Nat.pow_le_pow_right (n := 2) (by decide) (show m ≤ k - 1 by omega)
      omega
set_option exponentiation.threshold 10000 in
theorem lim8 : (2 : Nat) ^ 4096 ≤ 18446744073709551616 ^ 128 := by decide
set_option exponentiation.threshold 10000 in
theorem lim64K : (2 : Nat) ^ 4096 = 18446744073709551616 ^ 64 := by decide
/-- What an integer's content tells. -/
def NumTells (b : List Nat) (k : Int) (zs : List Nat) : Prop := intE b = k ∧ (k = 0 → Num zs (bval b)) ∧ (k ≠ 0 → zs = [])
theorem NumTells.one {b : List Nat} {k k' : Int} {zs zs' : List Nat} (h : NumTells b k zs) (g : NumTells b k' zs') : k = k' ∧ zs = zs' := by
  obtain ⟨rfl, h1, h2⟩ := h
  obtain ⟨rfl, g1, g2⟩ := g
  refine ⟨rfl, ?_⟩
  by_cases h : intE b = 0
  · exact (h1 h).unique (g1 h)
  · rw [h2 h, g2 h]
theorem NumTells.no {b : List Nat} (h : intE b ≠ 0) : NumTells b (intE b) [] := ⟨rfl, fun e => absurd e h, fun _ => rfl⟩
theorem NumTells.yes {b : List Nat} {zs : List Nat} (h : intE b = 0) (hn : Num zs (bval b)) : NumTells b 0 zs := ⟨h, fun _ => hn, fun e => absurd rfl e⟩
theorem intE_yes {b : List Nat} (h : intOK b = true) (hb : bval b < 2 ^ 4096) : intE b = 0 := by rw [intE, h, if_pos rfl, if_pos hb]
theorem intE_big {b : List Nat} (h : intOK b = true) (hb : ¬ bval b < 2 ^ 4096) : intE b = 3 := by rw [intE, h, if_pos rfl, if_neg hb]
theorem intE_no {b : List Nat} (h : intOK b = false) : intE b = 73 := by rw [intE, h]; rfl
/-- What reading a number gives. -/
def NofPost (b : List Nat) (w : World) (e : Ending) (w' : World) : Prop :=
  Below w.heap.size w w' ∧ ((∃ a c zs, e = .returned (.slice a zs.length c) ∧ own64 w' w.heap.size (.slice a zs.length c) zs ∧ zs.length ≤ 128 ∧ NumTells b 0 zs) ∨ (∃ k, k ≠ 0 ∧ intE b = k ∧ e = pan k))
set_option maxHeartbeats 800000 in
set_option maxRecDepth 100000 in
theorem numberOf_any (a : Option Addr) (len cap : Nat) (b : List Nat) (w : World) (hl : b.length = len) (hbig : len ≤ 1099511627776) (hcap : len ≤ cap) (h8 : B8 b) (hr : Rd .u8 w a b) :
    Calls Tryz.prog 233 #[.slice a len cap] w (NofPost b w) := by
  have HL := Lib.hid hl
  have HR := Lib.hid hr
  have H8 := Lib.hid h8
  unfold NofPost
  clear hl hr h8
  cases hk : intOK b with
  | false =>
    have HP := Lib.hid (intE_no hk)
    have HK := Lib.hid hk
    clear hk
    go_enter Tryz.func233, Tryz.ntmps233
    go_wp2_with fail
    refine (isContent_any a len cap b _ HL.out hbig HR.out).mono ?_
    rintro e w' ⟨rfl, rfl⟩
    rw [HK.out]
    go_wp2_with fail
    refine (demand_no _ _).mono ?_
    rintro e w' ⟨rfl, rfl⟩
    go_wp2
    exact ⟨rfl, Below.refl _ _, .inr ⟨73, by decide, HP.out, rfl⟩⟩
  | true =>
    have HK := Lib.hid hk
    clear hk
    go_enter Tryz.func233, Tryz.ntmps233
    go_wp2_with fail
    refine (isContent_any a len cap b _ HL.out hbig HR.out).mono ?_
    rintro e w' ⟨rfl, rfl⟩
    rw [HK.out]
    go_wp2_with fail
    refine (demand_yes _ _).mono ?_
    rintro e w' ⟨rfl, rfl⟩
    go_wp2_with fail
    refine (from_any a len cap b _ HL.out hbig hcap H8.out HR.out).mono ?_
    intro e w1 h
    obtain ⟨hb1, a1, c1, k, zs, rfl, ho, hzl, hT⟩ := h.told
    have HB := Lib.hid hb1
    have HO := Lib.hid ho
    clear h hb1 ho
    rcases hT with ⟨h1, rfl, rfl⟩ | ⟨h1, rfl, hn⟩
    · have HP := Lib.hid (intE_big HK.out (fun h => by have := lim8; omega))
      clear h1
      go_wp2_with fail
      refine (demand_no _ _).mono ?_
      rintro e w' ⟨rfl, rfl⟩
      go_wp2
      exact ⟨rfl, HB.out, .inr ⟨3, by decide, HP.out, rfl⟩⟩
    · have HN := Lib.hid hn
      have hrd := (own64.rd HO.out).2
      have hrm := (own64.room HO.out).1
      have HRD := Lib.hid hrd
      clear h1 hn hrd
      go_wp2_with fail
      refine (bits_any a1 zs.length c1 zs _ rfl (by omega) hrm HRD.out HN.out.bd).mono ?_
      rintro e w2 ⟨⟨q, rfl, hq, hqs⟩, rfl⟩
      rw [HN.out.vl] at hq
      have hle := bits_le (m := 4096) hq
      clear hq hqs
      by_cases hq4 : q ≤ 4096
      · have hd : decide ((q : Int) ≤ 4096) = true := decide_eq_true (by omega)
        have HP := Lib.hid (NumTells.yes (intE_yes HK.out (hle.1 hq4)) HN.out)
        clear hle hq4
        go_wp2_with fail
        refine (demand_yes _ _).mono ?_
        rintro e w' ⟨rfl, rfl⟩
        go_wp2
        go_ret
        exact ⟨HB.out, .inl ⟨_, _, _, rfl, HO.out, hzl, HP.out⟩⟩
      · have hd : decide ((q : Int) ≤ 4096) = false := decide_eq_false (by omega)
        have HP := Lib.hid (intE_big HK.out (fun h => hq4 (hle.2 h)))
        clear hle hq4
        go_wp2_with fail
        refine (demand_no _ _).mono ?_
        rintro e w' ⟨rfl, rfl⟩
        go_wp2
        exact ⟨rfl, HB.out, .inr ⟨3, by decide, HP.out, rfl⟩⟩

section
variable {P : Program} {ops : Array Oper} {Q : Exit → Act → World → Prop}

def dstAt (ops : Array Oper) (i : Nat) : Option Tmp := (ops[i]?).bind (·.dst)
/-- No two operations write one slot; each waits for earlier ones alone; none is guarded. -/
def plainB (ops : Array Oper) : Bool :=
  (List.range ops.size).all fun i => ((List.range ops.size).all fun j => i == j || dstAt ops i == none || dstAt ops i != dstAt ops j) &&
    ((ops[i]?).map fun o => o.guard.isNone && o.after.all fun e => !Region.binds .any e || decide (e.on < i)).getD true
theorem plain_dst (h : plainB ops = true) {i j : Nat} {d : Tmp} (hi : i < ops.size) (hj : j < ops.size) (h1 : dstAt ops i = some d) (h2 : dstAt ops j = some d) : i = j := by
  unfold plainB at h
  rw [List.all_eq_true] at h
  have h3 := h i (List.mem_range.2 hi)
  rw [Bool.and_eq_true, List.all_eq_true] at h3
  have h4 := h3.1 j (List.mem_range.2 hj)
  rw [h1, h2] at h4
  simpa using h4
theorem plain_op (h : plainB ops = true) {i : Nat} {o : Oper} (ho : ops[i]? = some o) : o.guard = none ∧ ∀ e ∈ o.after, Region.binds .any e = true → e.on < i := by
  unfold plainB at h
  rw [List.all_eq_true] at h
  have hi : i < ops.size := (Array.getElem?_eq_some_iff.1 ho).1
  have h3 := h i (List.mem_range.2 hi)
  rw [Bool.and_eq_true, ho] at h3
  have h4 := h3.2
  simp only [Option.map_some, Option.getD_some, Bool.and_eq_true, Option.isNone_iff_eq_none] at h4
  refine ⟨h4.1, fun e he hb => ?_⟩
  have h5 := Array.all_eq_true_iff_forall_mem.1 h4.2 e he
  simpa [hb] using h5
/-- What is listed. -/
def upB (L : Nat → Bool) (i : Nat) : Nat → Bool := fun j => if j = i then true else L j
def upV (v : Nat → Value) (i : Nat) (x : Value) : Nat → Value := fun j => if j = i then x else v j
/-- What the slots hold. -/
structure Holds (ops : Array Oper) (a0 : Act) (L : Nat → Bool) (val : Nat → Value) (a : Act) : Prop where
  size : a.tmps.size = a0.tmps.size
  defs : a.defers = a0.defers
  own : ∀ j d, j < ops.size → dstAt ops j = some d → L j = true → d < a0.tmps.size → a.tmps[d]? = some (val j)
  rest : ∀ t, (∀ j, j < ops.size → L j = true → dstAt ops j ≠ some t) → a.tmps[t]? = a0.tmps[t]?
theorem put_size (a : Act) (d : Option Tmp) (v : Value) : (a.put d v).tmps.size = a.tmps.size := by cases d <;> simp [Act.put]
theorem put_defs (a : Act) (d : Option Tmp) (v : Value) : (a.put d v).defers = a.defers := by cases d <;> simp [Act.put]
theorem put_at (a : Act) (d : Tmp) (v : Value) (h : d < a.tmps.size) : (a.put (some d) v).tmps[d]? = some v := by simp [Act.put, h]
theorem put_off (a : Act) (d : Option Tmp) (v : Value) (t : Tmp) (h : d ≠ some t) : (a.put d v).tmps[t]? = a.tmps[t]? := by
  cases d with
  | none => rfl
  | some d => simp [Act.put, Array.getElem?_setIfInBounds_ne (fun e : d = t => h (e ▸ rfl))]
theorem Holds.put {a0 a : Act} {L : Nat → Bool} {val : Nat → Value} (hp : plainB ops = true) (h : Holds ops a0 L val a) {i : Nat} (hi : i < ops.size) (hL : L i = false) (v : Value) : Holds ops a0 (upB L i) (upV val i v) (a.put (dstAt ops i) v) := by
  refine ⟨by rw [put_size, h.size], by rw [put_defs, h.defs], fun j d hj hd hLj hs => ?_, fun t ht => ?_⟩
  · by_cases hji : j = i
    · subst hji
      rw [hd, put_at _ _ _ (by rw [h.size]; exact hs)]
      simp [upV]
    · have h1 : dstAt ops i ≠ some d := fun h2 => hji (plain_dst hp hj hi hd h2)
      rw [put_off _ _ _ _ h1]
      have h2 : L j = true := by simpa [upB, hji] using hLj
      rw [h.own j d hj hd h2 hs]
      simp [upV, hji]
  · have h1 : dstAt ops i ≠ some t := ht i hi (by simp [upB])
    rw [put_off _ _ _ _ h1]
    exact h.rest t fun j hj hLj => ht j hj (by unfold upB; split <;> first | rfl | exact hLj)
/-- All values put. -/
def putAll (ops : Array Oper) (val : Nat → Value) (a : Act) : Nat → Act
  | 0 => a
  | n + 1 => (putAll ops val a n).put (dstAt ops n) (val n)
theorem putAll_size (val : Nat → Value) (a : Act) (n : Nat) : (putAll ops val a n).tmps.size = a.tmps.size := by
  induction n with
  | zero => rfl
  | succ n ih => rw [putAll, put_size, ih]
theorem putAll_defs (val : Nat → Value) (a : Act) (n : Nat) : (putAll ops val a n).defers = a.defers := by
  induction n with
  | zero => rfl
  | succ n ih => rw [putAll, put_defs, ih]
theorem putAll_own (hp : plainB ops = true) (val : Nat → Value) (a : Act) {j : Nat} {d : Tmp} (hd : dstAt ops j = some d) (hs : d < a.tmps.size) (n : Nat) (hn : n ≤ ops.size) (hj : j < n) : (putAll ops val a n).tmps[d]? = some (val j) := by
  induction n with
  | zero => omega
  | succ n ih =>
    rw [putAll]
    by_cases hjn : j = n
    · subst hjn
      rw [hd, put_at _ _ _ (by rw [putAll_size]; exact hs)]
    · have h1 : dstAt ops n ≠ some d := fun h2 => hjn (plain_dst hp (by omega) (by omega) hd h2)
      rw [put_off _ _ _ _ h1]
      exact ih (by omega) (by omega)
theorem putAll_rest (val : Nat → Value) (a : Act) (t : Tmp) (n : Nat) (h : ∀ j, j < n → dstAt ops j ≠ some t) : (putAll ops val a n).tmps[t]? = a.tmps[t]? := by
  induction n with
  | zero => rfl
  | succ n ih => rw [putAll, put_off _ _ _ _ (h n (by omega))]; exact ih fun j hj => h j (by omega)
theorem Holds.all {a0 a : Act} {L : Nat → Bool} {val : Nat → Value} (hp : plainB ops = true) (h : Holds ops a0 L val a) (hL : ∀ j, j < ops.size → L j = true) : a = putAll ops val a0 ops.size := by
  have h1 : a.tmps = (putAll ops val a0 ops.size).tmps := by
    apply Array.ext_getElem?
    intro t
    by_cases ht : ∃ j, j < ops.size ∧ dstAt ops j = some t
    · obtain ⟨j, hj, hd⟩ := ht
      by_cases hs : t < a0.tmps.size
      · rw [h.own j t hj hd (hL j hj) hs, putAll_own hp val a0 hd hs _ (Nat.le_refl _) hj]
      · rw [Array.getElem?_eq_none (by rw [h.size]; omega), Array.getElem?_eq_none (by rw [putAll_size]; omega)]
    · rw [h.rest t (fun j hj _ hd => ht ⟨j, hj, hd⟩), putAll_rest val a0 t _ (fun j hj hd => ht ⟨j, hj, hd⟩)]
  have h2 : a.defers = (putAll ops val a0 ops.size).defers := by rw [h.defs, putAll_defs]
  cases a
  simp only at h1 h2
  rw [h1, h2]
theorem ready_all (hp : plainB ops = true) {listed : Array Bool} (hsz : listed.size = ops.size) (hr : Region.ready .any ops listed = []) : ∀ n j, j < n → j < ops.size → listed.getD j false = true := by
  intro n
  induction n with
  | zero => intro j hj; omega
  | succ n ih =>
    intro j hj hjs
    apply Decidable.byContradiction
    intro hn
    have hf : listed.getD j false = false := by simpa using hn
    have hm : j ∈ Region.ready .any ops listed := by
      rw [mem_ready]
      refine ⟨?_, ops[j], by simp [hjs], fun e he hbn => ih e.on ?_ ?_⟩
      · rw [Array.getD_eq_getD_getElem?] at hf ⊢
        have : j < listed.size := by omega
        simpa [this] using hf
      · have := (plain_op hp (i := j) (o := ops[j]) (by simp [hjs])).2 e he hbn; omega
      · have := (plain_op hp (i := j) (o := ops[j]) (by simp [hjs])).2 e he hbn; omega
    rw [hr] at hm
    cases hm
theorem count_set (l : List Bool) (i : Nat) (hi : i < l.length) (h : l[i] = false) : (l.set i true).count false + 1 = l.count false := by
  have h1 : l.count false ≥ 1 := List.one_le_count_iff.2 (by rw [← h]; exact List.getElem_mem hi)
  rw [List.count_set hi, h]
  simp
  omega

theorem wpAny_inv (hp : plainB ops = true) (a0 : Act) (Φ : (Nat → Bool) → (Nat → Value) → World → Prop)
    (hext : ∀ L L' val w, (∀ j, L j = L' j) → Φ L val w → Φ L' val w)
    (hstep : ∀ i o L val a w, ops[i]? = some o → L i = false → (∀ e ∈ o.after, Region.binds .any e = true → L e.on = true) → Holds ops a0 L val a → Φ L val w →
      Oper.wp P o a w (fun a' w' => ∃ v, a' = a.put o.dst v ∧ Φ (upB L i) (upV val i v) w') Q)
    (hfin : ∀ L val w, (∀ j, j < ops.size → L j = true) → Φ L val w → Q .normal (putAll ops val a0 ops.size) w) :
    ∀ (fuel : Nat) (listed : Array Bool) (a : Act) (val : Nat → Value) (w : World), listed.size = ops.size → listed.toList.count false ≤ fuel → Holds ops a0 (fun j => listed.getD j false) val a → Φ (fun j => listed.getD j false) val w → wpAny P .any ops Q fuel listed a w := by
  intro fuel
  induction fuel with
  | zero =>
    intro listed a val w hsz hc hH hΦ
    have hall : ∀ j, j < ops.size → listed.getD j false = true := by
      intro j hj
      apply Decidable.byContradiction
      intro hn
      have hjl : j < listed.toList.length := by simp; omega
      have h1 : listed.toList[j] = false := by
        rw [Array.getD_eq_getD_getElem?] at hn
        simpa [show j < listed.size by omega] using hn
      have := List.one_le_count_iff.2 (show false ∈ listed.toList by rw [← h1]; exact List.getElem_mem hjl)
      omega
    refine ⟨?_, ?_⟩
    · apply List.eq_nil_iff_forall_not_mem.2
      intro j hj
      rw [mem_ready] at hj
      obtain ⟨h0, o, ho, _⟩ := hj
      have hjs : j < ops.size := (Array.getElem?_eq_some_iff.1 ho).1
      have h1 := hall j hjs
      rw [Array.getD_eq_getD_getElem?] at h0 h1
      have : j < listed.size := by omega
      simp [this] at h0 h1
      rw [h1] at h0
      cases h0
    · rw [hH.all hp hall]
      exact hfin _ _ _ hall hΦ
  | succ fuel ih =>
    intro listed a val w hsz hc hH hΦ
    refine ⟨fun hr => ?_, fun i hi => ?_⟩
    · have hall : ∀ j, j < ops.size → listed.getD j false = true := fun j hj => ready_all hp hsz hr (j + 1) j (by omega) hj
      rw [hH.all hp hall]
      exact hfin _ _ _ hall hΦ
    · rw [mem_ready] at hi
      obtain ⟨h0, o, ho, hdep⟩ := hi
      have his : i < ops.size := (Array.getElem?_eq_some_iff.1 ho).1
      have hil : i < listed.size := by omega
      have hLi : listed.getD i false = false := by
        rw [Array.getD_eq_getD_getElem?] at h0 ⊢
        simpa [hil] using h0
      have hst := hstep i o _ val a w ho hLi hdep hH hΦ
      have hw : Region.wanted o (yielded ops a.tmps) = true := by unfold Region.wanted; rw [(plain_op hp ho).1]
      have hdst : dstAt ops i = o.dst := by unfold dstAt; rw [ho]; rfl
      unfold wpOp
      rw [ho]
      simp only [hw, if_true]
      refine .inl (Oper.wp_mono ?_ hst)
      rintro a' w' ⟨v, rfl, hΦ'⟩
      have hfun : ∀ j, upB (fun j => listed.getD j false) i j = (listed.setIfInBounds i true).getD j false := by
        intro j
        unfold upB
        by_cases hji : j = i
        · subst hji; simp [hil]
        · rw [if_neg hji, getD_set_ne false (Ne.symm hji)]
      refine ih _ _ (upV val i v) _ (by simp [hsz]) ?_ ?_ (hext _ _ _ _ hfun hΦ')
      · have h1 := count_set listed.toList i (by simpa using hil) (by
          rw [Array.getD_eq_getD_getElem?] at hLi
          simpa [hil] using hLi)
        rw [Array.toList_setIfInBounds]
        omega
      · have h2 := hH.put hp his hLi v
        rw [hdst] at h2
        have e : upB (fun j => listed.getD j false) i = fun j => (listed.setIfInBounds i true).getD j false := funext hfun
        rw [e] at h2
        exact h2
/-- A REGION THAT DRAWS ITS ORDER, BY WHAT EACH OPERATION KEEPS. -/
theorem wp_region_inv {id : Nat} {a0 : Act} {w0 : World} (hm : P.follows .mixedOrders = true) (hp : plainB ops = true) (Φ : (Nat → Bool) → (Nat → Value) → World → Prop)
    (h0 : Φ (fun _ => false) (fun _ => undef) w0.drew)
    (hext : ∀ L L' val w, (∀ j, L j = L' j) → Φ L val w → Φ L' val w)
    (hstep : ∀ i o L val a w, ops[i]? = some o → L i = false → (∀ e ∈ o.after, Region.binds .any e = true → L e.on = true) → Holds ops a0 L val a → Φ L val w →
      ∀ K', Hid (∀ v w', Φ (upB L i) (upV val i v) w' → K' (a.put o.dst v) w') → Oper.wp P o a w K' Q)
    (hfin : ∀ L val w, (∀ j, j < ops.size → L j = true) → Φ L val w → Q .normal (putAll ops val a0 ops.size) w) : (Code.region id ops true).wp P Q a0 w0 := by
  refine wp_region_any hm ?_
  have hstep := fun i o L val a w h1 h2 h3 h4 h5 => hstep i o L val a w h1 h2 h3 h4 h5 (fun a' w' => ∃ v, a' = a.put o.dst v ∧ Φ (upB L i) (upV val i v) w') (fun v w' h => ⟨v, rfl, h⟩)
  have hL : ∀ j, (Array.replicate ops.size false).getD j false = false := by
    intro j
    rw [Array.getD_eq_getD_getElem?]
    by_cases hj : j < ops.size <;> simp [hj]
  refine wpAny_inv hp a0 Φ hext hstep hfin _ _ _ (fun _ => undef) _ (by simp) (by simp) ⟨rfl, rfl, fun j d _ _ h => ?_, fun _ _ => rfl⟩ (hext _ _ _ _ (fun j => (hL j).symm) h0)
  rw [hL] at h
  cases h
end

/-- A drawing region in which nothing old is written: what each operation leaves, said once; an operation may panic. -/
theorem wp_region_sp {P : Program} {ops : Array Oper} {Q : Exit → Act → World → Prop} {id : Nat} {a0 : Act} {w0 : World} (hm : P.follows .mixedOrders = true) (hp : plainB ops = true)
    (I : World → Prop) (Sp : Nat → Value → World → Prop) (hI : ∀ W W', I W → Below W.heap.size W W' → I W') (hS : ∀ j u W W', I W → Sp j u W → Below W.heap.size W W' → Sp j u W') (h0 : I w0.drew)
    (hstep : ∀ i o L val a W, ops[i]? = some o → (∀ e ∈ o.after, Region.binds .any e = true → L e.on = true) → Holds ops a0 L val a → I W → (∀ j, j < ops.size → L j = true → Sp j (val j) W) →
      ∀ K', Hid (∀ v W', Below W.heap.size W W' → Sp i v W' → K' (a.put o.dst v) W') → Oper.wp P o a W K' Q)
    (hfin : ∀ val W, I W → (∀ j, j < ops.size → Sp j (val j) W) → Q .normal (putAll ops val a0 ops.size) W) : (Code.region id ops true).wp P Q a0 w0 := by
  refine wp_region_inv hm hp (fun L val W => I W ∧ ∀ j, j < ops.size → L j = true → Sp j (val j) W) ⟨h0, fun j _ h => by cases h⟩ (fun L L' val w h hq => ⟨hq.1, fun j hj hL => hq.2 j hj (by rw [h j]; exact hL)⟩) ?_ ?_
  · intro i o L val a W ho hLi hdep hH hΦ K' hK'
    refine hstep i o L val a W ho hdep hH hΦ.1 hΦ.2 K' (show ∀ v W', _ from fun v W' hb hv => hK'.out v W' ⟨hI _ _ hΦ.1 hb, fun j hj hL => ?_⟩)
    unfold upV
    by_cases hji : j = i
    · subst hji
      rw [if_pos rfl]
      exact hv
    · rw [if_neg hji]
      exact hS _ _ _ _ hΦ.1 (hΦ.2 j hj (by simpa [upB, hji] using hL)) hb
  · intro L val w hL hΦ
    exact hfin val w hΦ.1 fun j hj => hΦ.2 j hj (hL j hj)
end Go.Proofs.YtaookoejdnkkoaaGreatDoor
