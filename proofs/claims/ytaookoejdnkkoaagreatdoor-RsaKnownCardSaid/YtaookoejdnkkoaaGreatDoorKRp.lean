import Derived.Test.YtaookoejdnkkoaaGreatDoorKSc
import Derived.Test.YtaookoejdnkkoaaGreatDoorKRsA2
import Derived.Test.YtaookoejdnkkoaaGreatDoorKCo1
import Derived.Test.YtaookoejdnkkoaaGreatDoorKModG
import Derived.Lib.AppendStr
namespace Go.Proofs.YtaookoejdnkkoaaGreatDoor
open Go.RowKit

/-! Pieces put together. -/
def StrsAt (w : World) (g : Nat) (L : List ByteArray) : Prop := ∀ (i : Nat) s, L[i]? = some s → w.cell? ⟨g, i, none⟩ = some (.string s)
theorem StrsAt.below {w w' : World} {g : Nat} {L : List ByteArray} (h : StrsAt w g L) (hb : Below w.heap.size w w') : StrsAt w' g L := fun i s hs => below_cell hb _ _ (h i s hs)
def flatS (L : List ByteArray) : List Nat := (L.map bsN).flatten
theorem flatS_snoc (L : List ByteArray) (i : Nat) (q : ByteArray) (h : L[i]? = some q) : flatS (L.take (i + 1)) = flatS (L.take i) ++ bsN q := by
  rw [List.take_add_one, h]
  simp [flatS]
theorem flatS_le (L : List ByteArray) (i : Nat) : (flatS (L.take i)).length ≤ (flatS L).length := by
  have : flatS L = flatS (L.take i) ++ flatS (L.drop i) := by
    unfold flatS
    rw [← List.flatten_append, ← List.map_append, List.take_append_drop]
  rw [this, List.length_append]
  omega
theorem strCells_u8s (s : ByteArray) : Lib.strCells s = u8s (bsN s) := by simp [Lib.strCells, u8s, bsN]
theorem wpl_appS {ops : Array Oper} {rest : List Oper} {o : Oper} {a : Act} {w : World} {Q : Exit → Act → World → Prop} (hgd : o.guard = none) (sl x : Operand)
    (ho : o.op = .call { callee := .builtin .append, args := #[sl, x], argTypes := #[40, 9] })
    (base : Nat) (v : Value) (n : Nat) (xs : List Nat) (hs : a.eval sl = v) (hown : w.ownsRow base 5 1 v n (u8s xs)) (s : ByteArray) (hx : a.eval x = .string s)
    (hbytes : n + s.size ≤ 549755813888) (hbase : base ≤ w.heap.size)
    (h : ∀ v' w', w'.ownsRow base 5 1 v' (n + s.size) (u8s (xs ++ bsN s)) → w.grownBy w' v.ownBlock → wpList Tryz.prog ops Q rest (a.put o.dst v') w') : wpList Tryz.prog ops Q (o :: rest) a w := by
  obtain ⟨i, hi, hh⟩ := Option.map_eq_some_iff.1 info8
  simp only [Prod.mk.injEq] at hh
  refine Lib.wpList_append_own_string (P := Tryz.prog) w hgd sl x 40 9 ho base 5 i Tryz.underlying40 Tryz.underlying9 hi hh.1 hh.2.1 hh.2.2 v n (u8s xs) hs hown s hx (by simp [maxLen]; omega) (by omega) hbase ?_
  intro v' w' h1 h2 _
  refine h v' w' ?_ h2
  rw [strCells_u8s] at h1
  rw [show u8s (xs ++ bsN s) = u8s xs ++ u8s (bsN s) by simp [u8s]]
  exact h1
set_option maxHeartbeats 800000 in
set_option maxRecDepth 100000 in
theorem p_joined (g : Nat) (L : List ByteArray) (n : Nat) (w : World) (hn : L.length = n) (hnb : n ≤ 1000) (hP : StrsAt w g L) (hbig : (flatS L).length ≤ 549755813888) :
    Calls Tryz.prog 105 #[.slice (some ⟨g, 0, none⟩) n n] w fun e w' => ∃ v, e = .returned v ∧ own8 w' w.heap.size v (flatS L) ∧ Below w.heap.size w w' := by
  have HP := Lib.hid hP
  have HN := Lib.hid hn
  have HBG := Lib.hid hbig
  clear hP hn hbig
  go_enter Tryz.func105, Tryz.ntmps105
  go_wp2
  go_loopw [3, 8] (fun v iv wr => ∃ (k : Nat), k ≤ n ∧ iv = .int .i64 (k : Nat) ∧ Hid (own8 wr w.heap.size v (flatS (L.take k))) ∧ Hid (Below w.heap.size w wr)) (fun _ iv _ => n - (intOf iv).toNat)
  case atStart => exact ⟨0, Nat.zero_le _, rfl, World.ownsRow_nil _ _ _ _, Below.refl _ _⟩
  case round =>
    obtain ⟨k, hk, rfl, HO, HB⟩ := hrel
    by_cases hlt2 : k < n
    · obtain ⟨q, hq⟩ : ∃ q, L[k]? = some q := ⟨_, List.getElem?_eq_getElem (by rw [HN.out]; exact hlt2)⟩
      have hcell := (HP.out.below HB.out) k q hq
      have hfs := flatS_snoc L k q hq
      have hle := flatS_le L (k + 1)
      have hle2 : (flatS (L.take k)).length + q.size ≤ 549755813888 := by rw [hfs, List.length_append, bsN_len] at hle; have := HBG.out; omega
      have HFS := Lib.hid hfs
      have hsz := HB.out.size
      clear hfs hle hq
      go_wp2_with (at_builtin; refine wpl_appS rfl _ _ rfl w.heap.size _ (flatS (L.take k)).length (flatS (L.take k)) rfl HO.out q rfl hle2 hsz ?_; intro v5 w5 hown5 hg5)
      go_roundw
      case rel =>
        refine ⟨k + 1, by omega, by go_num, ?_, HB.out.grown hg5 hsz (fun q hq => (World.ownsRow.lt HO.out q hq).1)⟩
        show w5.ownsRow _ _ _ _ _ _
        rw [HFS.out, List.length_append, bsN_len]
        exact hown5
      case measure => simp [intOf]; omega
    · obtain rfl : k = n := by omega
      have hO := HO.out
      rw [List.take_of_length_le (by rw [HN.out]; exact Nat.le_refl _)] at hO
      have HO := Lib.hid hO
      clear hO
      go_wp2
      go_ret
      exact ⟨_, rfl, HO.out, HB.out⟩
def repT (x : UInt8) (c : Nat) : ByteArray := ⟨(Lib.repeatL [x] c).toArray⟩
theorem bsN_repT (x : UInt8) : ∀ c, bsN (repT x c) = List.replicate c x.toNat
  | 0 => rfl
  | c + 1 => by
    have h := bsN_repT x c
    rw [List.replicate_succ, ← h]
    simp [bsN, repT, Lib.repeatL]
theorem p_repeat (x : UInt8) (c : Nat) (w : World) (hc : c ≤ 1000000) :
    Calls Tryz.prog 106 #[.string ⟨#[x]⟩, .int .i64 (c : Nat)] w fun e w' => e = .returned (.string (repT x c)) ∧ Below w.heap.size w w' :=
  Tryz.strings_Repeat ⟨#[x]⟩ c w (by omega) (by show 1 * c ≤ _; omega)

/-! rsa's small functions. -/
/-- A row of bytes that can be read. -/
def Raw8 (w : World) (v : Value) (l : List Nat) : Prop := ∃ a c, v = .slice a l.length c ∧ l.length ≤ c ∧ (a = none → c = 0) ∧ Rd .u8 w a l ∧ B8 l
theorem Raw8.below {w w' : World} {v : Value} {l : List Nat} (h : Raw8 w v l) (hb : Below w.heap.size w w') : Raw8 w' v l := by
  obtain ⟨a, c, h1, h2, h3, h4, h5⟩ := h
  exact ⟨a, c, h1, h2, h3, h4.below hb, h5⟩
theorem raw_lit (w : World) (x : Nat) (hx : x < 18446744073709551616) : Raw (w.alloc (.cells #[.int .u64 (x : Nat)] 47)) (.slice (some ⟨w.heap.size, 0, none⟩) 1 1) x :=
  ⟨some ⟨w.heap.size, 0, none⟩, 1, [x], rfl, by simp, (fun h => by cases h), fun _ _ => ⟨w.heap.size, 0, rfl, fun i hi => by
    obtain rfl : i = 0 := by simp at hi; omega
    exact World.cell?_alloc_at _ _ _ _ rfl⟩, Bd.nil.cons hx, by simp [val], by simp⟩
theorem r_cmp {w : World} {va vb : Value} {A C : Nat} (ga : Raw w va A) (gb : Raw w vb C) :
    Calls Tryz.prog 71 #[va, vb] w fun e w' => Below w.heap.size w w' ∧ ((A < C ∧ e = .returned (.int .i64 (-1))) ∨ (A = C ∧ e = .returned (.int .i64 0)) ∨ (C < A ∧ e = .returned (.int .i64 1))) := by
  obtain ⟨a, ca, xs, rfl, h1, _, hr1, hb1, rfl, hl1⟩ := ga
  obtain ⟨b, cb, ys, rfl, h2, _, hr2, hb2, rfl, hl2⟩ := gb
  refine (cmp_any a b _ _ ca cb xs ys w rfl rfl (by omega) (by omega) h1 h2 hr1 hr2 hb1 hb2).mono ?_
  rintro e w' ⟨rfl, n, rfl⟩
  refine ⟨⟨rfl, rfl, rfl, Nat.le_refl _, fun _ _ => rfl⟩, ?_⟩
  unfold cmpI
  rcases Nat.lt_trichotomy (val xs) (val ys) with h | h | h
  · exact .inl ⟨h, by rw [if_pos h]⟩
  · exact .inr (.inl ⟨h, by rw [if_neg (by omega), if_pos h]⟩)
  · exact .inr (.inr ⟨h, by rw [if_neg (by omega), if_neg (by omega)]⟩)
set_option maxHeartbeats 800000 in
theorem p_odd {w : World} {v : Value} {n : Nat} (h : Raw w v n) :
    Calls Tryz.prog 160 #[v] w fun e w' => w' = w ∧ ((n % 2 = 1 ∧ e = .returned (.bool true)) ∨ (n % 2 ≠ 1 ∧ e = .returned (.bool false))) := by
  obtain ⟨a, c, zs, rfl, h1, h2, hr, hb, rfl, hl⟩ := h
  cases zs with
  | nil =>
    go_enter Tryz.func160, Tryz.ntmps160
    go_wp2
    go_ret
    exact ⟨rfl, .inr ⟨by simp [val], rfl⟩⟩
  | cons x t =>
    obtain ⟨b, off, rfl⟩ := hr.isAt (by simp)
    have hc := hr.cell (i := 0) (by simp)
    have hx : x < 18446744073709551616 := hb x List.mem_cons_self
    have hand := and_one x hx
    have hv : Hid (val (x :: t) % 2 = x % 2) := by show _ = _; rw [val_cons]; omega
    have hlen : (x :: t).length = t.length + 1 := by simp
    obtain ⟨n, hn⟩ : ∃ n, n = t.length + 1 := ⟨_, rfl⟩
    have h0n : (0 : Int) < (n : Int) := by omega
    have hq : decide ((0 : Int) < (n : Int)) = true := by simpa using h0n
    have hc : w.cell? ⟨b, off, none⟩ = some (.int .u64 (x : Nat)) := by simpa [at0] using hc
    rw [hlen, ← hn]
    clear hr hb hl h1 h2 hlen hn
    go_enter Tryz.func160, Tryz.ntmps160
    go_wp2
    go_ret
    by_cases ho : x % 2 = 1
    · have h1 : ((x : Int) % 2 == 1) = true := by simp; omega
      exact ⟨rfl, .inl ⟨hv.out.trans ho, by show Ending.returned (Value.bool ((x : Int) % 2 == 1)) = _; rw [h1]⟩⟩
    · have h1 : ((x : Int) % 2 == 1) = false := by simp; omega
      exact ⟨rfl, .inr ⟨by rw [hv.out]; exact ho, by show Ending.returned (Value.bool ((x : Int) % 2 == 1)) = _; rw [h1]⟩⟩
set_option maxHeartbeats 800000 in
theorem p_maymod {w : World} {v : Value} {n : Nat} (h : Raw w v n) :
    Calls Tryz.prog 107 #[v] w fun e w' => w' = w ∧ (((368 ≤ bitsN n ∧ bitsN n ≤ 4096 ∧ n % 2 = 1) ∧ e = .returned (.bool true)) ∨ (¬ (368 ≤ bitsN n ∧ bitsN n ≤ 4096 ∧ n % 2 = 1) ∧ e = .returned (.bool false))) := by
  have HR := Lib.hid h
  go_enter Tryz.func107, Tryz.ntmps107
  go_wp2_with fail
  refine (g_bits HR.out).mono ?_
  rintro e w' ⟨k, rfl, hk, -, rfl⟩
  have HK := Lib.hid hk.eq
  clear hk h
  by_cases h1 : 368 ≤ k
  · by_cases h2 : k ≤ 4096
    · have q1 : decide ((368 : Int) ≤ (k : Int)) = true := decide_eq_true (by omega)
      have q2 : decide ((k : Int) ≤ (4096 : Int)) = true := decide_eq_true (by omega)
      have HH := Lib.hid (And.intro h1 h2)
      clear h1 h2
      go_wp2_with fail
      refine (p_odd HR.out).mono ?_
      rintro e w' ⟨rfl, hor⟩
      rcases hor with ⟨ho, rfl⟩ | ⟨ho, rfl⟩
      · have HO := Lib.hid ho
        clear ho
        go_wp2
        go_ret
        exact ⟨rfl, .inl ⟨by rw [← HK.out]; exact ⟨HH.out.1, HH.out.2, HO.out⟩, rfl⟩⟩
      · have HO := Lib.hid ho
        clear ho
        go_wp2
        go_ret
        exact ⟨rfl, .inr ⟨fun h => HO.out h.2.2, rfl⟩⟩
    · have q1 : decide ((368 : Int) ≤ (k : Int)) = true := decide_eq_true (by omega)
      have q2 : decide ((k : Int) ≤ (4096 : Int)) = false := decide_eq_false (by omega)
      have HH := Lib.hid h2
      clear h1 h2
      go_wp2
      go_ret
      exact ⟨rfl, .inr ⟨fun h => HH.out (by rw [HK.out]; exact h.2.1), rfl⟩⟩
  · have q1 : decide ((368 : Int) ≤ (k : Int)) = false := decide_eq_false (by omega)
    have HH := Lib.hid h1
    clear h1
    go_wp2
    go_ret
    exact ⟨rfl, .inr ⟨fun h => HH.out (by rw [HK.out]; exact h.1), rfl⟩⟩
set_option maxHeartbeats 800000 in
theorem p_mayexp {w : World} {vE vN : Value} {E N : Nat} (gE : Raw w vE E) (gN : Raw w vN N) :
    Calls Tryz.prog 108 #[vE, vN] w fun e w' => Below w.heap.size w w' ∧ (((E % 2 = 1 ∧ 3 ≤ E ∧ E < N) ∧ e = .returned (.bool true)) ∨ (¬ (E % 2 = 1 ∧ 3 ≤ E ∧ E < N) ∧ e = .returned (.bool false))) := by
  have HE := Lib.hid gE
  have HN := Lib.hid gN
  have hal : Below w.heap.size w (w.alloc (.cells #[.int .u64 ((3 : Nat) : Int)] 47)) := (Below.refl _ _).alloc (Nat.le_refl _) _
  have HA := Lib.hid hal
  have H3 := Lib.hid (r_cmp (gE.below hal) (raw_lit w 3 (by decide)))
  obtain ⟨aE, lE, cE, rfl⟩ := gE.sl
  obtain ⟨aN, lN, cN, rfl⟩ := gN.sl
  clear gE gN hal
  go_enter Tryz.func108, Tryz.ntmps108
  go_wp2_with fail
  refine (p_odd HE.out).mono ?_
  rintro e w' ⟨rfl, hor⟩
  rcases hor with ⟨ho, rfl⟩ | ⟨ho, rfl⟩
  · have HO := Lib.hid ho
    clear ho
    go_wp2_with fail
    refine H3.out.mono ?_
    rintro e w1 ⟨hb, hor⟩
    have HB := Lib.hid (HA.out.trans (hb.mono HA.out.size))
    clear hb
    have key : (3 ≤ E ∧ ∃ k : Int, (k = 0 ∨ k = 1) ∧ e = .returned (.int .i64 k)) ∨ (E < 3 ∧ e = .returned (.int .i64 (-1))) := by
      rcases hor with ⟨h, rfl⟩ | ⟨h, rfl⟩ | ⟨h, rfl⟩
      · exact .inr ⟨h, rfl⟩
      · exact .inl ⟨by omega, 0, .inl rfl, rfl⟩
      · exact .inl ⟨by omega, 1, .inr rfl, rfl⟩
    clear hor
    rcases key with ⟨h3, k, hk, rfl⟩ | ⟨h3, rfl⟩
    · have HH := Lib.hid h3
      have q : decide ((0 : Int) ≤ k) = true := decide_eq_true (by omega)
      have q2 : decide (k ≥ (0 : Int)) = true := decide_eq_true (by omega)
      have q3 : (0 : Int) ≤ k := by omega
      clear h3 hk
      go_wp2_with fail
      refine (r_cmp (HE.out.below HB.out) (HN.out.below HB.out)).mono ?_
      rintro e w2 ⟨hb, hor⟩
      have HB := Lib.hid (HB.out.trans (hb.mono HB.out.size))
      clear hb
      have key : (E < N ∧ e = .returned (.int .i64 (-1))) ∨ (N ≤ E ∧ ∃ k : Int, (k = 0 ∨ k = 1) ∧ e = .returned (.int .i64 k)) := by
        rcases hor with ⟨h, rfl⟩ | ⟨h, rfl⟩ | ⟨h, rfl⟩
        · exact .inl ⟨h, rfl⟩
        · exact .inr ⟨by omega, 0, .inl rfl, rfl⟩
        · exact .inr ⟨by omega, 1, .inr rfl, rfl⟩
      clear hor
      rcases key with ⟨h3, rfl⟩ | ⟨h3, k2, hk, rfl⟩
      · have HL := Lib.hid h3
        clear h3
        go_wp2
        go_ret
        exact ⟨HB.out, .inl ⟨⟨HO.out, HH.out, HL.out⟩, rfl⟩⟩
      · have HL := Lib.hid h3
        have p1 : decide (k2 < (0 : Int)) = false := decide_eq_false (by omega)
        clear h3 hk
        go_wp2
        go_ret
        exact ⟨HB.out, .inr ⟨fun h => by have := HL.out; omega, rfl⟩⟩
    · have HH := Lib.hid h3
      clear h3
      go_wp2
      go_ret
      exact ⟨HB.out, .inr ⟨fun h => by have := HH.out; omega, rfl⟩⟩
  · have HO := Lib.hid ho
    clear ho
    go_wp2
    go_ret
    exact ⟨Below.refl _ _, .inr ⟨fun h => HO.out h.1, rfl⟩⟩

/-! A key in its box: Check, Size, and a signature's number. -/
abbrev KB (x y : Value) : Obj := .cells #[x, y] 25
/-- A key that lies in a block. -/
structure KeyAt (w : World) (g : Nat) (vN vE : Value) (N E : Nat) : Prop where
  c0 : w.cell? ⟨g, 0, none⟩ = some vN
  c1 : w.cell? ⟨g, 1, none⟩ = some vE
  rN : Raw w vN N
  rE : Raw w vE E
theorem KeyAt.below {w w' : World} {g : Nat} {vN vE : Value} {N E : Nat} (h : KeyAt w g vN vE N E) (hb : Below w.heap.size w w') : KeyAt w' g vN vE N E :=
  ⟨below_cell hb _ _ h.c0, below_cell hb _ _ h.c1, h.rN.below hb, h.rE.below hb⟩
theorem KeyAt.new {w : World} {vN vE : Value} {N E : Nat} (hN : Raw w vN N) (hE : Raw w vE E) : KeyAt (w.alloc (KB vN vE)) w.heap.size vN vE N E :=
  ⟨World.cell?_alloc_at _ _ _ _ rfl, World.cell?_alloc_at _ _ _ _ rfl, hN.below ((Below.refl _ _).alloc (Nat.le_refl _) _), hE.below ((Below.refl _ _).alloc (Nat.le_refl _) _)⟩
set_option maxHeartbeats 800000 in
theorem p_check {w : World} {vN vE : Value} {N E : Nat} (gN : Raw w vN N) (gE : Raw w vE E) :
    Calls Tryz.prog 58 #[.agg #[vN, vE]] w fun e w' => Below w.heap.size w w' ∧ ((KeyOk N E ∧ e = .returned (.int .i64 0)) ∨ (¬ KeyOk N E ∧ e = .returned (.int .i64 80))) := by
  have HK0 := KeyAt.new gN gE
  obtain ⟨aN, lN, cN, rfl⟩ := gN.sl
  obtain ⟨aE, lE, cE, rfl⟩ := gE.sl
  obtain ⟨W0, hW0⟩ : ∃ W0, W0 = w.alloc (KB (.slice aN lN cN) (.slice aE lE cE)) := ⟨_, rfl⟩
  have hB : Below w.heap.size w W0 := by rw [hW0]; exact (Below.refl _ _).alloc (Nat.le_refl _) _
  rw [← hW0] at HK0
  have hc0 := HK0.c0
  have hc1 := HK0.c1
  have HK := Lib.hid HK0
  have HB := Lib.hid hB
  clear HK0 hB gN gE
  go_enter Tryz.func58, Tryz.ntmps58
  go_wp2_with fail
  rw [← hW0]
  clear hW0
  refine (p_maymod HK.out.rN).mono ?_
  rintro e w' ⟨rfl, hor⟩
  rcases hor with ⟨ho, rfl⟩ | ⟨ho, rfl⟩
  · have HO := Lib.hid ho
    clear ho
    go_wp2_with fail
    refine (p_mayexp HK.out.rE HK.out.rN).mono ?_
    rintro e w1 ⟨hb, hor⟩
    have HB := Lib.hid (HB.out.trans (hb.mono HB.out.size))
    clear hb hc0 hc1
    rcases hor with ⟨h2, rfl⟩ | ⟨h2, rfl⟩
    · have H2 := Lib.hid h2
      clear h2
      go_wp2
      go_ret
      exact ⟨HB.out, .inl ⟨⟨HO.out.1, HO.out.2.1, HO.out.2.2, H2.out.1, H2.out.2.1, H2.out.2.2⟩, rfl⟩⟩
    · have H2 := Lib.hid h2
      clear h2
      go_wp2
      go_ret
      exact ⟨HB.out, .inr ⟨fun h => H2.out ⟨h.2.2.2.1, h.2.2.2.2.1, h.2.2.2.2.2⟩, rfl⟩⟩
  · have HO := Lib.hid ho
    clear ho hc0 hc1
    go_wp2
    go_ret
    exact ⟨HB.out, .inr ⟨fun h => HO.out ⟨h.1, h.2.1, h.2.2.1⟩, rfl⟩⟩
set_option maxHeartbeats 800000 in
theorem p_size {w : World} {vN vE : Value} {N : Nat} (gN : Raw w vN N) (hE : ∃ a l c, vE = .slice a l c) :
    Calls Tryz.prog 59 #[.agg #[vN, vE]] w fun e w' => Below w.heap.size w w' ∧ e = .returned (.int .i64 (szN N : Nat)) := by
  obtain ⟨aN, lN, cN, rfl⟩ := gN.sl
  obtain ⟨aE, lE, cE, rfl⟩ := hE
  obtain ⟨W0, hW0⟩ : ∃ W0, W0 = w.alloc (KB (.slice aN lN cN) (.slice aE lE cE)) := ⟨_, rfl⟩
  have hB : Below w.heap.size w W0 := by rw [hW0]; exact (Below.refl _ _).alloc (Nat.le_refl _) _
  have HR := Lib.hid (gN.below hB)
  have HB := Lib.hid hB
  clear hB gN
  go_enter Tryz.func59, Tryz.ntmps59
  go_wp2_with fail
  rw [← hW0]
  clear hW0
  refine (g_bits HR.out).mono ?_
  rintro e w' ⟨k, rfl, hk, hk2, rfl⟩
  have HKK : Hid (szN N = (k + 7) / 8) := by show _ = _; rw [szN, ← hk.eq]
  clear hk
  go_wp2
  go_ret
  refine ⟨HB.out, ?_⟩
  rw [HKK.out]
  rfl
set_option exponentiation.threshold 100000 in
set_option maxHeartbeats 1600000 in
theorem p_below {w : World} {vN vE vs : Value} {N E : Nat} {s : List Nat} (gN : Raw w vN N) (gE : Raw w vE E) (gs : Raw8 w vs s) (hk : KeyOk N E) (hs : s.length ≤ 1099511627776) :
    Calls Tryz.prog 111 #[.agg #[vN, vE], vs] w fun e w' => Below w.heap.size w w' ∧ ((SigOk N s ∧ ∃ v, e = .returned (.tuple #[v, .int .i64 0]) ∧ Raw w' v (bval s)) ∨ (¬ SigOk N s ∧ e = .returned (.tuple #[.slice none 0 0, .int .i64 81]))) := by
  have HK0 := KeyAt.new gN gE
  obtain ⟨aN, lN, cN, rfl⟩ := gN.sl
  obtain ⟨aE, lE, cE, rfl⟩ := gE.sl
  obtain ⟨aS, cs, rfl, hsc, -, hsr, hs8⟩ := gs
  obtain ⟨W0, hW0⟩ : ∃ W0, W0 = w.alloc (KB (.slice aN lN cN) (.slice aE lE cE)) := ⟨_, rfl⟩
  have hB : Below w.heap.size w W0 := by rw [hW0]; exact (Below.refl _ _).alloc (Nat.le_refl _) _
  rw [← hW0] at HK0
  have HS := Lib.hid (fun (W : World) (h : Below w.heap.size w W) => from_any aS s.length cs s W rfl hs hsc hs8 (hsr.below h))
  have HS8 := Lib.hid hs8
  have HKO := Lib.hid hk
  have HK := Lib.hid HK0
  have HB := Lib.hid hB
  obtain ⟨n, hn⟩ : ∃ n, n = s.length := ⟨_, rfl⟩
  rw [← hn] at hs ⊢
  have HN := Lib.hid hn
  have HW := Lib.hid hW0
  clear HK0 hB gN gE hsr hs8 hsc hn hk hW0
  go_enter Tryz.func111, Tryz.ntmps111
  go_wp2_with fail
  rw [← HW.out]
  clear HW
  refine (p_size HK.out.rN ⟨_, _, _, rfl⟩).mono ?_
  rintro e w1 ⟨hb, rfl⟩
  have HK := Lib.hid (HK.out.below hb)
  have HB := Lib.hid (HB.out.trans (hb.mono HB.out.size))
  clear hb
  obtain ⟨z, hz⟩ : ∃ z, z = szN N := ⟨_, rfl⟩
  rw [← hz]
  have HZ := Lib.hid hz
  clear hz
  have hc0 := HK.out.c0
  by_cases hnz : n = z
  · have HE := Lib.hid hnz
    have q1 : ((n : Int) != (z : Int)) = false := by subst hnz; simp
    have hs2 : n ≤ 512 := by have := HE.out; have := HZ.out; have := HKO.out.size.2; omega
    clear hnz
    go_wp2_with fail
    rw [HN.out]
    refine (HS.out _ HB.out).mono ?_
    rintro e w2 ⟨hb, hor⟩
    have HK := Lib.hid (HK.out.below hb)
    have hc0 := HK.out.c0
    rcases hor with ⟨h, _⟩ | ⟨h, v, zs, rfl, ho, hnum⟩
    · exfalso
      have h1 := bval_lt HS8.out
      have h2 : (256 : Nat) ^ s.length ≤ 18446744073709551616 ^ 128 := by
        rw [show (18446744073709551616 : Nat) = 256 ^ 8 by decide, ← Nat.pow_mul]
        exact Nat.pow_le_pow_right (by decide) (by have := HN.out; omega)
      omega
    · have hl1000 : bval s < 18446744073709551616 ^ 1000 := Nat.lt_of_lt_of_le h (Nat.pow_le_pow_right (by decide) (by decide))
      have hraw := raw_of_own ho hnum hl1000
      obtain ⟨ab, lb, cb, rfl⟩ := hraw.sl
      have HR := Lib.hid hraw
      have HB := Lib.hid (HB.out.trans (hb.mono HB.out.size))
      clear hb h ho hnum hl1000 hraw
      go_wp2_with fail
      refine (r_cmp HR.out HK.out.rN).mono ?_
      rintro e w3 ⟨hb, hor⟩
      have HR := Lib.hid (HR.out.below hb)
      have HB := Lib.hid (HB.out.trans (hb.mono HB.out.size))
      have key : (bval s < N ∧ e = .returned (.int .i64 (-1))) ∨ (N ≤ bval s ∧ ∃ k : Int, (k = 0 ∨ k = 1) ∧ e = .returned (.int .i64 k)) := by
        rcases hor with ⟨h, rfl⟩ | ⟨h, rfl⟩ | ⟨h, rfl⟩
        · exact .inl ⟨h, rfl⟩
        · exact .inr ⟨by omega, 0, .inl rfl, rfl⟩
        · exact .inr ⟨by omega, 1, .inr rfl, rfl⟩
      clear hor hb hc0
      rcases key with ⟨h3, rfl⟩ | ⟨h3, k2, hk, rfl⟩
      · have HL := Lib.hid h3
        clear h3
        go_wp2
        go_ret2
        exact ⟨HB.out, .inl ⟨⟨by rw [← HN.out, HE.out, HZ.out], HL.out⟩, _, rfl, HR.out⟩⟩
      · have HL := Lib.hid h3
        have p1 : decide ((0 : Int) ≤ k2) = true := decide_eq_true (by omega)
        have p2 : decide (k2 ≥ (0 : Int)) = true := decide_eq_true (by omega)
        have p3 : (0 : Int) ≤ k2 := by omega
        clear h3 hk
        go_wp2
        go_ret2
        exact ⟨HB.out, .inr ⟨fun h => by have := HL.out; have := h.2; omega, rfl⟩⟩
  · have HE := Lib.hid hnz
    have q1 : ((n : Int) != (z : Int)) = true := by simpa using fun h => hnz (by omega)
    clear hnz
    go_wp2
    go_ret2
    exact ⟨HB.out, .inr ⟨fun h => HE.out (by rw [HN.out, HZ.out]; exact h.1), rfl⟩⟩

/-! A number in so many bytes; a digest's encoding. -/
theorem strs_lit (w : World) (T : TypeId) (L : List ByteArray) (cs : Array Value) (hc : cs = (L.map Value.string).toArray) : StrsAt (w.alloc (.cells cs T)) w.heap.size L := fun i s hs => by
  subst hc
  rw [World.cell?_alloc_at _ _ _ _ rfl]
  simp [hs]
theorem below_drew {w w' : World} {B : Nat} (h : Below B w w') : Below B w w'.drew := h.drew
set_option maxHeartbeats 400000 in
set_option maxRecDepth 100000 in
theorem p_inbytes {w : World} {va : Value} {A : Nat} (ga : Raw w va A) (n : Nat) (hA : A < 18446744073709551616 ^ 128) (hn : szN A ≤ n) (hnb : n ≤ 100000) :
    Calls Tryz.prog 112 #[va, .int .i64 (n : Nat)] w fun e w' => Below w.heap.size w w' ∧ ∃ v l, e = .returned (.tuple #[v, .int .i64 0]) ∧ BNum l A ∧ own8 w' w.heap.size v (padL n l) := by
  obtain ⟨a, c, xs, rfl, h1, h2, hr, hb, rfl, hl⟩ := ga
  have HC := Lib.hid (bytes_any a _ c xs w rfl (by omega) h1 hr hb)
  have HF : Hid (fl xs ≤ 128) := (fl_iff hb).2 hA
  have HZ := Lib.hid hn
  obtain ⟨P, hP⟩ : ∃ P, P = val xs := ⟨_, rfl⟩
  rw [← hP] at HZ ⊢
  have HP := Lib.hid hP
  generalize xs.length = lx at *
  clear hA hn hb hr hl h1 h2 hP
  go_enter Tryz.func112, Tryz.ntmps112
  go_wp2_with fail
  refine HC.out.mono ?_
  rintro e w1 ⟨hb1, ab, cb, k, bs, rfl, ho, hbl, hT⟩
  obtain ⟨rfl, hB⟩ : k = 0 ∧ BNum bs P := by
    rw [HP.out]
    rcases hT with ⟨h, _⟩ | ⟨_, h, h'⟩
    · have := HF.out; omega
    · exact ⟨h, h'⟩
  have hsz := bnum_sz hB
  obtain ⟨q, hq⟩ : ∃ q, n = bs.length + q := ⟨n - bs.length, by have := HZ.out; omega⟩
  have HX : Hid (∀ W, Below w1.heap.size w1 W → (convert 40 9 (.slice ab bs.length cb)).run Tryz.prog W = .ok (.string (strN bs)) W) := fun W hW =>
    own_text ((Chg.of_below hW).owns ho (fun j hj => by have := (World.ownsRow.lt ho j hj).2; omega)) rfl 9 Tryz.underlying9
  have HB1 := Lib.hid hb1
  have HBN := Lib.hid hB
  have HQ : Hid (q = n - bs.length) := by show _ = _; omega
  obtain ⟨m, hm⟩ : ∃ m, m = bs.length := ⟨_, rfl⟩
  have HM := Lib.hid hm
  rw [← hm] at hq HX ⊢
  have hq1 : q ≤ 100000 := by omega
  have hm1 : m ≤ 100000 := by omega
  have hsub : (n : Int) - (m : Int) = (q : Int) := by omega
  have hsub2 : IntKind.i64.wrap (q : Int) = (q : Int) := wrap_i64_nat _ (by omega)
  clear hB ho hT hb1 hsz hq hbl hm HF HC
  have hq1' : q ≤ 1000000 := by omega
  have hl2 : Hid ([repT 0 q, strN bs].length = 2) := rfl
  have hl3 : Hid (#[Value.string (repT 0 q), .string (strN bs)] = (([repT 0 q, strN bs]).map Value.string).toArray) := rfl
  have hl4 : (flatS [repT 0 q, strN bs]).length ≤ 549755813888 := by
    have h1 := congrArg List.length (bsN_repT 0 q)
    rw [List.length_replicate] at h1
    have h2 : (bsN (strN bs)).length = m := by rw [bsN_strN HBN.out.b8, HM.out]
    simp only [flatS, List.map_cons, List.map_nil, List.flatten_cons, List.flatten_nil, List.length_append, List.length_nil, h1, h2]
    omega
  have HB := Lib.hid (below_drew (Below.refl w1.heap.size w1))
  go_upto_region 4 with fail
  go_region_held3 (fun W => (convert 40 9 (.slice ab m cb)).run Tryz.prog W = .ok (.string (strN bs)) W)
    (first | (with_reducible exact HX.out _ HB.out) | (with_reducible exact HX.out _ (HB.out.alloc HB.out.size _)))
    (first
      | (go_at_call 106; (with_reducible refine (p_repeat 0 q _ hq1').mono ?_)
         rintro e w2 ⟨rfl, hb2⟩
         have HB := Lib.hid (HB.out.trans (hb2.mono HB.out.size))
         clear hb2)
      | (go_at_call 105; (with_reducible refine (p_joined _ [repT 0 q, strN bs] 2 _ hl2.out (by decide) (strs_lit _ _ _ _ hl3.out) hl4).mono ?_)
         rintro e w3 ⟨v3, rfl, ho3, hb3⟩
         have HO3 := Lib.hid ho3
         have HS2 := Lib.hid HB.out.size
         have HB := Lib.hid ((HB.out.alloc HB.out.size _).trans (hb3.mono (by have := HB.out.size; simp; omega)))
         clear ho3 hb3))
  go_wp2
  go_ret2
  have hv : flatS [repT 0 q, strN bs] = padL n bs := by
    simp only [flatS, List.map_cons, List.map_nil, List.flatten_cons, List.flatten_nil, List.append_nil, bsN_repT, bsN_strN HBN.out.b8, padL, ← HQ.out]
    rfl
  refine ⟨HB1.out.trans (HB.out.mono HB1.out.size), v3, bs, rfl, HBN.out, ?_⟩
  rw [← hv]
  exact owns_base HO3.out (by have := HB1.out.size; have := HS2.out; simp; omega)
theorem rd_text {W : World} {g off c : Nat} {l : List Nat} (h : ∀ i, i < l.length → W.cell? ⟨g, off + i, none⟩ = some (.int .u8 (l.getD i 0 : Nat))) :
    (convert 40 9 (.slice (some ⟨g, off, none⟩) l.length c)).run Tryz.prog W = .ok (.string (strN l)) W := by
  have := run_convert_bytes_arg (P := Tryz.prog) W 40 5 Tryz.underlying40 Tryz.underlying5 g off l.length c (l.map fun (x : Nat) => (x : Int)) (by simp) (fun i hi => by
    rw [h i hi]
    simp [List.getD, hi]) 9 Tryz.underlying9
  rw [this]
  simp [strOfNums, strN, Function.comp_def]
def encS (d : List Nat) (q : Nat) : List ByteArray := [⟨#[0, 1]⟩, repT 255 q, ⟨#[0]⟩, ⟨#[48, 33, 48, 9, 6, 5, 43, 14, 3, 2, 26, 5, 0, 4, 20]⟩, strN d]
theorem encS_flat {d : List Nat} {n q : Nat} (h8 : B8 d) (hq : n - 38 = q) : flatS (encS d q) = encL d n := by
  have h1 : bsN ⟨#[0, 1]⟩ = [0, 1] := rfl
  have h2 : bsN ⟨#[0]⟩ = [0] := rfl
  have h3 : bsN ⟨#[48, 33, 48, 9, 6, 5, 43, 14, 3, 2, 26, 5, 0, 4, 20]⟩ = [48, 33, 48, 9, 6, 5, 43, 14, 3, 2, 26, 5, 0, 4, 20] := rfl
  have h4 : (255 : UInt8).toNat = 255 := rfl
  simp only [flatS, encS, List.map_cons, List.map_nil, List.flatten_cons, List.flatten_nil, List.append_nil, h1, h2, h3, bsN_repT, bsN_strN h8, encL, midL, hq, h4]
  rfl
set_option maxHeartbeats 400000 in
set_option maxRecDepth 100000 in
theorem p_encoded (d : List Nat) (z : Int) (w : World) (hd : d.length = 20) (h8 : B8 d) (hz1 : -9223372036854775808 ≤ z) (hz2 : z ≤ 9223372036854775807) :
    Calls Tryz.prog 56 #[.agg (u8s d).toArray, .int .i64 z] w fun e w' => Below w.heap.size w w' ∧ ∃ v k b, e = .returned (.tuple #[v, .int .i64 k]) ∧ EncdTells d z k b ∧ own8 w' w.heap.size v b := by
  by_cases hr : 46 ≤ z ∧ z ≤ 512
  · obtain ⟨n, rfl⟩ : ∃ n : Nat, z = (n : Int) := ⟨z.toNat, by omega⟩
    have q1 : decide ((n : Int) < 46) = false := decide_eq_false (by omega)
    have q2 : decide ((512 : Int) < (n : Int)) = false := decide_eq_false (by omega)
    obtain ⟨q, hq⟩ : ∃ q, n = 38 + q := ⟨n - 38, by omega⟩
    have hsub : (n : Int) - 38 = (q : Int) := by omega
    have hq1 : q ≤ 1000000 := by omega
    have hsub2 : IntKind.i64.wrap (q : Int) = (q : Int) := wrap_i64_nat _ (by omega)
    have HT : Hid (EncdTells d n 0 (encL d n)) := .inr ⟨by omega, by omega, rfl, by rw [Int.toNat_natCast]⟩
    have HD := Lib.hid (And.intro hd h8)
    have HC0 := Lib.hid (CB.new w 50 (u8s d))
    have HB0 := Lib.hid ((Below.refl w.heap.size w).alloc (Nat.le_refl _) (.cells (u8s d).toArray 50))
    have hqn : n - 38 = q := by omega
    have HQ := Lib.hid hqn
    clear hr hz1 hz2 hq hqn hd h8
    go_enter Tryz.func56, Tryz.ntmps56
    go_upto_region 3 with fail
    generalize w.alloc (.cells (u8s d).toArray 50) = W0 at *
    have HX : Hid (∀ W, Below W0.heap.size W0 W → (convert 40 9 (.slice (some ⟨w.heap.size, 0, none⟩) 20 20)).run Tryz.prog W = .ok (.string (strN d)) W) := fun W hW => by
      have hcb := HC0.out.below hW
      have h := rd_text (W := W) (g := w.heap.size) (off := 0) (c := 20) (l := d) (fun i hi => by
        rw [Nat.zero_add, hcb.cell]
        simp [u8s, List.getElem?_eq_getElem hi])
      rw [HD.out.1] at h
      exact h
    generalize hg : w.heap.size = g at *
    have HLG := Lib.hid (show g < W0.heap.size from HC0.out.lt)
    have hl2 : Hid ((encS d q).length = 5) := rfl
    have hl3 : Hid (#[Value.string ⟨#[0, 1]⟩, .string (repT 255 q), .string ⟨#[0]⟩, .string ⟨#[48, 33, 48, 9, 6, 5, 43, 14, 3, 2, 26, 5, 0, 4, 20]⟩, .string (strN d)] = ((encS d q).map Value.string).toArray) := rfl
    have hfl : Hid (flatS (encS d q) = encL d n) := encS_flat HD.out.2 HQ.out
    have hl4 : (flatS (encS d q)).length ≤ 549755813888 := by
      rw [hfl.out, encL_len HD.out.1 (by omega)]
      omega
    clear HC0
    have HB := Lib.hid (below_drew (Below.refl W0.heap.size W0))
    go_region_held3 (fun W => (convert 40 9 (.slice (some ⟨g, 0, none⟩) 20 20)).run Tryz.prog W = .ok (.string (strN d)) W)
      (first | (with_reducible exact HX.out _ HB.out) | (with_reducible exact HX.out _ (HB.out.alloc HB.out.size _)))
      (first
        | (go_at_call 106; (with_reducible refine (p_repeat 255 q _ hq1).mono ?_)
           rintro e w2 ⟨rfl, hb2⟩
           have HB := Lib.hid (HB.out.trans (hb2.mono HB.out.size))
           clear hb2)
        | (go_at_call 105; (with_reducible refine (p_joined _ (encS d q) 5 _ hl2.out (by decide) (strs_lit _ _ _ _ hl3.out) hl4).mono ?_)
           rintro e w3 ⟨v3, rfl, ho3, hb3⟩
           have HO3 := Lib.hid ho3
           have HS2 := Lib.hid HB.out.size
           have HB := Lib.hid ((HB.out.alloc HB.out.size _).trans (hb3.mono (by have := HB.out.size; simp; omega)))
           clear ho3 hb3))
    go_wp2
    go_ret2
    subst hg
    refine ⟨HB0.out.trans (HB.out.mono (by have := HB0.out.size; omega)), v3, 0, _, rfl, HT.out, ?_⟩
    rw [← hfl.out]
    exact owns_base HO3.out (by have := HB0.out.size; have := HS2.out; simp; omega)
  · have hor : decide (z < 46) = true ∨ (decide (z < 46) = false ∧ decide ((512 : Int) < z) = true) := by
      by_cases h : z < 46
      · exact .inl (decide_eq_true h)
      · exact .inr ⟨decide_eq_false h, decide_eq_true (by omega)⟩
    have HT : Hid (EncdTells d z 81 []) := .inl ⟨by omega, rfl, rfl⟩
    have HB0 := Lib.hid ((Below.refl w.heap.size w).alloc (Nat.le_refl _) (.cells (u8s d).toArray 50))
    clear hr
    rcases hor with q1 | ⟨q1, q2⟩
    all_goals
      go_enter Tryz.func56, Tryz.ntmps56
      go_wp2
      go_ret2
      exact ⟨HB0.out, _, 81, [], rfl, HT.out, World.ownsRow_nil _ _ _ _⟩

/-! Raise. -/
/-- A row of bytes and an error's number. -/
def BPost (Q : Int → List Nat → Prop) (w : World) (e : Ending) (w' : World) : Prop :=
  Below w.heap.size w w' ∧ ∃ v k b, e = .returned (.tuple #[v, .int .i64 k]) ∧ own8 w' w.heap.size v b ∧ Q k b
theorem BPost.none {Q : Int → List Nat → Prop} {w w' : World} {k : Int} (hb : Below w.heap.size w w') (hQ : Q k []) : BPost Q w (.returned (.tuple #[.slice none 0 0, .int .i64 k])) w' :=
  ⟨hb, _, k, [], rfl, World.ownsRow_nil _ _ _ _, hQ⟩
set_option exponentiation.threshold 100000 in
theorem lim_128 {N x : Nat} (h : N < 18446744073709551616 ^ 64) (hx : x < N) : x < 18446744073709551616 ^ 128 := Nat.lt_of_lt_of_le (Nat.lt_trans hx h) lim_le128
set_option exponentiation.threshold 100000 in
set_option maxHeartbeats 800000 in
set_option maxRecDepth 100000 in
theorem p_raise {w : World} {vN vE vs : Value} {N E : Nat} {s : List Nat} (hT : Trig w) (gN : Raw w vN N) (gE : Raw w vE E) (gs : Raw8 w vs s) (hs : s.length ≤ 1099511627776) :
    Calls Tryz.prog 62 #[.agg #[vN, vE], vs] w (BPost (RaiseTells N E s) w) := by
  have HK0 := KeyAt.new gN gE
  obtain ⟨aN, lN, cN, rfl⟩ := gN.sl
  obtain ⟨aE, lE, cE, rfl⟩ := gE.sl
  obtain ⟨W0, hW0⟩ : ∃ W0, W0 = w.alloc (KB (.slice aN lN cN) (.slice aE lE cE)) := ⟨_, rfl⟩
  have hB : Below w.heap.size w W0 := by rw [hW0]; exact (Below.refl _ _).alloc (Nat.le_refl _) _
  rw [← hW0] at HK0
  have hc0 := HK0.c0
  have hc1 := HK0.c1
  have HK := Lib.hid HK0
  have HB := Lib.hid hB
  have HSS := Lib.hid (fun (W : World) (h : Below w.heap.size w W) => gs.below h)
  have HT := Lib.hid (fun (W : World) (h : Below w.heap.size w W) => hT.below h)
  obtain ⟨aS, cS, rfl, -⟩ := gs
  obtain ⟨ls, hls⟩ : ∃ ls, ls = s.length := ⟨_, rfl⟩
  rw [← hls] at HSS hs ⊢
  have HLS := Lib.hid hls
  have HW := Lib.hid hW0
  clear HK0 hB gN gE hT hls hW0
  go_enter Tryz.func62, Tryz.ntmps62
  go_wp2_with fail
  rw [← HW.out]
  clear HW
  refine (p_check HK.out.rN HK.out.rE).mono ?_
  rintro e w1 ⟨hb, hor⟩
  have HK := Lib.hid (HK.out.below hb)
  have HB := Lib.hid (HB.out.trans (hb.mono HB.out.size))
  clear hb hc0 hc1
  have hc0 := HK.out.c0
  have hc1 := HK.out.c1
  rcases hor with ⟨ho, rfl⟩ | ⟨ho, rfl⟩
  · have HO := Lib.hid ho
    clear ho
    go_wp2_with fail
    rw [HLS.out]
    refine (p_below (s := s) HK.out.rN HK.out.rE (HLS.out ▸ HSS.out _ HB.out) HO.out (HLS.out ▸ hs)).mono ?_
    rw [← HLS.out]
    rintro e w2 ⟨hb, hor⟩
    have HK := Lib.hid (HK.out.below hb)
    have HB := Lib.hid (HB.out.trans (hb.mono HB.out.size))
    clear hb hc0 hc1
    have hc0 := HK.out.c0
    have hc1 := HK.out.c1
    rcases hor with ⟨hso, v, rfl, hv⟩ | ⟨hso, rfl⟩
    · have HSO := Lib.hid hso
      have HV := Lib.hid hv
      obtain ⟨aV, lV, cV, rfl⟩ := hv.sl
      clear hso hv
      go_wp2_with fail
      refine (g_pow (HT.out _ HB.out) HK.out.rN HV.out HK.out.rE).mono ?_
      rintro e w3 ⟨hb, aP, cP, k, zs, rfl, ho, hT⟩
      have hlim := HO.out.lim
      obtain ⟨rfl, hnum⟩ : k = 0 ∧ Num zs (bval s ^ E % N) := by
        rcases hT with ⟨h, _⟩ | ⟨_, h, _⟩ | ⟨_, _, h, h'⟩
        · exact absurd ⟨⟨lim_128 hlim HSO.out.2, lim_128 hlim HO.out.2.2.2.2.2⟩, hlim⟩ h
        · have := HO.out.pos; omega
        · exact ⟨h, h'⟩
      have hPN : bval s ^ E % N < N := Nat.mod_lt _ HO.out.pos
      obtain ⟨P, hP⟩ : ∃ P, P = bval s ^ E % N := ⟨_, rfl⟩
      rw [← hP] at hnum hPN
      have HP := Lib.hid hP
      have HPN := Lib.hid hPN
      have hR : Raw w3 (.slice aP zs.length cP) P := raw_of_own ho hnum (Nat.lt_of_lt_of_le (lim_128 hlim hPN) (Nat.pow_le_pow_right (by decide) (by decide)))
      have HR := Lib.hid hR
      generalize zs.length = lP at *
      have HK := Lib.hid (HK.out.below hb)
      have HB := Lib.hid (HB.out.trans (hb.mono HB.out.size))
      clear hb hc0 hc1 ho hT hlim hnum hPN hP hR
      have hc0 := HK.out.c0
      have hc1 := HK.out.c1
      go_wp2_with fail
      refine (p_size HK.out.rN ⟨_, _, _, rfl⟩).mono ?_
      rintro e w4 ⟨hb, rfl⟩
      have HR := Lib.hid (HR.out.below hb)
      have HB := Lib.hid (HB.out.trans (hb.mono HB.out.size))
      clear hb hc0 hc1
      go_wp2_with fail
      refine (p_inbytes HR.out (szN N) (lim_128 HO.out.lim HPN.out) (sz_mono (Nat.le_of_lt HPN.out)) (by have := HO.out.size; omega)).mono ?_
      rintro e w5 ⟨hb, v, l, rfl, hl, ho⟩
      have HOW := Lib.hid ho
      have HL := Lib.hid hl
      have HSZ := Lib.hid HB.out.size
      have HB := Lib.hid (HB.out.trans (hb.mono HB.out.size))
      clear hb ho hl
      go_wp2
      go_ret2
      exact ⟨HB.out, v, 0, _, rfl, owns_base HOW.out HSZ.out, RaiseTells.yes HO.out HSO.out HP.out HL.out⟩
    · have HSO := Lib.hid hso
      clear hso hc0 hc1
      go_wp2
      go_ret2
      exact BPost.none HB.out (.inr (.inl ⟨HO.out, HSO.out, rfl, rfl⟩))
  · have HO := Lib.hid ho
    clear ho hc0 hc1
    go_wp2
    go_ret2
    exact BPost.none HB.out (.inl ⟨HO.out, rfl, rfl⟩)

/-! Verify. -/
theorem own8_form {w : World} {B : Nat} {v : Value} {l : List Nat} (h : own8 w B v l) : ∃ a c, v = .slice a l.length c ∧ l.length ≤ c ∧ (a = none → c = 0) ∧ Rd .u8 w a l := by
  rcases h.2 with ⟨rfl, h0⟩ | ⟨g, c, cur, rfl, _, _, hc, _⟩
  · exact ⟨none, 0, by rw [h0], by omega, fun _ => rfl, fun j hj => by omega⟩
  · refine ⟨_, c, rfl, hc, (fun h => by cases h), fun j hj => ⟨g, 0, rfl, fun i hi => ?_⟩⟩
    rw [Nat.zero_add, World.ownsRow.cellAt h i (by omega)]
    exact u8s_at l i hi
theorem own8_rd2x {w : World} {B n c : Nat} {a : Option Addr} {l : List Nat} (h : own8 w B (.slice a n c) l) : Rd .u8 w a l ∧ (a = none → c = 0) := by
  obtain ⟨a', c', e, _, h2, h3⟩ := own8_form h
  simp only [Value.slice.injEq] at e
  obtain ⟨rfl, _, rfl⟩ := e
  exact ⟨h3, h2⟩
theorem own8_raw {w : World} {B : Nat} {v : Value} {l : List Nat} (h : own8 w B v l) (h8 : B8 l) : Raw8 w v l := by
  obtain ⟨a, c, e, h1, h2, h3⟩ := own8_form h
  exact ⟨a, c, e, h1, h2, h3, h8⟩
theorem own8_below {w w' : World} {B : Nat} {v : Value} {l : List Nat} (h : own8 w B v l) (hb : Below w.heap.size w w') : own8 w' B v l :=
  (Chg.of_below hb).owns h (fun j hj => by have := (World.ownsRow.lt h j hj).2; omega)
theorem bytesOf_inj {a b : List Nat} (ha : B8 a) (hb : B8 b) (h : a.map UInt8.ofNat = b.map UInt8.ofNat) : a = b := by
  have k : ∀ {l : List Nat}, B8 l → (l.map UInt8.ofNat).map UInt8.toNat = l := by
    intro l hl
    rw [List.map_map]
    conv => rhs; rw [← List.map_id l]
    apply List.map_congr_left
    intro x hx
    have := hl x hx
    simp only [Function.comp, UInt8.toNat_ofNat', id]
    omega
  rw [← k ha, h, k hb]
theorem p_bequal {w : World} {B1 B2 : Nat} {v1 v2 : Value} {l1 l2 : List Nat} (h1 : own8 w B1 v1 l1) (h2 : own8 w B2 v2 l2) (b1 : B8 l1) (b2 : B8 l2) :
    Calls Tryz.prog 113 #[v1, v2] w fun e w' => w' = w ∧ ((l1 = l2 ∧ e = .returned (.bool true)) ∨ (l1 ≠ l2 ∧ e = .returned (.bool false))) := by
  have e : ∀ l : List Nat, strN l = strOfNums (l.map fun (x : Nat) => (x : Int)) := fun l => by simp [strOfNums, strN, Function.comp_def]
  have f : ∀ l : List Nat, Lib.bytesOf (l.map fun (x : Nat) => (x : Int)) = l.map UInt8.ofNat := fun l => by simp [Lib.bytesOf, Function.comp_def]
  refine (Tryz.bytes_Equal v1 v2 (l1.map fun (x : Nat) => (x : Int)) (l2.map fun (x : Nat) => (x : Int)) w (by rw [← e]; exact own_text h1 rfl _ Tryz.underlying9) (by rw [← e]; exact own_text h2 rfl _ Tryz.underlying9)).mono ?_
  rintro x w' ⟨rfl, rfl⟩
  refine ⟨rfl, ?_⟩
  rw [f, f]
  by_cases h : l1 = l2
  · subst h
    exact .inl ⟨rfl, by rw [beq_self_eq_true]⟩
  · refine .inr ⟨h, ?_⟩
    have : (l1.map UInt8.ofNat == l2.map UInt8.ofNat) = false := by
      rw [beq_eq_false_iff_ne]
      exact fun h3 => h (bytesOf_inj b1 b2 h3)
    rw [this]
theorem RaiseTells.b8 {N E : Nat} {s b : List Nat} {k : Int} (h : RaiseTells N E s k b) : B8 b := by
  rcases h with ⟨_, _, rfl⟩ | ⟨_, _, _, rfl⟩ | ⟨_, _, _, _, h, _⟩
  · intro x hx; cases hx
  · intro x hx; cases hx
  · exact h
theorem RaiseTells.kinds {N E : Nat} {s b : List Nat} {k : Int} (h : RaiseTells N E s k b) : (k = 0 ∧ KeyOk N E) ∨ k = 80 ∨ k = 81 := by
  rcases h with ⟨_, h, _⟩ | ⟨_, _, h, _⟩ | ⟨h0, _, h, _⟩
  · exact .inr (.inl h)
  · exact .inr (.inr h)
  · exact .inl ⟨h, h0⟩
set_option maxHeartbeats 800000 in
set_option maxRecDepth 100000 in
theorem p_verify {w : World} {vN vE vm vs : Value} {N E : Nat} {m s : List Nat} (hT : Trig w) (hF : Five w) (gN : Raw w vN N) (gE : Raw w vE E) (gm : Raw8 w vm m) (gs : Raw8 w vs s) (hm : m.length ≤ 549755813888) (hs : s.length ≤ 1099511627776) :
    Calls Tryz.prog 63 #[.agg #[vN, vE], vm, vs] w fun e w' => Below w.heap.size w w' ∧ ∃ v : Int, e = .returned (.int .i64 v) ∧ VerTells N E m s v := by
  have HK0 := KeyAt.new gN gE
  obtain ⟨aN, lN, cN, rfl⟩ := gN.sl
  obtain ⟨aE, lE, cE, rfl⟩ := gE.sl
  obtain ⟨W0, hW0⟩ : ∃ W0, W0 = w.alloc (KB (.slice aN lN cN) (.slice aE lE cE)) := ⟨_, rfl⟩
  have hB : Below w.heap.size w W0 := by rw [hW0]; exact (Below.refl _ _).alloc (Nat.le_refl _) _
  rw [← hW0] at HK0
  have hc0 := HK0.c0
  have hc1 := HK0.c1
  have HK := Lib.hid HK0
  have HB := Lib.hid hB
  have HRA := Lib.hid (fun (W : World) (h : Below w.heap.size w W) (k : Raw W (.slice aN lN cN) N) (k2 : Raw W (.slice aE lE cE) E) => p_raise (hT.below h) k k2 (gs.below h) hs)
  have HSU : Hid (∀ W, Below w.heap.size w W → Calls Tryz.prog 73 #[vm] W fun e w' => e = .returned (.agg (u8s (shaN m)).toArray) ∧ Below W.heap.size W w') := fun W hW => by
    obtain ⟨a, c, rfl, h1, _, h3, h4⟩ := gm.below hW
    rw [← shaC_u8s]
    exact ssum_any a _ c m W rfl hm h1 h4 h3 (hF.below hW)
  obtain ⟨aS, cS, rfl, -⟩ := gs
  obtain ⟨aM, cM, rfl, -⟩ := gm
  obtain ⟨ls, hls⟩ : ∃ ls, ls = s.length := ⟨_, rfl⟩
  obtain ⟨lm, hlm⟩ : ∃ lm, lm = m.length := ⟨_, rfl⟩
  rw [← hls] at HRA hs ⊢
  rw [← hlm] at HSU hm ⊢
  have HW := Lib.hid hW0
  clear HK0 hB gN gE hT hls hW0 hlm hF
  go_enter Tryz.func63, Tryz.ntmps63
  go_wp2_with fail
  rw [← HW.out]
  clear HW
  refine (HRA.out _ HB.out HK.out.rN HK.out.rE).mono ?_
  rintro e w1 ⟨hb, v1, k, b, rfl, ho, hQ⟩
  have HK := Lib.hid (HK.out.below hb)
  have HB := Lib.hid (HB.out.trans (hb.mono HB.out.size))
  have HO := Lib.hid ho
  have HQ := Lib.hid hQ
  obtain ⟨a1, c1, rfl, -⟩ := own8_form ho
  have hkk := hQ.kinds
  clear hb hc0 hc1 ho hQ
  generalize b.length = lb at *
  rcases hkk with ⟨rfl, hko⟩ | hk
  · have HKO := Lib.hid hko
    clear hko
    go_upto_region 4 with fail
    have HK := Lib.hid (HK.out.below (Below.refl _ _).drew)
    have HB := Lib.hid HB.out.drew
    have HO := Lib.hid (own8_below HO.out (Below.refl _ _).drew)
    go_region_held3 (fun W => W.cell? ⟨w.heap.size, 0, none⟩ = some (.slice aN lN cN) ∧ W.cell? ⟨w.heap.size, 1, none⟩ = some (.slice aE lE cE))
      (first | exact ⟨HK.out.c0, HK.out.c1⟩)
      (first
        | (go_at_call 73; (with_reducible refine (HSU.out _ HB.out).mono ?_)
           rintro e w2 ⟨rfl, hb⟩
           have HK := Lib.hid (HK.out.below hb)
           have HO := Lib.hid (own8_below HO.out hb)
           have HB := Lib.hid (HB.out.trans (hb.mono HB.out.size))
           clear hb)
        | (go_at_call 59; (with_reducible refine (p_size HK.out.rN ⟨_, _, _, rfl⟩).mono ?_)
           rintro e w3 ⟨hb, rfl⟩
           have HK := Lib.hid (HK.out.below hb)
           have HO := Lib.hid (own8_below HO.out hb)
           have HB := Lib.hid (HB.out.trans (hb.mono HB.out.size))
           clear hb)
        | (go_at_call 56; (with_reducible refine (p_encoded (shaN m) (szN N : Nat) _ (shaN_len m) (shaN_8 m) (by omega) (by have := HKO.out.size; omega)).mono ?_)
           rintro e w4 ⟨hb, v4, k4, b4, rfl, hE, ho4⟩
           have HK := Lib.hid (HK.out.below hb)
           have HO := Lib.hid (own8_below HO.out hb)
           have HB := Lib.hid (HB.out.trans (hb.mono HB.out.size))
           clear hb))
    obtain ⟨rfl, rfl⟩ : k4 = 0 ∧ b4 = encL (shaN m) (szN N) := by
      rcases hE with ⟨h, _⟩ | ⟨_, _, h1, h2⟩
      · have := HKO.out.size; omega
      · exact ⟨h1, by rw [h2, Int.toNat_natCast]⟩
    have HO4 := Lib.hid ho4
    obtain ⟨a4, c4, rfl, -⟩ := own8_form ho4
    clear ho4 hE
    generalize (encL (shaN m) (szN N)).length = l4 at *
    go_wp2_with fail
    refine (p_bequal HO.out HO4.out HQ.out.b8 (encL_8 (shaN_8 m))).mono ?_
    rintro e w5 ⟨rfl, hor⟩
    rcases hor with ⟨he, rfl⟩ | ⟨he, rfl⟩
    · have HEQ := Lib.hid he
      clear he
      go_wp2
      go_ret
      exact ⟨HB.out, 0, rfl, 0, b, HQ.out, by rw [if_pos rfl, if_pos HEQ.out]⟩
    · have HEQ := Lib.hid he
      clear he
      go_wp2
      go_ret
      exact ⟨HB.out, 82, rfl, 0, b, HQ.out, by rw [if_pos rfl, if_neg HEQ.out]⟩
  · rcases hk with rfl | rfl
    all_goals
      go_wp2
      go_ret
      exact ⟨HB.out, _, rfl, _, b, HQ.out, rfl⟩
end Go.Proofs.YtaookoejdnkkoaaGreatDoor
