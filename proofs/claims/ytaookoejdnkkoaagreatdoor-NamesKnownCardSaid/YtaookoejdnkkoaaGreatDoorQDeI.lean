import Derived.Test.YtaookoejdnkkoaaGreatDoorQ06
namespace Go.Proofs.YtaookoejdnkkoaaGreatDoor
open Go.RowKit

/-! The program's reading of a key. -/
theorem itemA_err {b : List Nat} {a : Nat} {k : Int} {x : Nat × Nat × Nat} (h : itemA b a = (k, x)) (hk : k ≠ 0) : intA b a = (k, 0, 0) := by
  rcases itemA_cases b a with ⟨t, f, o, h'⟩ | h' | h' <;> rw [h] at h'
  · simp only [Prod.mk.injEq] at h'; exact absurd h'.1 hk
  · simp only [Prod.mk.injEq] at h'; obtain ⟨rfl, rfl, rfl, rfl⟩ := h'; simp [intA, h]
  · simp only [Prod.mk.injEq] at h'; obtain ⟨rfl, rfl, rfl, rfl⟩ := h'; simp [intA, h]
theorem intA_tag {b : List Nat} {a t f o : Nat} (h : itemA b a = (0, t, f, o)) (ht : t ≠ 2) : intA b a = (71, 0, 0) := by simp [intA, h, ht]
theorem intA_no {b : List Nat} {a f o : Nat} (h : itemA b a = (0, 2, f, o)) (hi : intE ((b.take o).drop f) ≠ 0) : intA b a = (intE ((b.take o).drop f), 0, 0) := by simp [intA, h, hi]
theorem intA_yes {b : List Nat} {a f o : Nat} (h : itemA b a = (0, 2, f, o)) (hi : intE ((b.take o).drop f) = 0) : intA b a = (0, bval ((b.take o).drop f), o) := by simp [intA, h, hi]
def ItE (t f o : Nat) : Obj := .cells #[.int .u8 (t : Nat), .int .i64 (f : Nat), .int .i64 (o : Nat)] 209
theorem ItE.cells {w : World} {g t f o : Nat} (h : w.heap[g]? = some (ItE t f o)) : w.cell? ⟨g, 1, none⟩ = some (.int .i64 (f : Nat)) ∧ w.cell? ⟨g, 2, none⟩ = some (.int .i64 (o : Nat)) := ⟨cell_alloc (i := 1) h, cell_alloc (i := 2) h⟩
/-- What each operation of the region that reads the content leaves. -/
def IatSp (w : World) (g f o : Nat) (a : Option Addr) (len cap : Nat) (c : List Nat) (j : Nat) (v : Value) (W : World) : Prop :=
  match j with
  | 0 => v = .slice a len cap
  | 1 => v = .pointer (some ⟨g, 1, none⟩)
  | 2 => v = .int .i64 (f : Nat)
  | 3 => v = .pointer (some ⟨g, 2, none⟩)
  | 4 => v = .int .i64 (o : Nat)
  | 5 => v = .slice (if cap = f then a else a.map (·.add f)) (o - f) (cap - f)
  | 7 => v = .pointer (some ⟨g, 2, none⟩)
  | 8 => v = .int .i64 (o : Nat)
  | 10 => v = .int .i64 (o : Nat)
  | _ => ∃ a1 c1 zs, v = .slice a1 zs.length c1 ∧ own64 W w.heap.size v zs ∧ zs.length ≤ 128 ∧ NumTells c 0 zs
theorem IatSp.below {w : World} {g f o : Nat} {a : Option Addr} {len cap : Nat} {c : List Nat} (j : Nat) (v : Value) (W W' : World) (h : IatSp w g f o a len cap c j v W) (hb : Below W.heap.size W W') : IatSp w g f o a len cap c j v W' := by
  unfold IatSp at *
  split at h <;> first | exact h | skip
  obtain ⟨a1, c1, zs, e, ho, hr⟩ := h
  exact ⟨a1, c1, zs, e, own64.under ho hb, hr⟩
def cutA (a : Option Addr) (cap f : Nat) : Option Addr := if cap = f then a else a.map (·.add f)
theorem cutA_rd {w : World} {a : Option Addr} {b : List Nat} {len cap f o : Nat} (h : Rd .u8 w a b) (hl : b.length = len) (hcap : len ≤ cap) (hf : f ≤ o) (ho : o ≤ len) : Rd .u8 w (cutA a cap f) ((b.take o).drop f) := by
  rw [List.drop_take]
  intro j hj
  have hn : j < o - f ∧ j < b.length - f := by simp at hj; omega
  obtain ⟨bb, off, e, hc⟩ := h.get (by omega)
  subst e
  have := rd_cut h hl hcap f (o - f) (by omega)
  rw [if_neg (by omega)] at this
  unfold cutA
  rw [if_neg (by omega)]
  exact this j hj
/-- What reading an integer in an item gives. -/
def IatPost (b : List Nat) (a : Nat) (w : World) (e : Ending) (w' : World) : Prop :=
  Below w.heap.size w w' ∧ ((∃ a1 c1 zs n o, intA b a = (0, n, o) ∧ o ≤ b.length ∧ e = .returned (.tuple #[.slice a1 zs.length c1, .int .i64 (o : Nat)]) ∧ own64 w' w.heap.size (.slice a1 zs.length c1) zs ∧ zs.length ≤ 128 ∧ Num zs n) ∨ (∃ k, k ≠ 0 ∧ intA b a = (k, 0, 0) ∧ e = pan k))

set_option maxHeartbeats 800000 in
set_option maxRecDepth 100000 in
theorem integerAt_any (a : Option Addr) (len cap : Nat) (b : List Nat) (at' : Nat) (w : World) (hl : b.length = len) (hbig : len ≤ 1099511627776) (hcap : len ≤ cap) (hcm : cap ≤ 9223372036854775807) (hna : a = none → cap = 0) (h8 : B8 b) (hr : Rd .u8 w a b) (hat : at' ≤ len) :
    Calls Tryz.prog 216 #[.slice a len cap, .int .i64 (at' : Nat)] w (IatPost b at' w) := by
  have HL := Lib.hid hl
  have HR := Lib.hid hr
  have H8 := Lib.hid h8
  have HNA := Lib.hid hna
  unfold IatPost
  clear hl hr h8 hna
  go_enter Tryz.func216, Tryz.ntmps216
  go_wp2_with fail
  refine (itemAt_any a len cap b at' _ HL.out hbig hcap H8.out HR.out (by omega) (by omega)).mono ?_
  rw [itemI_in (by rw [HL.out]; exact hat)]
  rintro e w1 ⟨hb, hor⟩
  have HB := Lib.hid hb
  rcases hor with ⟨t, f, o, hi, rfl⟩ | ⟨k, hk, hi, rfl⟩
  · obtain ⟨h1, h2, h3, h4, -, -, -, -⟩ := itemA_lies H8.out (by rw [HL.out]; exact hat) hi
    rw [HL.out] at h4
    have HI := Lib.hid hi
    obtain ⟨bb, off, rfl, -⟩ := HR.out.get (by rw [HL.out]; omega)
    clear hi hb h1 h2
    by_cases ht : t = 2
    · subst ht
      have hR := cutA_rd HR.out HL.out hcap h3 h4
      have hcl : ((b.take o).drop f).length = o - f := by rw [List.length_drop, List.length_take]; have := HL.out; omega
      have hcb : B8 ((b.take o).drop f) := (H8.out.take _).drop _
      have hyes := intA_yes HI.out
      have hno := intA_no HI.out
      obtain ⟨c, hc⟩ : ∃ c, c = (b.take o).drop f := ⟨_, rfl⟩
      rw [← hc] at hR hcl hcb hyes hno
      have HRC := Lib.hid (hR.below HB.out)
      have HCL := Lib.hid hcl
      have HCB := Lib.hid hcb
      clear hR hcl hcb hc
      have HIE := Lib.hid (show (∃ n, intE c = n) from ⟨_, rfl⟩)
      have HYES := Lib.hid hyes
      have HNO := Lib.hid hno
      have hb1 : (0 : Int) ≤ (f : Int) := by omega
      have hb2 : (f : Int) ≤ (o : Int) := by omega
      have hb3 : (o : Int) ≤ (cap : Int) := by omega
      have HO := Lib.hid h4
      clear hyes hno
      go_wp2_with fail
      refine (demand_yes _ _).mono ?_
      rintro e w' ⟨rfl, rfl⟩
      go_wp2_with fail
      have HE0 : Hid ((w1.alloc (ItE 2 f o)).drew.heap[w1.heap.size]? = some (ItE 2 f o)) := heap_new w1 (ItE 2 f o)
      have HBW : Hid (Below w.heap.size w (w1.alloc (ItE 2 f o)).drew) := (HB.out.alloc HB.out.size _).drew
      have HB1 : Hid (Below w1.heap.size w1 (w1.alloc (ItE 2 f o)).drew) := ((Below.refl w1.heap.size w1).alloc (Nat.le_refl _) _).drew
      refine wp_region_sp (by kernel_rfl) (by kernel_rfl) (fun W => Below w.heap.size w W ∧ Below w1.heap.size w1 W ∧ W.heap[w1.heap.size]? = some (ItE 2 f o)) (IatSp w w1.heap.size f o (some ⟨bb, off, none⟩) len cap c)
        (fun W W' h hb => ⟨h.1.trans (hb.mono h.1.size), h.2.1.trans (hb.mono h.2.1.size), by rw [hb.block _ (lt_of_block h.2.2)]; exact h.2.2⟩) (fun j u W W' _ h hb => IatSp.below j u W W' h hb) ⟨HBW.out, HB1.out, HE0.out⟩ ?step ?fin
      case step =>
        intro i op L val a W ho hdep hH hi hsp K' hK'
        obtain ⟨i1, i2, i3⟩ := hi
        have hil : i < 11 := (Array.getElem?_eq_some_iff.1 ho).1
        have hcs : i = 0 ∨ i = 1 ∨ i = 2 ∨ i = 3 ∨ i = 4 ∨ i = 5 ∨ i = 6 ∨ i = 7 ∨ i = 8 ∨ i = 9 ∨ i = 10 := by omega
        have hC := ItE.cells i3
        have HSP := Lib.hid hsp
        have HDEP := Lib.hid hdep
        obtain ⟨hC1, hC2⟩ := hC
        clear hsp hdep
        rcases hcs with rfl | rfl | rfl | rfl | rfl | rfl | rfl | rfl | rfl | rfl | rfl
        · obtain rfl := Option.some.inj ho
          have e0 := (hH.rest 0 (fun j hj _ => (of_decide_eq_true (by kernel_rfl) : ∀ j, j < 11 → dstAt _ j ≠ some 0) j hj)).trans (rfl : _ = some (Value.slice (some ⟨bb, off, none⟩) len cap))
          go_simp
          exact hK'.out _ _ (Below.refl _ _) rfl
        · obtain rfl := Option.some.inj ho
          have e0 := (hH.rest 6 (fun j hj _ => (of_decide_eq_true (by kernel_rfl) : ∀ j, j < 11 → dstAt _ j ≠ some 6) j hj)).trans (rfl : _ = some (Value.pointer (some ⟨w1.heap.size, 0, none⟩)))
          go_simp
          exact hK'.out _ _ (Below.refl _ _) rfl
        · obtain rfl := Option.some.inj ho
          have hL1 : L 1 = true := HDEP.out ⟨1, .data⟩ (by simp) rfl
          have e1 := hH.own 1 _ (by decide) rfl hL1 (of_decide_eq_true (by kernel_rfl))
          rw [show val 1 = Value.pointer (some ⟨w1.heap.size, 1, none⟩) from HSP.out 1 (by decide) hL1] at e1
          go_simp
          exact hK'.out _ _ (Below.refl _ _) rfl
        · obtain rfl := Option.some.inj ho
          have e0 := (hH.rest 6 (fun j hj _ => (of_decide_eq_true (by kernel_rfl) : ∀ j, j < 11 → dstAt _ j ≠ some 6) j hj)).trans (rfl : _ = some (Value.pointer (some ⟨w1.heap.size, 0, none⟩)))
          go_simp
          exact hK'.out _ _ (Below.refl _ _) rfl
        · obtain rfl := Option.some.inj ho
          have hL3 : L 3 = true := HDEP.out ⟨3, .data⟩ (by simp) rfl
          have e3 := hH.own 3 _ (by decide) rfl hL3 (of_decide_eq_true (by kernel_rfl))
          rw [show val 3 = Value.pointer (some ⟨w1.heap.size, 2, none⟩) from HSP.out 3 (by decide) hL3] at e3
          go_simp
          exact hK'.out _ _ (Below.refl _ _) rfl
        · obtain rfl := Option.some.inj ho
          have hL0 : L 0 = true := HDEP.out ⟨0, .data⟩ (by simp) rfl
          have e0 := hH.own 0 _ (by decide) rfl hL0 (of_decide_eq_true (by kernel_rfl))
          rw [show val 0 = Value.slice (some ⟨bb, off, none⟩) len cap from HSP.out 0 (by decide) hL0] at e0
          have hL2 : L 2 = true := HDEP.out ⟨2, .data⟩ (by simp) rfl
          have e2 := hH.own 2 _ (by decide) rfl hL2 (of_decide_eq_true (by kernel_rfl))
          rw [show val 2 = Value.int .i64 (f : Nat) from HSP.out 2 (by decide) hL2] at e2
          have hL4 : L 4 = true := HDEP.out ⟨4, .data⟩ (by simp) rfl
          have e4 := hH.own 4 _ (by decide) rfl hL4 (of_decide_eq_true (by kernel_rfl))
          rw [show val 4 = Value.int .i64 (o : Nat) from HSP.out 4 (by decide) hL4] at e4
          go_simp
          refine hK'.out _ _ (Below.refl _ _) ?_
          show Value.slice _ _ _ = Value.slice _ _ _
          congr 1
          by_cases h : cap = f
          · rw [if_pos h, if_pos h]
          · rw [if_neg h, if_neg h]
            simp [Addr.add]
        · obtain rfl := Option.some.inj ho
          have hL5 : L 5 = true := HDEP.out ⟨5, .data⟩ (by simp) rfl
          have e5 := hH.own 5 _ (by decide) rfl hL5 (of_decide_eq_true (by kernel_rfl))
          rw [show val 5 = Value.slice (cutA (some ⟨bb, off, none⟩) cap f) (o - f) (cap - f) from HSP.out 5 (by decide) hL5] at e5
          have hre := HRC.out.below i2
          generalize cutA (some ⟨bb, off, none⟩) cap f = A at e5 hre
          go_simp
          refine (numberOf_any A (o - f) (cap - f) c _ HCL.out (by have := HO.out; omega) (by have := HO.out; omega) HCB.out hre).mono ?_
          rintro e w3 ⟨hb3, ⟨a1, c1, zs, rfl, ho3, hz3, hT3⟩ | ⟨k, hk, hi3, rfl⟩⟩
          · exact hK'.out _ _ hb3 ⟨a1, c1, zs, rfl, owns_base ho3 i1.size, hz3, hT3⟩
          · have hne : intE c ≠ 0 := by rw [hi3]; exact hk
            have hno := HNO.out hne
            rw [hi3] at hno
            exact ⟨hH.defs, i1.trans (hb3.mono i1.size), .inr ⟨k, hk, hno, rfl⟩⟩
        · obtain rfl := Option.some.inj ho
          have e0 := (hH.rest 6 (fun j hj _ => (of_decide_eq_true (by kernel_rfl) : ∀ j, j < 11 → dstAt _ j ≠ some 6) j hj)).trans (rfl : _ = some (Value.pointer (some ⟨w1.heap.size, 0, none⟩)))
          go_simp
          exact hK'.out _ _ (Below.refl _ _) rfl
        · obtain rfl := Option.some.inj ho
          have hL7 : L 7 = true := HDEP.out ⟨7, .data⟩ (by simp) rfl
          have e7 := hH.own 7 _ (by decide) rfl hL7 (of_decide_eq_true (by kernel_rfl))
          rw [show val 7 = Value.pointer (some ⟨w1.heap.size, 2, none⟩) from HSP.out 7 (by decide) hL7] at e7
          go_simp
          exact hK'.out _ _ (Below.refl _ _) rfl
        · obtain rfl := Option.some.inj ho
          have hL6 : L 6 = true := HDEP.out ⟨6, .data⟩ (by simp) rfl
          have e6 := hH.own 6 _ (by decide) rfl hL6 (of_decide_eq_true (by kernel_rfl))
          have h6 := HSP.out 6 (by decide) hL6
          go_simp
          exact hK'.out _ _ (Below.refl _ _) h6
        · obtain rfl := Option.some.inj ho
          have hL8 : L 8 = true := HDEP.out ⟨8, .data⟩ (by simp) rfl
          have e8 := hH.own 8 _ (by decide) rfl hL8 (of_decide_eq_true (by kernel_rfl))
          rw [show val 8 = Value.int .i64 (o : Nat) from HSP.out 8 (by decide) hL8] at e8
          go_simp
          exact hK'.out _ _ (Below.refl _ _) rfl
      case fin =>
        intro val W hi hsp
        obtain ⟨i1, i2, i3⟩ := hi
        have h9 := hsp 9 (by decide)
        have h10 : val 10 = .int .i64 (o : Nat) := hsp 10 (by decide)
        obtain ⟨a1, c1, zs, e9, ho9, hz9, hT9⟩ : ∃ (a1 : Option Addr) (c1 : Nat) (zs : List Nat), val 9 = .slice a1 zs.length c1 ∧ own64 W w.heap.size (val 9) zs ∧ zs.length ≤ 128 ∧ NumTells c 0 zs := h9
        rw [e9] at ho9
        simp only [List.size_toArray, List.length_cons, List.length_nil, Nat.zero_add, Nat.reduceAdd, putAll, dstAt, Act.put, List.getElem?_toArray, List.getElem?_cons_zero, List.getElem?_cons_succ, Option.bind_some, List.setIfInBounds_toArray, List.set_cons_zero, List.set_cons_succ]
        rw [e9, h10]
        have HP := Lib.hid (HYES.out hT9.1)
        have HN := Lib.hid (hT9.2.1 rfl)
        have HO9 := Lib.hid ho9
        have HI1 := Lib.hid i1
        clear h10 hT9 hsp i1 i2 i3 ho9 e9
        go_wp2
        trace_state
        go_ret2
        exact ⟨HI1.out, .inl ⟨_, _, _, _, _, HP.out, by rw [HL.out]; exact HO.out, rfl, HO9.out, hz9, HN.out⟩⟩
    · have hq : ((t : Int) == 2) = false := by simp; omega
      have HP := Lib.hid (intA_tag HI.out ht)
      clear ht
      go_wp2_with fail
      refine (demand_no _ _).mono ?_
      rintro e w' ⟨rfl, rfl⟩
      go_wp2
      exact ⟨rfl, HB.out.alloc HB.out.size _, .inr ⟨71, by decide, HP.out, rfl⟩⟩
  · have HP := Lib.hid (itemA_err hi hk)
    clear hi hb
    go_wp2
    exact ⟨rfl, HB.out, .inr ⟨k, hk, HP.out, rfl⟩⟩
end Go.Proofs.YtaookoejdnkkoaaGreatDoor
