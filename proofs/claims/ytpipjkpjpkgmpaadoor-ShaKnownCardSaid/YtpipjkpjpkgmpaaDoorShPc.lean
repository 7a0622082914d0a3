import Derived.Test.YtpipjkpjpkgmpaaDoorShP
import Derived.Test.YtpipjkpjpkgmpaaDoorShQ
namespace Go.Proofs.YtpipjkpjpkgmpaaDoor
open Go.RowKit

/-- What one step of a script is, in memory. -/
def StepAt (w : World) (b off i : Nat) (k : Int) (aa : Option Addr) (n c : Nat) (xs : List Nat) : Prop :=
  w.cell? ⟨b, off + i * 2, none⟩ = some (.int .i64 k) ∧ w.cell? ⟨b, off + i * 2 + 1, none⟩ = some (.slice aa n c) ∧ xs.length = n ∧ n ≤ c ∧ c ≤ 9223372036854775807 ∧ (aa = none → c = 0) ∧ (∀ x ∈ xs, x < 256) ∧ Rd .u8 w aa xs
def Steps (w : World) (p : Option Addr) (len : Nat) : Prop := 0 < len → ∃ b off, p = some ⟨b, off, none⟩ ∧ ∀ i, i < len → ∃ k aa n c xs, StepAt w b off i k aa n c xs
theorem shaC_E (m : List Nat) (X : List Value) (hX : X = shaC m) : (∀ W, (binOp .neq 28 (.agg X.toArray) (.agg X.toArray)).run Tryd.prog W = .ok (.bool false) W) ∧ (∀ W, (binOp .eql 28 (.agg X.toArray) (.agg X.toArray)).run Tryd.prog W = .ok (.bool true) W) := by
  subst hX
  exact ⟨fun W => (neq20 (bytes20 (sha5 m)) (bytes20 (sha5 m)) (by simp [bytes20]) (by simp [bytes20]) W).trans (by simp), fun W => (eql20 (bytes20 (sha5 m)) (bytes20 (sha5 m)) (by simp [bytes20]) (by simp [bytes20]) W).trans (by simp)⟩
theorem own_openS {w : World} {B : Nat} {v : Value} {zs : List Nat} (h : w.ownsRow B 5 1 v zs.length (u8s zs)) : ∃ a c, v = .slice a zs.length c ∧ zs.length ≤ c ∧ Rd .u8 w a zs ∧ (a = none → c = 0) ∧ c ≤ 9223372036854775807 := by
  rcases h.2 with ⟨hv, h0⟩ | ⟨g, c, cur, hv, _, _, hn, hm, _, _⟩
  · subst hv
    refine ⟨none, 0, by rw [h0], by omega, fun j hj => by omega, fun _ => rfl, by decide⟩
  · subst hv
    exact ⟨_, c, rfl, hn, own_rdw h, (fun h => by cases h), hm⟩
theorem lent_rdS {w : World} {B g n c : Nat} {xs : List Nat} {tl : List Value} (h : w.ownsRow B 5 1 (.slice (some ⟨g, 0, none⟩) n c) n (u8s xs ++ tl)) (hn : xs.length ≤ n) : Rd .u8 w (some ⟨g, 0, none⟩) xs := fun _ _ => ⟨g, 0, rfl, fun i hi => by
  rw [Nat.zero_add, World.ownsRow.cellAt h i (by omega), List.getElem?_append_left (by rw [u8s_len]; exact hi), u8s, List.getElem?_map, List.getElem?_eq_getElem hi, List.getD_eq_getElem?_getD, List.getElem?_eq_getElem hi]; rfl⟩
/-- What stands between two steps: two Hashes, two rows, apart. -/
structure PcI (B : Nat) (w : World) (gh go : Nat) (va vo : Value) (m1 m2 : List Nat) : Prop where
  h : HSt w gh m1
  o : HSt w go m2
  a : w.ownsRow B 5 1 va m1.length (u8s m1)
  b : w.ownsRow B 5 1 vo m2.length (u8s m2)
  ne : gh ≠ go
  a1 : ∀ k, va.ownBlock = some k → k ≠ gh ∧ k ≠ go ∧ vo.ownBlock ≠ some k
  b1 : ∀ k, vo.ownBlock = some k → k ≠ gh ∧ k ≠ go
  hB : B ≤ gh
  oB : B ≤ go
  m8 : ∀ x ∈ m1, x < 256
  n8 : ∀ x ∈ m2, x < 256
theorem PcI.swap {B : Nat} {w : World} {gh go : Nat} {va vo : Value} {m1 m2 : List Nat} (h : PcI B w gh go va vo m1 m2) : PcI B w go gh vo va m2 m1 :=
  ⟨h.o, h.h, h.b, h.a, h.ne.symm, fun k hk => ⟨(h.b1 k hk).2, (h.b1 k hk).1, fun e => (h.a1 k e).2.2 hk⟩, fun k hk => ⟨(h.a1 k hk).2.1, (h.a1 k hk).1⟩, h.oB, h.hB, h.n8, h.m8⟩
theorem PcI.below {B : Nat} {w w' : World} {gh go : Nat} {va vo : Value} {m1 m2 : List Nat} (h : PcI B w gh go va vo m1 m2) (hb : Below w.heap.size w w') : PcI B w' gh go va vo m1 m2 :=
  ⟨h.h.below hb, h.o.below hb, (Chg.of_below hb).owns h.a (fun k hk => by have := (World.ownsRow.lt h.a k hk).2; omega), (Chg.of_below hb).owns h.b (fun k hk => by have := (World.ownsRow.lt h.b k hk).2; omega), h.ne, h.a1, h.b1, h.hB, h.oB, h.m8, h.n8⟩
/-- Something was done to the first Hash. -/
theorem PcI.hash {B : Nat} {w w' : World} {gh go : Nat} {va vo : Value} {m1 m2 m3 : List Nat} (h : PcI B w gh go va vo m1 m2) (hc : Chg (WS gh w.heap.size) w w') (hs : HSt w' gh m3) : w'.ownsRow B 5 1 va m1.length (u8s m1) ∧ w'.ownsRow B 5 1 vo m2.length (u8s m2) ∧ HSt w' go m2 := by
  have ha := fun k hk => (World.ownsRow.lt h.a k hk).2
  have hb := fun k hk => (World.ownsRow.lt h.b k hk).2
  refine ⟨hc.owns h.a (fun k hk e => ?_), hc.owns h.b (fun k hk e => ?_), h.o.chg hc (fun e => ?_)⟩
  · rcases e with e | e
    · exact (h.a1 k hk).1 e
    · have := ha k hk; omega
  · rcases e with e | e
    · exact (h.b1 k hk).1 e
    · have := hb k hk; omega
  · rcases e with e | e
    · exact h.ne e.symm
    · have := h.o.lt; omega
theorem PcI.chg {B : Nat} {w w' : World} {gh go : Nat} {va vo : Value} {m1 m2 : List Nat} {S : Nat → Prop} (h : PcI B w gh go va vo m1 m2) (hc : Chg S w w') (h1 : ¬ S gh) (h2 : ¬ S go) (h3 : ∀ k, va.ownBlock = some k → ¬ S k) (h4 : ∀ k, vo.ownBlock = some k → ¬ S k) : PcI B w' gh go va vo m1 m2 :=
  ⟨h.h.chg hc h1, h.o.chg hc h2, hc.owns h.a h3, hc.owns h.b h4, h.ne, h.a1, h.b1, h.hB, h.oB, h.m8, h.n8⟩
theorem PcI.rows {B : Nat} {w : World} {gh go n1 c1 : Nat} {b1 : Option Addr} {vo : Value} {m1 m2 : List Nat} (h : PcI B w gh go (.slice b1 n1 c1) vo m1 m2) : m1.length = n1 ∧ n1 ≤ c1 ∧ c1 ≤ 9223372036854775807 ∧ (b1 = none → c1 = 0) ∧ Rd .u8 w b1 m1 := by
  obtain ⟨a, c, hv, hc, hr, hna, hcm⟩ := own_openS h.a
  cases hv
  exact ⟨rfl, hc, hcm, hna, hr⟩
theorem StepAt.mono {w w' : World} {b off i : Nat} {k : Int} {aa : Option Addr} {n c : Nat} {xs : List Nat} (h : StepAt w b off i k aa n c xs) (hb : Below w.heap.size w w') : StepAt w' b off i k aa n c xs :=
  ⟨below_cell hb _ _ h.1, below_cell hb _ _ h.2.1, h.2.2.1, h.2.2.2.1, h.2.2.2.2.1, h.2.2.2.2.2.1, h.2.2.2.2.2.2.1, h.2.2.2.2.2.2.2.below hb⟩
set_option maxHeartbeats 6000000 in
set_option maxRecDepth 100000 in
theorem shaPieces_any (p : Option Addr) (len cap : Nat) (w : World) (hlm : len ≤ 9223372036854775807) (hst : Steps w p len) (hF : Five w) :
    Calls Tryd.prog 3 #[.slice p len cap] w fun e w' => e = .returned (.bool true) ∧ Below w.heap.size w w' := by
  by_cases hbig : 60 < len
  · have hq : decide ((60 : Int) < (len : Int)) = true := decide_eq_true (by omega)
    clear hst hF
    go_enter Tryd.func3, Tryd.ntmps3
    go_wp2
    go_ret
    exact ⟨rfl, Below.refl _ _⟩
  have hq : decide ((60 : Int) < (len : Int)) = false := decide_eq_false (by omega)
  have HST := Lib.hid hst
  have HF := Lib.hid hF
  have hGF := hF.lt
  clear hst hF
  go_enter Tryd.func3, Tryd.ntmps3
  go_wp2_with fail
  refine (new_any _ HF.out).mono ?_
  rintro e w1 ⟨rfl, hs1, hb1⟩
  have HF1 := Lib.hid (HF.out.below hb1)
  have HS1 := Lib.hid hs1
  have HB1 := Lib.hid hb1
  have hw1 := hb1.size
  have hg1 := hs1.lt
  clear hs1 hb1
  go_wp2_with fail
  refine (new_any _ HF1.out).mono ?_
  rintro e w2 ⟨rfl, hs2, hb2⟩
  have HI : Hid (PcI w.heap.size w2 w.heap.size w1.heap.size (.slice none 0 0) (.slice none 0 0) [] []) :=
    ⟨HS1.out.below hb2, hs2, World.ownsRow_nil _ _ _ _, World.ownsRow_nil _ _ _ _, by omega, (fun k hk => by cases hk), (fun k hk => by cases hk), Nat.le_refl _, by omega, (fun x hx => by cases hx), (fun x hx => by cases hx)⟩
  have HB := Lib.hid (HB1.out.trans (hb2.mono hw1))
  obtain ⟨g1, hgg1⟩ : ∃ g1, g1 = w.heap.size := ⟨_, rfl⟩
  obtain ⟨g2, hgg2⟩ : ∃ g2, g2 = w1.heap.size := ⟨_, rfl⟩
  have HI : Hid (PcI w.heap.size w2 g1 g2 (.slice none 0 0) (.slice none 0 0) [] []) := by rw [hgg1, hgg2]; exact HI.out
  rw [← hgg2]
  clear hs2 hb2 HS1 HB1 HF1 hgg2 hg1 hw1
  go_wp2
  go_loopw [3, 4, 5, 6, 7] (fun s3 s4 s5 s6 s7 wr => ∃ (i gh go n1 n2 c1 c2 : Nat) (m1 m2 : List Nat) (b1 b2 : Option Addr), i ≤ len ∧ s7 = .int .i64 (i : Nat) ∧ s3 = .pointer (some ⟨gh, 0, none⟩) ∧ s4 = .pointer (some ⟨go, 0, none⟩) ∧ s5 = .slice b1 n1 c1 ∧ s6 = .slice b2 n2 c2 ∧
    n1 + n2 ≤ 32768 ∧ Hid (m1.length = n1) ∧ Hid (m2.length = n2) ∧ Hid (PcI w.heap.size wr gh go (.slice b1 n1 c1) (.slice b2 n2 c2) m1 m2) ∧ Hid (Below w.heap.size w wr)) (fun _ _ _ _ s7 _ => len - (intOf s7).toNat)
  case atStart => exact ⟨0, g1, g2, 0, 0, 0, 0, [], [], none, none, Nat.zero_le _, rfl, by rw [hgg1], rfl, rfl, rfl, by omega, rfl, rfl, HI.out, HB.out⟩
  case round =>
    clear HI HB hgg1
    obtain ⟨i, gh, go, n1, n2, c1, c2, m1, m2, b1, b2, hi, rfl, rfl, rfl, rfl, rfl, hnn, HL1, HL2, HI, HB⟩ := hrel
    have HF1 := Lib.hid (HF.out.below HB.out)
    have hend : i < len ∧ n1 + n2 ≤ 16384 ∨ (i < len ∧ 16384 < n1 + n2) ∨ ¬ i < len := by omega
    rcases hend with ⟨hin, hle⟩ | hend
    · obtain ⟨b, off, rfl, hat⟩ := HST.out (by omega)
      obtain ⟨k, aa, n, c, xs, hstep⟩ := hat i hin
      have HSP := Lib.hid hstep
      have HS0 := Lib.hid hstep
      have HSP := Lib.hid (HSP.out.mono HB.out)
      have q1 := HSP.out.1
      have q2 := HSP.out.2.1
      clear hstep hat
      by_cases hk1 : k = 1
      · subst hk1
        have hk2 : ((1 : Int) == 1) = true := rfl
        have hr1 := HI.out.rows
        have hr2 := HI.out.swap.rows
        have HR1 := Lib.hid hr1
        have HR2 := Lib.hid hr2
        have hc1 := hr1.2.1
        have hc2 := hr2.2.1
        obtain ⟨X1, hX1⟩ : ∃ X1, X1 = shaC m1 := ⟨_, rfl⟩
        obtain ⟨X2, hX2⟩ : ∃ X2, X2 = shaC m2 := ⟨_, rfl⟩
        have E1 := (shaC_E m1 X1 hX1).1
        have E2 := (shaC_E m2 X2 hX2).1
        have HX1 := Lib.hid hX1
        have HX2 := Lib.hid hX2
        clear hX1 hX2 hr1 hr2
        go_wp2_with fail
        refine (hsum_any gh m1 _ HI.out.h (by rw [HR1.out.1]; omega)).mono ?_
        rintro e w9 ⟨rfl, hb⟩
        rw [← HX1.out]
        have HI := Lib.hid (HI.out.below hb)
        have HF1 := Lib.hid (HF1.out.below hb)
        have HB := Lib.hid (HB.out.trans (hb.mono HB.out.size))
        clear hb
        go_wp2_with fail
        refine (rsum_any b1 n1 c1 m1 _ HR1.out.1 (by omega) HR1.out.2.1 HR1.out.2.2.2.1 HI.out.m8 HI.out.rows.2.2.2.2).mono ?_
        rintro e w9 ⟨rfl, hb⟩
        rw [← HX1.out]
        have HI := Lib.hid (HI.out.below hb)
        have HF1 := Lib.hid (HF1.out.below hb)
        have HB := Lib.hid (HB.out.trans (hb.mono HB.out.size))
        clear hb
        go_wp2_with fail
        refine (hsum_any go m2 _ HI.out.o (by rw [HR2.out.1]; omega)).mono ?_
        rintro e w9 ⟨rfl, hb⟩
        rw [← HX2.out]
        have HI := Lib.hid (HI.out.below hb)
        have HF1 := Lib.hid (HF1.out.below hb)
        have HB := Lib.hid (HB.out.trans (hb.mono HB.out.size))
        clear hb
        go_wp2_with fail
        refine (rsum_any b2 n2 c2 m2 _ HR2.out.1 (by omega) HR2.out.2.1 HR2.out.2.2.2.1 HI.out.n8 HI.out.swap.rows.2.2.2.2).mono ?_
        rintro e w9 ⟨rfl, hb⟩
        rw [← HX2.out]
        have HI := Lib.hid (HI.out.below hb)
        have HF1 := Lib.hid (HF1.out.below hb)
        have HB := Lib.hid (HB.out.trans (hb.mono HB.out.size))
        clear hb
        have hL1 := HI.out.rows.1
        have hL2 := HI.out.swap.rows.1
        have HL1 := Lib.hid hL1
        have HL2 := Lib.hid hL2
        clear hL1 hL2
        have z1 : IntKind.u64.wrap ((n1 : Nat) : Int) = ((n1 : Nat) : Int) := by rw [IntKind.wrap_u64]; omega
        have z2 : IntKind.u64.wrap ((n2 : Nat) : Int) = ((n2 : Nat) : Int) := by rw [IntKind.wrap_u64]; omega
        have z3 : (((n1 : Nat) : Int) != ((n1 : Nat) : Int)) = false := by simp
        have z4 : (((n2 : Nat) : Int) != ((n2 : Nat) : Int)) = false := by simp
        go_wp2_with fail
        refine (len_any gh m1 _ HI.out.h).mono ?_
        rintro e w9 ⟨rfl, rfl⟩
        rw [HL1.out]
        go_wp2_with fail
        refine (len_any go m2 _ HI.out.o).mono ?_
        rintro e w9 ⟨rfl, rfl⟩
        rw [HL2.out]
        go_wp2
        go_roundw
        case rel => exact ⟨i + 1, gh, go, n1, n2, c1, c2, m1, m2, b1, b2, by omega, by go_num, rfl, rfl, rfl, rfl, by omega, HL1.out, HL2.out, HI.out, HB.out⟩
        case measure => simp [intOf]; omega
      · have hq1 : (k == 1) = false := by simp; omega
        by_cases hk2 : k = 2
        · subst hk2
          go_wp2_with fail
          refine (reset_any gh m1 _ HI.out.h HF1.out).mono ?_
          rintro e w9 ⟨rfl, hs, hc⟩
          have hx := HI.out.hash hc hs
          have hgB := HI.out.hB
          have hwB := HB.out.size
          have HB := Lib.hid (HB.out.trans (hc.below hwB (fun k hk => by rcases hk with hk | hk <;> omega)))
          have HF1 := Lib.hid (HF.out.below HB.out)
          have HI : Hid (PcI w.heap.size w9 gh go (.slice none 0 0) (.slice b2 n2 c2) [] m2) := ⟨hs, hx.2.2, World.ownsRow_nil _ _ _ _, hx.2.1, HI.out.ne, (fun k hk => by cases hk), HI.out.b1, HI.out.hB, HI.out.oB, (fun x hx => by cases hx), HI.out.n8⟩
          clear hc hs hx
          have hL1 := HI.out.rows.1
          have hL2 := HI.out.swap.rows.1
          have HL1 := Lib.hid hL1
          have HL2 := Lib.hid hL2
          clear hL1 hL2
          have z1 : IntKind.u64.wrap ((0 : Nat) : Int) = ((0 : Nat) : Int) := by rw [IntKind.wrap_u64]; omega
          have z2 : IntKind.u64.wrap ((n2 : Nat) : Int) = ((n2 : Nat) : Int) := by rw [IntKind.wrap_u64]; omega
          have z3 : (((0 : Nat) : Int) != ((0 : Nat) : Int)) = false := by simp
          have z4 : (((n2 : Nat) : Int) != ((n2 : Nat) : Int)) = false := by simp
          go_wp2_with fail
          refine (len_any gh [] _ HI.out.h).mono ?_
          rintro e w9 ⟨rfl, rfl⟩
          rw [HL1.out]
          go_wp2_with fail
          refine (len_any go m2 _ HI.out.o).mono ?_
          rintro e w9 ⟨rfl, rfl⟩
          rw [HL2.out]
          go_wp2
          go_roundw
          case rel => exact ⟨i + 1, gh, go, 0, n2, 0, c2, [], m2, none, b2, by omega, by go_num, rfl, rfl, rfl, rfl, by omega, HL1.out, HL2.out, HI.out, HB.out⟩
          case measure => simp [intOf]; omega
        · have hq2 : (k == 2) = false := by simp; omega
          by_cases hk3 : k = 3
          · subst hk3
            have HI : Hid (PcI w.heap.size wr go gh (.slice b2 n2 c2) (.slice b1 n1 c1) m2 m1) := HI.out.swap
            have hL1 := HI.out.rows.1
            have hL2 := HI.out.swap.rows.1
            have HL1 := Lib.hid hL1
            have HL2 := Lib.hid hL2
            clear hL1 hL2
            have z1 : IntKind.u64.wrap ((n2 : Nat) : Int) = ((n2 : Nat) : Int) := by rw [IntKind.wrap_u64]; omega
            have z2 : IntKind.u64.wrap ((n1 : Nat) : Int) = ((n1 : Nat) : Int) := by rw [IntKind.wrap_u64]; omega
            have z3 : (((n2 : Nat) : Int) != ((n2 : Nat) : Int)) = false := by simp
            have z4 : (((n1 : Nat) : Int) != ((n1 : Nat) : Int)) = false := by simp
            go_wp2_with fail
            refine (len_any go m2 _ HI.out.h).mono ?_
            rintro e w9 ⟨rfl, rfl⟩
            rw [HL1.out]
            go_wp2_with fail
            refine (len_any gh m1 _ HI.out.o).mono ?_
            rintro e w9 ⟨rfl, rfl⟩
            rw [HL2.out]
            go_wp2
            go_roundw
            case rel => exact ⟨i + 1, go, gh, n2, n1, c2, c1, m2, m1, b2, b1, by omega, by go_num, rfl, rfl, rfl, rfl, by omega, HL1.out, HL2.out, HI.out, HB.out⟩
            case measure => simp [intOf]; omega
          · have hq3 : (k == 3) = false := by simp; omega
            obtain ⟨-, -, hxl, hnc, hcm, hna, hx8, hrx⟩ := HSP.out
            by_cases hn6 : 16384 < n
            · have hq4 : decide ((16384 : Int) < (n : Int)) = true := decide_eq_true (by omega)
              clear hrx
              go_wp2_with fail
              refine (works5_any _ HF1.out).mono ?_
              rintro e w9 ⟨rfl, hb⟩
              have HB := Lib.hid (HB.out.trans (hb.mono HB.out.size))
              clear hb
              go_wp2
              go_ret
              exact ⟨rfl, HB.out⟩
            · have hq4 : decide ((16384 : Int) < (n : Int)) = false := decide_eq_false (by omega)
              have HRX := Lib.hid hrx
              have HXL := Lib.hid hxl
              have HX8 := Lib.hid hx8
              have HNA := Lib.hid hna
              clear hrx hxl hx8 hna
              have hwrs := HB.out.size
              have hgl := HI.out.h.lt
              have hgol := HI.out.o.lt
              have hgB := HI.out.hB
              have hal := fun q hq => (World.ownsRow.lt HI.out.a q hq).2
              have hbl := fun q hq => (World.ownsRow.lt HI.out.b q hq).2
              have HAL := Lib.hid hal
              have HBL := Lib.hid hbl
              have hn1 := HI.out.rows
              have HN1 := Lib.hid hn1
              clear hal hbl hn1
              go_wp2_with fail
              refine (lentBytes_any aa n c xs _ HXL.out (by omega) HRX.out).mono ?_
              rintro e w3 ⟨g, c3, rfl, hown, hgw, hb⟩
              have hc3 : n + 16 ≤ c3 := by
                rcases hown.2 with ⟨h, _⟩ | ⟨g', c', cur, h, _, _, hn, _⟩
                · cases h
                · cases h; exact hn
              have hg3 : g < w3.heap.size := (World.ownsRow.lt hown g rfl).2
              have HOW := Lib.hid hown
              have HLR := Lib.hid (lent_rdS (xs := xs) (show w3.ownsRow _ _ _ (.slice (some ⟨g, 0, none⟩) (n + 16) c3) (n + 16) _ from hown) (by rw [HXL.out]; omega))
              have HI := Lib.hid (HI.out.below hb)
              have HF1 := Lib.hid (HF1.out.below hb)
              have HB := Lib.hid (HB.out.trans (hb.mono HB.out.size))
              clear hb hown
              go_wp2_with fail
              refine (write_any gh m1 (some ⟨g, 0, none⟩) n c3 xs _ HI.out.h HXL.out (by rw [HN1.out.1]; omega) (by omega) HX8.out HLR.out (fun _ p hp => by cases hp; show g ≠ gh; omega)).mono ?_
              rintro e w4 ⟨rfl, hs, hc⟩
              have hx := HI.out.hash hc hs
              have H1 := Lib.hid hs
              have H2 := Lib.hid hx.2.2
              have HA := Lib.hid hx.1
              have HA2 := Lib.hid hx.2.1
              have hw3s := HB.out.size
              have HB := Lib.hid (HB.out.trans (hc.below HB.out.size (fun q hq => by rcases hq with hq | hq <;> omega)))
              have HOW := Lib.hid (hc.owns HOW.out (fun q hq e => by have : g = q := Option.some.inj hq; rcases e with e | e <;> omega))
              have hw4 := hc.size
              have q2 := (HS0.out.mono HB.out).2.1
              clear hs hc hx HLR
              go_wp2_with fail
              refine (keptBytes_any aa _ g n c c3 xs _ HXL.out (by omega) ((HS0.out.mono HB.out).2.2.2.2.2.2.2) HOW.out).mono ?_
              rintro e w9 ⟨rfl, rfl⟩
              generalize wr.heap.size = s0 at *
              go_wp2
              go_loopw [9] (fun kv wk => ∃ (j : Nat) (L : List Value), j ≤ n ∧ kv = .int .i64 (j : Nat) ∧ Hid (wk.ownsRow s0 5 1 (.slice (some ⟨g, 0, none⟩) (n + 16) c3) (n + 16) L) ∧ Hid (Chg (fun q => q = g) w4 wk)) (fun kv _ => n - (intOf kv).toNat)
              case atStart => exact ⟨0, _, Nat.zero_le _, rfl, HOW.out, Chg.refl _ _⟩
              case round =>
                obtain ⟨j, L, hj, rfl, HOL, HC4⟩ := hrel
                by_cases hjn : j < n
                · have hLl : L.length = (n + 16) * 1 := HOL.out.1
                  have hcell : wr.cell? ⟨g, j, none⟩ = some (L[j]'(by omega)) := by
                    rw [World.ownsRow.cellAt HOL.out j (by omega), List.getElem?_eq_getElem (by omega)]
                  have hfz : wr.frozen? ⟨g, j, none⟩ = false := World.ownsRow.frozenAt HOL.out j
                  have HO2 := Lib.hid (World.ownsRow.stored HOL.out j (.int .u8 238)).1
                  have HC5 : Hid (Chg (fun q => q = g) w4 (wr.setCell ⟨g, j, none⟩ (.int .u8 238))) := HC4.out.setCell (p := ⟨g, j, none⟩) rfl _
                  generalize L[j]'(by omega) = old at hcell
                  clear hLl
                  go_wp2
                  go_roundw
                  case rel => exact ⟨j + 1, _, by omega, by go_num, HO2.out, HC5.out⟩
                  case measure => simp [intOf]; omega
                · have hgw2 : g ≠ gh ∧ g ≠ go := by omega
                  have hwrB : w.heap.size ≤ g := by omega
                  have HB := Lib.hid (HB.out.trans (HC4.out.below HB.out.size (fun q hq => by omega)))
                  have H1 := Lib.hid (H1.out.chg HC4.out (fun e => hgw2.1 e.symm))
                  have H2 := Lib.hid (H2.out.chg HC4.out (fun e => hgw2.2 e.symm))
                  have HA := Lib.hid (HC4.out.owns HA.out (fun q hq e => by have := HAL.out q hq; omega))
                  have HA2 := Lib.hid (HC4.out.owns HA2.out (fun q hq e => by have := HBL.out q hq; omega))
                  have hst := HS0.out.mono HB.out
                  have q2 := hst.2.1
                  have HRX := Lib.hid hst.2.2.2.2.2.2.2
                  have hwsz := HB.out.size
                  have hml := HN1.out.1
                  have HML := Lib.hid hml
                  clear hst hml
                  go_wp2_with (at_builtin; refine wpl_appN 25 5 Tryd.underlying25 info8 rfl (by decide) rfl _ _ rfl w.heap.size (.slice b1 n1 c1) m1.length (u8s m1) rfl HA.out aa n c rfl (u8s xs) (by rw [u8s_len]; exact HXL.out) (by rw [← HXL.out]; exact HRX.out.news) (fun _ h => HNA.out h) (u8s_news xs) (by rw [HML.out]; omega) hwsz ?_; intro v6 w6 hown6 hg6 hor6 hnil6)
                  have hg6 : wr.grownBy w6 (Value.slice b1 n1 c1).ownBlock := hg6
                  have hrow : w6.ownsRow w.heap.size 5 1 v6 (m1 ++ xs).length (u8s (m1 ++ xs)) := by
                    rw [show u8s (m1 ++ xs) = u8s m1 ++ u8s xs by simp [u8s], List.length_append, HXL.out]; exact hown6
                  obtain ⟨N1, hN1⟩ : ∃ N1, N1 = (m1 ++ xs).length := ⟨_, rfl⟩
                  have hN2 : N1 = n1 + n := by rw [hN1, List.length_append, HML.out, HXL.out]
                  obtain ⟨b6, c6, hv6, -, -, -, -⟩ := own_openS hrow
                  rw [← hN1] at hv6
                  subst hv6
                  have hne := HI.out.ne
                  have hwg : gh < wr.heap.size ∧ go < wr.heap.size := ⟨H1.out.lt, H2.out.lt⟩
                  have hb2 := fun q hq => (World.ownsRow.lt HA2.out q hq).2
                  have HI : Hid (PcI w.heap.size w6 gh go (.slice b6 N1 c6) (.slice b2 n2 c2) (m1 ++ xs) m2) := by
                    refine ⟨H1.out.chg (Chg.of_grown hg6) (fun e => (HI.out.a1 _ e.symm).1 rfl), H2.out.chg (Chg.of_grown hg6) (fun e => (HI.out.a1 _ e.symm).2.1 rfl), hrow, (Chg.of_grown hg6).owns HA2.out (fun q hq e => (HI.out.a1 q e.symm).2.2 hq), hne, fun q hq => ?_, HI.out.b1, HI.out.hB, HI.out.oB, fun x hx => ?_, HI.out.n8⟩
                    · rcases hor6.out q hq with h | h
                      · exact HI.out.a1 q h
                      · refine ⟨by omega, by omega, fun e => ?_⟩
                        have := hb2 q e
                        omega
                    · rcases List.mem_append.1 hx with h | h
                      · exact HI.out.m8 x h
                      · exact HX8.out x h
                  have HB := Lib.hid (HB.out.grown hg6 hwsz (fun q hq => (World.ownsRow.lt HA.out q hq).1))
                  have hN3 : N1 ≤ n1 + n := Nat.le_of_eq hN2
                  clear hown6 hrow hg6 hor6 hnil6 hN1 hN2 hb2
                  have hL1 := HI.out.rows.1
                  have hL2 := HI.out.swap.rows.1
                  have HL1 := Lib.hid hL1
                  have HL2 := Lib.hid hL2
                  clear hL1 hL2
                  have z1 : IntKind.u64.wrap ((N1 : Nat) : Int) = ((N1 : Nat) : Int) := by rw [IntKind.wrap_u64]; omega
                  have z2 : IntKind.u64.wrap ((n2 : Nat) : Int) = ((n2 : Nat) : Int) := by rw [IntKind.wrap_u64]; omega
                  have z3 : (((N1 : Nat) : Int) != ((N1 : Nat) : Int)) = false := by simp
                  have z4 : (((n2 : Nat) : Int) != ((n2 : Nat) : Int)) = false := by simp
                  go_wp2_with fail
                  refine (len_any gh (m1 ++ xs) _ HI.out.h).mono ?_
                  rintro e w9 ⟨rfl, rfl⟩
                  rw [HL1.out]
                  go_wp2_with fail
                  refine (len_any go m2 _ HI.out.o).mono ?_
                  rintro e w9 ⟨rfl, rfl⟩
                  rw [HL2.out]
                  go_wp2
                  go_roundw
                  case rel => exact ⟨i + 1, gh, go, N1, n2, c6, c2, (m1 ++ xs), m2, b6, b2, by omega, by go_num, rfl, rfl, rfl, rfl, by omega, HL1.out, HL2.out, HI.out, HB.out⟩
                  case measure => simp [intOf]; omega
    · have hend2 : (i < len ∧ decide ((n1 : Int) + (n2 : Int) ≤ 16384) = false) ∨ ¬ i < len := by
        rcases hend with ⟨h1, h2⟩ | h
        · exact .inl ⟨h1, decide_eq_false (by omega)⟩
        · exact .inr h
      clear hend
      rcases hend2 with ⟨hin, hq5⟩ | hin
      all_goals
        have hr1 := HI.out.rows
        have hr2 := HI.out.swap.rows
        have HR1 := Lib.hid hr1
        have HR2 := Lib.hid hr2
        have hc1 := hr1.2.1
        have hc2 := hr2.2.1
        obtain ⟨X1, hX1⟩ : ∃ X1, X1 = shaC m1 := ⟨_, rfl⟩
        obtain ⟨X2, hX2⟩ : ∃ X2, X2 = shaC m2 := ⟨_, rfl⟩
        have E1 := (shaC_E m1 X1 hX1).2
        have E2 := (shaC_E m2 X2 hX2).2
        have HX1 := Lib.hid hX1
        have HX2 := Lib.hid hX2
        clear hX1 hX2 hr1 hr2
        go_wp2_with fail
        refine (hsum_any gh m1 _ HI.out.h (by rw [HR1.out.1]; omega)).mono ?_
        rintro e w9 ⟨rfl, hb⟩
        rw [← HX1.out]
        have HI := Lib.hid (HI.out.below hb)
        have HF1 := Lib.hid (HF1.out.below hb)
        have HB := Lib.hid (HB.out.trans (hb.mono HB.out.size))
        clear hb
        go_wp2_with fail
        refine (rsum_any b1 n1 c1 m1 _ HR1.out.1 (by omega) HR1.out.2.1 HR1.out.2.2.2.1 HI.out.m8 HI.out.rows.2.2.2.2).mono ?_
        rintro e w9 ⟨rfl, hb⟩
        rw [← HX1.out]
        have HI := Lib.hid (HI.out.below hb)
        have HF1 := Lib.hid (HF1.out.below hb)
        have HB := Lib.hid (HB.out.trans (hb.mono HB.out.size))
        clear hb
        go_wp2_with fail
        refine (hsum_any go m2 _ HI.out.o (by rw [HR2.out.1]; omega)).mono ?_
        rintro e w9 ⟨rfl, hb⟩
        rw [← HX2.out]
        have HI := Lib.hid (HI.out.below hb)
        have HF1 := Lib.hid (HF1.out.below hb)
        have HB := Lib.hid (HB.out.trans (hb.mono HB.out.size))
        clear hb
        go_wp2_with fail
        refine (rsum_any b2 n2 c2 m2 _ HR2.out.1 (by omega) HR2.out.2.1 HR2.out.2.2.2.1 HI.out.n8 HI.out.swap.rows.2.2.2.2).mono ?_
        rintro e w9 ⟨rfl, hb⟩
        rw [← HX2.out]
        have HI := Lib.hid (HI.out.below hb)
        have HF1 := Lib.hid (HF1.out.below hb)
        have HB := Lib.hid (HB.out.trans (hb.mono HB.out.size))
        clear hb
        go_wp2_with fail
        refine (works5_any _ HF1.out).mono ?_
        rintro e w9 ⟨rfl, hb⟩
        have HB := Lib.hid (HB.out.trans (hb.mono HB.out.size))
        clear hb
        go_wp2
        go_ret
        exact ⟨rfl, HB.out⟩
end Go.Proofs.YtpipjkpjpkgmpaaDoor
