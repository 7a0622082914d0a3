import Derived.Test.YtaookoejdnkkoaaGreatDoorQ03
import Derived.Test.YtaookoejdnkkoaaGreatDoorQ05
import Derived.Test.YtaookoejdnkkoaaGreatDoorQDeI
namespace Go.Proofs.YtaookoejdnkkoaaGreatDoor
open Go.RowKit

/-! The program's reading of a key's bytes. -/
theorem itemA_zero (b : List Nat) : itemA b 0 = item0 b := by
  rcases h : item0 b with ⟨e, t, f, o⟩
  simp only [itemA, List.drop_zero, h, Nat.zero_add]
  split
  · rfl
  · rename_i h2
    simp only [ne_eq, Decidable.not_not] at h2
    rw [h2]
/-- What a key's bytes tell, by places. -/
theorem dec0_at (b : List Nat) : dec0 b =
    if (itemA b 0).1 ≠ 0 then ((itemA b 0).1, 0, 0)
    else if (itemA b 0).2.1 ≠ 48 then (71, 0, 0)
    else if (itemA b 0).2.2.2 < b.length then (74, 0, 0)
    else if (intA (b.drop (itemA b 0).2.2.1) 0).1 ≠ 0 then ((intA (b.drop (itemA b 0).2.2.1) 0).1, 0, 0)
    else if (intA (b.drop (itemA b 0).2.2.1) (intA (b.drop (itemA b 0).2.2.1) 0).2.2).1 ≠ 0 then ((intA (b.drop (itemA b 0).2.2.1) (intA (b.drop (itemA b 0).2.2.1) 0).2.2).1, 0, 0)
    else if (intA (b.drop (itemA b 0).2.2.1) (intA (b.drop (itemA b 0).2.2.1) 0).2.2).2.2 < (b.drop (itemA b 0).2.2.1).length then (74, 0, 0)
    else (0, (intA (b.drop (itemA b 0).2.2.1) 0).2.1, (intA (b.drop (itemA b 0).2.2.1) (intA (b.drop (itemA b 0).2.2.1) 0).2.2).2.1) := by
  rw [itemA_zero]
  unfold dec0
  generalize item0 b = i
  obtain ⟨e, t, f, o⟩ := i
  simp only
  split
  · rfl
  split
  · rfl
  split
  · rfl
  have e0 := int0_at (b.drop f) 0
  rw [List.drop_zero] at e0
  rw [e0]
  generalize b.drop f = c
  rcases h1 : intA c 0 with ⟨k1, n1, o1⟩
  simp only
  split
  · rfl
  rename_i hk1
  simp only [ne_eq, Decidable.not_not] at hk1
  rw [if_pos hk1, int0_at c o1]
  rcases h2 : intA c o1 with ⟨k2, n2, o2⟩
  simp only
  split
  · rfl
  rename_i hk2
  simp only [ne_eq, Decidable.not_not] at hk2
  rw [if_pos hk2]
  by_cases h3 : o2 < c.length
  · rw [if_pos h3, if_pos (by intro h; have := congrArg List.length h; rw [List.length_drop] at this; simp at this; omega)]
  · rw [if_neg h3, if_neg (by rw [List.drop_of_length_le (by omega)]; simp)]
/-- What a key's bytes tell: the key, or the error. -/
def KeyTells (b : List Nat) (k : Int) (N E : List Nat) : Prop := (dec0 b).1 = k ∧ (k = 0 → Num N (dec0 b).2.1 ∧ Num E (dec0 b).2.2) ∧ (k ≠ 0 → N = [] ∧ E = [])
theorem KeyTells.one {b : List Nat} {k k' : Int} {N E N' E' : List Nat} (h : KeyTells b k N E) (g : KeyTells b k' N' E') : k = k' ∧ N = N' ∧ E = E' := by
  obtain ⟨rfl, h1, h2⟩ := h
  obtain ⟨rfl, g1, g2⟩ := g
  refine ⟨rfl, ?_⟩
  by_cases h : (dec0 b).1 = 0
  · exact ⟨(h1 h).1.unique (g1 h).1, (h1 h).2.unique (g1 h).2⟩
  · rw [(h2 h).1, (h2 h).2, (g2 h).1, (g2 h).2]; exact ⟨rfl, rfl⟩
theorem KeyTells.no {b : List Nat} {k : Int} (h : (dec0 b).1 = k) (hk : k ≠ 0) : KeyTells b k [] [] := ⟨h, fun e => absurd e hk, fun _ => ⟨rfl, rfl⟩⟩
theorem KeyTells.yes {b : List Nat} {N E : List Nat} {n e : Nat} (h : dec0 b = (0, n, e)) (hN : Num N n) (hE : Num E e) : KeyTells b 0 N E := ⟨by rw [h], fun _ => by rw [h]; exact ⟨hN, hE⟩, fun e => absurd rfl e⟩

/-- What reading a key gives. -/
def KofPost (b : List Nat) (w : World) (e : Ending) (w' : World) : Prop :=
  Below w.heap.size w w' ∧ ((∃ a1 c1 N a2 c2 E, e = .returned (.agg #[.slice a1 (List.length N) c1, .slice a2 (List.length E) c2]) ∧ Sep w' w.heap.size [rw64 (.slice a1 (List.length N) c1) N, rw64 (.slice a2 (List.length E) c2) E] ∧ N.length ≤ 128 ∧ E.length ≤ 128 ∧ KeyTells b 0 N E) ∨ (∃ k, k ≠ 0 ∧ (dec0 b).1 = k ∧ e = pan k))
theorem sep2 {w w' : World} {B B2 : Nat} {v u : Value} {N E : List Nat} (h1 : own64 w B v N) (hB : B ≤ w.heap.size) (hb : Below w.heap.size w w') (hB2 : w.heap.size ≤ B2) (h2 : own64 w' B2 u E) : Sep w' B [rw64 v N, rw64 u E] := by
  refine ⟨fun r hr => ?_, List.pairwise_cons.2 ⟨fun r hr k hk hk2 => ?_, List.pairwise_cons.2 ⟨fun r hr => (by cases hr), List.Pairwise.nil⟩⟩⟩
  · rcases List.mem_cons.1 hr with rfl | hr
    · exact own64.under h1 hb
    · rcases List.mem_cons.1 hr with rfl | hr
      · exact owns_base h2 (by omega)
      · cases hr
  · rcases List.mem_cons.1 hr with rfl | hr
    · have g1 := World.ownsRow.lt h1 k hk
      have g2 := World.ownsRow.lt h2 k hk2
      omega
    · cases hr
theorem Sep.base {w : World} {B B' : Nat} {R : List Rw} (h : Sep w B R) (hB : B' ≤ B) : Sep w B' R := ⟨fun r hr => owns_base (h.1 r hr) hB, h.2⟩
theorem Sep.setLow {w : World} {B g i : Nat} {R : List Rw} (h : Sep w B R) (hg : g < B) (u : Value) : Sep (w.setCell ⟨g, i, none⟩ u) B R :=
  h.chg ((Chg.refl (fun k => k = g) w).setCell rfl u) fun r hr k hk he => by have := World.ownsRow.lt (h.1 r hr) k hk; omega
set_option maxHeartbeats 1600000 in
set_option maxRecDepth 100000 in
theorem keyOf_any (a : Option Addr) (len cap : Nat) (b : List Nat) (w : World) (hl : b.length = len) (hbig : len ≤ 1099511627776) (hcap : len ≤ cap) (hcm : cap ≤ 9223372036854775807) (hna : a = none → cap = 0) (h8 : B8 b) (hr : Rd .u8 w a b) :
    Calls Tryz.prog 183 #[.slice a len cap] w (KofPost b w) := by
  have HL := Lib.hid hl
  have HR := Lib.hid hr
  have H8 := Lib.hid h8
  have HD := Lib.hid (dec0_at b)
  unfold KofPost
  clear hl hr h8 hna
  go_enter Tryz.func183, Tryz.ntmps183
  go_wp2_with fail
  refine (itemAt_any a len cap b 0 _ HL.out hbig hcap H8.out (rd_alloc HR.out _) (by omega) (by omega)).mono ?_
  rw [show itemI b 0 = itemA b 0 from itemI_in (a := 0) (Nat.zero_le _)]
  rintro e w1 ⟨hb, hor⟩
  have hblk : w1.heap[w.heap.size]? = some (.cells #[.slice none 0 0, .slice none 0 0] 25 (0, 0)) := by
    rw [hb.block _ (by simp)]
    exact heap_new _ _
  have hB0 : Below w.heap.size w w1 := ((Below.refl w.heap.size w).alloc (Nat.le_refl _) (.cells #[.slice none 0 0, .slice none 0 0] 25)).trans (hb.mono (by simp))
  have HB := Lib.hid hB0
  have HBLK := Lib.hid hblk
  clear hb hB0 hblk
  rcases hor with ⟨t, f, o, hi, rfl⟩ | ⟨k, hk, hi, rfl⟩
  · obtain ⟨h1, h2, h3, h4, -, -, -, -⟩ := itemA_lies H8.out (Nat.zero_le _) hi
    rw [HL.out] at h4
    have hD := HD.out
    rw [hi] at hD
    simp only [ne_eq, not_true_eq_false, if_false] at hD
    have HD := Lib.hid hD
    obtain ⟨bb, off, rfl, -⟩ := HR.out.get (by rw [HL.out]; omega)
    clear hD hi h1 h2
    by_cases ht : t = 48
    · subst ht
      by_cases ho : o < len
      · have HP : Hid ((dec0 b).1 = 74) := by show _ = _; have := HD.out; rw [if_neg (by simp), if_pos (by rw [HL.out]; exact ho)] at this; rw [this]
        have hq : ((o : Int) == (len : Int)) = false := by simp; omega
        clear ho
        go_wp2_with fail
        refine (demand_yes _ _).mono ?_
        rintro e w' ⟨rfl, rfl⟩
        go_wp2_with fail
        refine (demand_no _ _).mono ?_
        rintro e w' ⟨rfl, rfl⟩
        go_wp2
        exact ⟨rfl, HB.out.alloc HB.out.size _, .inr ⟨74, by decide, HP.out, rfl⟩⟩
      · obtain rfl : o = len := by omega
        have hD := HD.out
        rw [if_neg (by simp), if_neg (by rw [HL.out]; exact ho)] at hD
        have HD := Lib.hid hD
        clear hD h4 ho
        go_wp2_with fail
        refine (demand_yes _ _).mono ?_
        rintro e w' ⟨rfl, rfl⟩
        go_wp2_with fail
        refine (demand_yes _ _).mono ?_
        rintro e w' ⟨rfl, rfl⟩
        have hb1 : (0 : Int) ≤ (f : Int) := by omega
        have hb2 : (f : Int) ≤ (o : Int) := by omega
        have hb2n := h3
        have HCL : Hid ((b.drop f).length = o - f) := by show _ = _; rw [List.length_drop, HL.out]
        have HC8 : Hid (B8 (b.drop f)) := H8.out.drop f
        have HR1 : Hid (cap = f → ∀ A, Rd .u8 w1 A (b.drop f)) := fun h A j hj => absurd hj (by rw [HCL.out]; omega)
        have HR2 : Hid (¬ cap = f → Rd .u8 w1 (some ⟨bb, off + f, none⟩) (b.drop f)) := fun h => by
          have h5 := cutA_rd (HR.out.below HB.out) HL.out hcap hb2n (Nat.le_refl _)
          rw [List.take_of_length_le (by rw [HL.out]; exact Nat.le_refl _)] at h5
          have e : cutA (some ⟨bb, off, none⟩) cap f = some ⟨bb, off + f, none⟩ := by simp [cutA, h, Addr.add]
          rwa [e] at h5
        have hno : intA (b.drop f) 0 = intA (b.drop f) 0 := rfl
        obtain ⟨c, hc⟩ : ∃ c, c = b.drop f := ⟨_, rfl⟩
        have hD := HD.out
        rw [← hc] at HCL HC8 HR1 HR2 hD
        have HD := Lib.hid hD
        clear hD hno hc
        by_cases hcf : cap = f
        all_goals
          go_wp2_with fail
          refine (integerAt_any _ (o - f) _ c 0 _ HCL.out (by omega) (by omega) (by omega) (fun h => by cases h) HC8.out (rd_alloc (by first | exact HR1.out hcf _ | exact HR2.out hcf) _) (Nat.zero_le _)).mono ?_
          rintro e w2 ⟨hb2, hor⟩
          have hblk : w2.heap[w.heap.size]? = some (.cells #[.slice none 0 0, .slice none 0 0] 25 (0, 0)) := by
            rw [hb2.block _ (by simp; have := lt_of_block HBLK.out; omega), Below.heap_alloc _ _ _ (lt_of_block HBLK.out)]
            exact HBLK.out
          have HBLK := Lib.hid hblk
          have hw2 := (HB.out.alloc HB.out.size (.cells #[.int .u8 48, .int .i64 (f : Nat), .int .i64 (o : Nat)] 209))
          have HB2 := Lib.hid (hw2.trans (hb2.mono hw2.size))
          have HB21 := Lib.hid (((Below.refl w1.heap.size w1).alloc (Nat.le_refl _) (.cells #[.int .u8 48, .int .i64 (f : Nat), .int .i64 (o : Nat)] 209)).trans (hb2.mono (by simp)))
          have hsz2 := hw2.size
          clear hb2 hblk hw2
          rcases hor with ⟨a1, c1, zs, n, o1, hi1, ho1, rfl, hown1, hz1, hn1⟩ | ⟨k, hk, hi1, rfl⟩
          · have HI1 := Lib.hid hi1
            have HO1 := Lib.hid hown1
            have HN1 := Lib.hid hn1
            have HOL := Lib.hid ho1
            rw [HCL.out] at ho1
            clear hi1 hown1 hn1
            go_wp2_with fail
            refine (integerAt_any _ (o - f) _ c o1 _ HCL.out (by omega) (by omega) (by omega) (fun h => by cases h) HC8.out ((show Rd .u8 w1 _ c by first | exact HR1.out hcf _ | exact HR2.out hcf).below HB21.out) ho1).mono ?_
            rintro e w3 ⟨hb3, hor⟩
            have hblk3 : w3.heap[w.heap.size]? = some (.cells #[.slice none 0 0, .slice none 0 0] 25 (0, 0)) := by
              rw [hb3.block _ (lt_of_block HBLK.out)]
              exact HBLK.out
            have HB3 := Lib.hid (HB2.out.trans (hb3.mono HB2.out.size))
            have HB32 := Lib.hid hb3
            have HBLK := Lib.hid hblk3
            have hc0 : w3.cell? ⟨w.heap.size, 0, none⟩ = some (.slice none 0 0) := cell_alloc (i := 0) hblk3
            have hc1 : w3.cell? ⟨w.heap.size, 1, none⟩ = some (.slice none 0 0) := cell_alloc (i := 1) hblk3
            have hz0 := frozen_alloc (i := 0) hblk3
            have hz1' := frozen_alloc (i := 1) hblk3
            clear hb3 hblk3
            rcases hor with ⟨a2, c2, ys, m, o2, hi2, ho2, rfl, hown2, hz2, hn2⟩ | ⟨k, hk, hi2, rfl⟩
            · have hsep : Sep w3 w1.heap.size [rw64 (.slice a1 zs.length c1) zs, rw64 (.slice a2 ys.length c2) ys] :=
                sep2 (owns_base HO1.out (by simp)) (by simp at hsz2; have := HB21.out.size; omega) HB32.out (Nat.le_refl _) hown2
              have HSP := Lib.hid hsep
              rw [HCL.out] at ho2
              have HDD : Hid (dec0 b = if o2 < o - f then (74, 0, 0) else (0, n, m)) := by
                show _ = _
                have := HD.out
                rw [if_neg (by simp), if_neg (by rw [HL.out]; omega), HI1.out, if_neg (by simp), hi2, if_neg (by simp), HCL.out] at this
                exact this
              have HN2 := Lib.hid hn2
              clear hsep hown2 hi2 hn2
              by_cases hlg : o2 < o - f
              · have HP : Hid ((dec0 b).1 = 74) := by show _ = _; rw [HDD.out, if_pos hlg]
                have hq : ((o2 : Int) == ((o - f : Nat) : Int)) = false := by simp; omega
                go_wp2_with fail
                refine (demand_no _ _).mono ?_
                rintro e w' ⟨rfl, rfl⟩
                go_wp2
                exact ⟨rfl, HB3.out, .inr ⟨74, by decide, HP.out, rfl⟩⟩
              · have HP : Hid (dec0 b = (0, n, m)) := by show _ = _; rw [HDD.out, if_neg hlg]
                have hq : ((o2 : Int) == ((o - f : Nat) : Int)) = true := by simp; omega
                go_wp2_with fail
                refine (demand_yes _ _).mono ?_
                rintro e w' ⟨rfl, rfl⟩
                go_wp2
                have b1 := heap_setCell_same _ w.heap.size 0 _ _ (.slice a1 zs.length c1) HBLK.out
                have b2 := heap_setCell_same _ w.heap.size 1 _ _ (.slice a2 ys.length c2) b1
                have hlt : w.heap.size < w1.heap.size := lt_of_block (by assumption : Hid (w1.heap[w.heap.size]? = some _)).out
                refine bodyPost_ret (results_Ky rfl rfl b2) rfl ⟨(HB3.out.setCell (Nat.le_refl _) _).setCell (Nat.le_refl _) _, .inl ⟨_, _, _, _, _, _, rfl, ?_, hz1, hz2, KeyTells.yes HP.out HN1.out HN2.out⟩⟩
                exact ((HSP.out.setLow hlt _).setLow hlt _).base (Nat.le_of_lt hlt)
            · have HP : Hid ((dec0 b).1 = k) := by show _ = _; have := HD.out; rw [if_neg (by simp), if_neg (by rw [HL.out]; omega), HI1.out, if_neg (by simp), hi2, if_pos hk] at this; rw [this]
              clear hi2
              go_wp2
              exact ⟨rfl, HB3.out, .inr ⟨k, hk, HP.out, rfl⟩⟩
          · have HP : Hid ((dec0 b).1 = k) := by show _ = _; have := HD.out; rw [if_neg (by simp), if_neg (by rw [HL.out]; omega), hi1, if_pos hk] at this; rw [this]
            clear hi1
            go_wp2
            exact ⟨rfl, HB2.out, .inr ⟨k, hk, HP.out, rfl⟩⟩
    · have hq : ((t : Int) == 48) = false := by simp; omega
      have HP : Hid ((dec0 b).1 = 71) := by show _ = _; have := HD.out; rw [if_pos (by simpa using ht)] at this; rw [this]
      clear ht
      go_wp2_with fail
      refine (demand_no _ _).mono ?_
      rintro e w' ⟨rfl, rfl⟩
      go_wp2
      exact ⟨rfl, HB.out.alloc HB.out.size _, .inr ⟨71, by decide, HP.out, rfl⟩⟩
  · have HP : Hid ((dec0 b).1 = k) := by show _ = _; have := HD.out; rw [hi, if_pos hk] at this; rw [this]
    clear hi
    go_wp2
    exact ⟨rfl, HB.out, .inr ⟨k, hk, HP.out, rfl⟩⟩

set_option maxHeartbeats 800000 in
set_option maxRecDepth 100000 in
theorem decClo_any (p : Addr) (a : Option Addr) (len cap : Nat) (b : List Nat) (w : World) (hp : w.cell? p = some (.slice a len cap)) (hl : b.length = len) (hbig : len ≤ 1099511627776) (hcap : len ≤ cap) (hcm : cap ≤ 9223372036854775807) (hna : a = none → cap = 0) (h8 : B8 b) (hr : Rd .u8 w a b) :
    Calls Tryz.prog 182 #[.pointer (some p)] w (KofPost b w) := by
  have HL := Lib.hid hl
  have HR := Lib.hid hr
  have H8 := Lib.hid h8
  have HNA := Lib.hid hna
  have hp' : (w.alloc (.cells #[.slice none 0 0, .slice none 0 0] 25)).cell? p = some (.slice a len cap) := below_cell ((Below.refl _ _).alloc (Nat.le_refl _) _) _ _ hp
  have hbP := World.block_lt_of_cell? w p hp
  clear hl hr h8 hna
  go_enter Tryz.func182, Tryz.ntmps182
  go_wp2_with fail
  refine (keyOf_any a len cap b _ HL.out hbig hcap hcm HNA.out H8.out (rd_alloc HR.out _)).mono ?_
  rintro e w1 ⟨hb1, hor⟩
  have hblk : w1.heap[w.heap.size]? = some (.cells #[.slice none 0 0, .slice none 0 0] 25 (0, 0)) := by
    rw [hb1.block _ (by simp)]
    exact heap_new _ _
  have hB0 : Below w.heap.size w w1 := ((Below.refl w.heap.size w).alloc (Nat.le_refl _) (.cells #[.slice none 0 0, .slice none 0 0] 25)).trans (hb1.mono (by simp))
  have HB := Lib.hid hB0
  have HBLK := Lib.hid hblk
  have hc0 : w1.cell? ⟨w.heap.size, 0, none⟩ = some (.slice none 0 0) := cell_alloc (i := 0) hblk
  have hc1 : w1.cell? ⟨w.heap.size, 1, none⟩ = some (.slice none 0 0) := cell_alloc (i := 1) hblk
  have hz0 := frozen_alloc (i := 0) hblk
  have hz1 := frozen_alloc (i := 1) hblk
  clear hb1 hB0 hblk hp hp'
  rcases hor with ⟨a1, c1, zs, a2, c2, ys, rfl, hsp, hn1, hn2, hT⟩ | ⟨k, hk, hi, rfl⟩
  · have HSP := Lib.hid hsp
    have HT := Lib.hid hT
    clear hsp hT
    go_wp2
    have b1 := heap_setCell_same _ w.heap.size 0 _ _ (.slice a1 zs.length c1) HBLK.out
    have b2 := heap_setCell_same _ w.heap.size 1 _ _ (.slice a2 ys.length c2) b1
    refine bodyPost_end (results_Ky rfl rfl b2) rfl ⟨(HB.out.setCell (Nat.le_refl _) _).setCell (Nat.le_refl _) _, .inl ⟨_, _, _, _, _, _, rfl, ?_, hn1, hn2, HT.out⟩⟩
    exact ((HSP.out.setLow (by simp) _).setLow (by simp) _).base (by simp)
  · have HI := Lib.hid hi
    clear hi
    go_wp2
    exact ⟨rfl, HB.out, .inr ⟨k, hk, HI.out, rfl⟩⟩
theorem keepK {b : List Nat} {W : World} : Keep_k W.heap.size (KofPost b ((W.alloc (.cells #[.slice none 0 0, .slice none 0 0] 25)).alloc (.cells #[.int .i64 0] 28))) := by
  rintro e w' ⟨hb, hor⟩
  obtain ⟨h1, h2⟩ := kept2 hb
  refine ⟨h1, h2, ?_⟩
  rcases hor with ⟨a1, c1, N, a2, c2, E, rfl, _⟩ | ⟨k, _, _, rfl⟩
  · exact .inl ⟨_, _, _, _, _, _, rfl⟩
  · exact .inr ⟨_, rfl⟩
/-- What one call of Decode gives. -/
def DecPost (b : List Nat) (w : World) (e : Ending) (w' : World) : Prop :=
  Below w.heap.size w w' ∧ ∃ a1 c1 N a2 c2 E k, e = .returned (.tuple #[.agg #[.slice a1 (List.length N) c1, .slice a2 (List.length E) c2], .int .i64 k]) ∧ Sep w' w.heap.size [rw64 (.slice a1 (List.length N) c1) N, rw64 (.slice a2 (List.length E) c2) E] ∧ N.length ≤ 128 ∧ E.length ≤ 128 ∧ KeyTells b k N E
theorem results_KyT {fn : Func} {p q : Tmp} (h : fn.results = #[.cell p 25, .tmp q]) {tmps : Array Value} {w : World} {g : Nat} {x y k : Value} {T : TypeId}
    (hp : tmps.getD p undef = .pointer (some ⟨g, 0, none⟩)) (hu : tmps.getD q undef = k) (hg : w.heap[g]? = some (.cells #[x, y] T (0, 0))) :
    (results fn tmps).run Tryz.prog w = .ok (.tuple #[.agg #[x, y], k]) w := by
  rw [results_cell_tmp h, hp, hu]
  simp [asAddr, Result.andThen, run_loadVar_row w g T 25 #[x, y] (0, 0) _ hg Tryz.underlying25 rfl infoKy]

set_option maxHeartbeats 800000 in
set_option maxRecDepth 100000 in
theorem decode_any (a : Option Addr) (len cap : Nat) (b : List Nat) (w : World) (hl : b.length = len) (hbig : len ≤ 1099511627776) (hcap : len ≤ cap) (hcm : cap ≤ 9223372036854775807) (hna : a = none → cap = 0) (h8 : B8 b) (hr : Rd .u8 w a b) :
    Calls Tryz.prog 141 #[.slice a len cap] w (DecPost b w) := by
  have hmf : ∀ (fn : Fn) (first cap : Array Value) (w : World), (Instr.makeFunc fn first cap).run Tryz.prog w = .ok (.func fn first cap) w := fun _ _ _ _ => rfl
  have HL := Lib.hid hl
  have HR := Lib.hid hr
  have H8 := Lib.hid h8
  have HNA := Lib.hid hna
  clear hl hr h8 hna
  go_enter Tryz.func141, Tryz.ntmps141
  go_wp2_with fail
  obtain ⟨W0, hW0⟩ : ∃ W0, W0 = (w.alloc (.cells #[.slice a len cap] 40)).alloc (.cells #[.slice none 0 0, .slice none 0 0] 25) := ⟨_, rfl⟩
  have hB0 : Below w.heap.size w W0 := by rw [hW0]; exact ((Below.refl _ _).alloc (Nat.le_refl _) _).alloc (by simp) _
  have hcp : W0.cell? ⟨w.heap.size, 0, none⟩ = some (.slice a len cap) := by rw [hW0]; exact cell_alloc (i := 0) (heap_alloc2_old _ _ _)
  have hk0 : W0.heap[w.heap.size + 1]? = some (.cells #[.slice none 0 0, .slice none 0 0] 25 (0, 0)) := by rw [hW0]; exact heap_alloc2_new _ _ _
  rw [← hW0]
  have HB0 := Lib.hid hB0
  have HK0 := Lib.hid hk0
  have hR2 : Rd .u8 ((W0.alloc (.cells #[.slice none 0 0, .slice none 0 0] 25)).alloc (.cells #[.int .i64 0] 28)) a b := rd_alloc (rd_alloc (HR.out.below hB0) _) _
  have hcp2 := below_cell (((Below.refl W0.heap.size W0).alloc (Nat.le_refl _) (.cells #[.slice none 0 0, .slice none 0 0] 25)).alloc (by simp) (.cells #[.int .i64 0] 28)) _ _ hcp
  refine (caught_k _ W0 (decClo_any _ a len cap b _ hcp2 HL.out hbig hcap hcm HNA.out H8.out hR2) keepK).mono ?_
  clear hcp hcp2 hW0 hB0 hR2 hk0
  rintro e w1 ⟨e0, w0, ⟨hb, hor⟩, hh⟩
  have hsz : w.heap.size ≤ W0.heap.size := HB0.out.size
  have hk1 := lt_of_block HK0.out
  have hbm : Below W0.heap.size W0 w0 := ((((Below.refl W0.heap.size W0).alloc (Nat.le_refl _) (.cells #[.slice none 0 0, .slice none 0 0] 25)).alloc (by simp) (.cells #[.int .i64 0] 28)).trans (hb.mono (by simp; omega)))
  have hb1 : Below w.heap.size w w0 := HB0.out.trans (hbm.mono hsz)
  have hkk : w0.heap[w.heap.size + 1]? = some (.cells #[.slice none 0 0, .slice none 0 0] 25 (0, 0)) := by rw [hbm.block _ hk1]; exact HK0.out
  rcases hh with ⟨x1, n1, d1, x2, n2, d2, he0, rfl, hw1⟩ | ⟨k, he0, rfl, hw1⟩
  · rcases hor with ⟨a1, c1, zs, a2, c2, ys, he, hsp, hn1, hn2, hT⟩ | ⟨k, hk, hi, he⟩
    · rw [he] at he0
      simp only [Ending.returned.injEq, Value.agg.injEq, Array.mk.injEq, List.cons.injEq, Value.slice.injEq, and_true] at he0
      obtain ⟨⟨rfl, rfl, rfl⟩, rfl, rfl, rfl⟩ := he0
      have hblk : w1.heap[w.heap.size + 1]? = some (.cells #[.slice none 0 0, .slice none 0 0] 25 (0, 0)) := by
        rw [hw1]
        exact other_set (other_set (other_set hkk (by omega) _) (by omega) _) (by omega) _
      have hb2 : Below w.heap.size w w1 := by
        rw [hw1]
        exact ((hb1.setCell (p := ⟨W0.heap.size, 0, none⟩) hsz _).setCell (p := ⟨W0.heap.size, 1, none⟩) hsz _).setCell (p := ⟨W0.heap.size + 1, 0, none⟩) (by show _ ≤ W0.heap.size + 1; omega) _
      have hsp2 : Sep w1 W0.heap.size [rw64 (.slice a1 zs.length c1) zs, rw64 (.slice a2 ys.length c2) ys] := by
        rw [hw1]
        exact (((hsp.setLow (by simp <;> omega) _).setLow (by simp <;> omega) _).setLow (by simp <;> omega) _).base (by simp <;> omega)
      have HBLK := Lib.hid hblk
      have HB2 := Lib.hid hb2
      have HSP := Lib.hid hsp2
      have HT := Lib.hid hT
      have hc0 : w1.cell? ⟨w.heap.size + 1, 0, none⟩ = some (.slice none 0 0) := cell_alloc (i := 0) hblk
      have hc1 : w1.cell? ⟨w.heap.size + 1, 1, none⟩ = some (.slice none 0 0) := cell_alloc (i := 1) hblk
      have hz0 := frozen_alloc (i := 0) hblk
      have hz1 := frozen_alloc (i := 1) hblk
      clear hw1 hb hb1 hkk hsp hsp2 hT hb2 hblk he hbm
      go_wp2
      have b1 := heap_setCell_same _ (w.heap.size + 1) 0 _ _ (.slice a1 zs.length c1) HBLK.out
      have b2 := heap_setCell_same _ (w.heap.size + 1) 1 _ _ (.slice a2 ys.length c2) b1
      refine bodyPost_ret (results_KyT rfl rfl rfl b2) rfl ⟨(HB2.out.setCell (by show _ ≤ w.heap.size + 1; omega) _).setCell (by show _ ≤ w.heap.size + 1; omega) _, _, _, _, _, _, _, _, rfl, ?_, hn1, hn2, HT.out⟩
      exact ((HSP.out.setLow hk1 _).setLow hk1 _).base hsz
    · rw [he] at he0
      cases he0
  · rcases hor with ⟨a1, c1, zs, a2, c2, ys, he, hsp, hn1, hn2, hT⟩ | ⟨k', hk, hi, he⟩
    · rw [he] at he0
      cases he0
    · rw [he] at he0
      simp only [pan, Ending.panicked.injEq, List.cons.injEq, PanicEntry.mk.injEq, Value.iface.injEq, Value.int.injEq, true_and, and_true] at he0
      subst he0
      have hblk : w1.heap[w.heap.size + 1]? = some (.cells #[.slice none 0 0, .slice none 0 0] 25 (0, 0)) := by
        rw [hw1]
        exact other_set hkk (by omega) _
      have hb2 : Below w.heap.size w w1 := by
        rw [hw1]
        exact hb1.setCell (p := ⟨W0.heap.size + 1, 0, none⟩) (by show _ ≤ W0.heap.size + 1; omega) _
      have HBLK := Lib.hid hblk
      have HB2 := Lib.hid hb2
      have HT := Lib.hid (KeyTells.no hi hk)
      have hc0 : w1.cell? ⟨w.heap.size + 1, 0, none⟩ = some (.slice none 0 0) := cell_alloc (i := 0) hblk
      have hc1 : w1.cell? ⟨w.heap.size + 1, 1, none⟩ = some (.slice none 0 0) := cell_alloc (i := 1) hblk
      have hz0 := frozen_alloc (i := 0) hblk
      have hz1 := frozen_alloc (i := 1) hblk
      clear hw1 hb hb1 hkk hb2 hblk he hi hbm
      go_wp2
      have b1 := heap_setCell_same _ (w.heap.size + 1) 0 _ _ (.slice none 0 0) HBLK.out
      have b2 := heap_setCell_same _ (w.heap.size + 1) 1 _ _ (.slice none 0 0) b1
      refine bodyPost_ret (results_KyT rfl rfl rfl b2) rfl ⟨(HB2.out.setCell (by show _ ≤ w.heap.size + 1; omega) _).setCell (by show _ ≤ w.heap.size + 1; omega) _, none, 0, [], none, 0, [], _, rfl, ?_, by decide, by decide, HT.out⟩
      exact ((Sep.nil _ _).nilRow _).nilRow _
end Go.Proofs.YtaookoejdnkkoaaGreatDoor
