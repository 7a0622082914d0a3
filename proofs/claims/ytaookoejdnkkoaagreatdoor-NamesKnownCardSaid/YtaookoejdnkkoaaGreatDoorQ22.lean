import Derived.Test.YtaookoejdnkkoaaGreatDoorQDeU
import Derived.Test.YtaookoejdnkkoaaGreatDoorQGA
import Derived.Test.YtaookoejdnkkoaaGreatDoorCards
import Derived.Test.YtaookoejdnkkoaaGreatDoorTie
import Derived.ChangeMaps5
import Derived.Deep.DeepHandedRow
import Derived.LaidOnce
import Derived.Lay
import Derived.OpenShut
import Derived.ProofKit
import Derived.SevenTiedAt
namespace Go.Proofs.YtaookoejdnkkoaaGreatDoor
open Go.RowKit

/-! The reference's Encode. -/
set_option maxHeartbeats 1600000 in
set_option maxRecDepth 100000 in
theorem rencode_any (aN : Option Addr) (lN cN : Nat) (Ns : List Nat) (aE : Option Addr) (lE cE : Nat) (Es : List Nat) (w : World)
    (hlN : Ns.length = lN) (hbN : lN ≤ 1048576) (hrN : Rd .u64 w aN Ns) (bxN : Bd Ns) (hlE : Es.length = lE) (hbE : lE ≤ 1048576) (hrE : Rd .u64 w aE Es) (bxE : Bd Es) :
    Calls Tryz.prog 44 #[.agg #[.slice aN lN cN, .slice aE lE cE]] w (Enc8 (EncTells (val Ns) (val Es)) w) := by
  have HLN := Lib.hid hlN
  have HXN := Lib.hid bxN
  have HLE := Lib.hid hlE
  have HXE := Lib.hid bxE
  have HRN := Lib.hid (fun (W : World) (h : Below w.heap.size w W) => hrN.below h)
  have HRE := Lib.hid (fun (W : World) (h : Below w.heap.size w W) => hrE.below h)
  unfold Enc8
  clear hlN hrN bxN hlE hrE bxE
  obtain ⟨W0, hW0⟩ : ∃ W0, W0 = w.alloc (KO (.slice aN lN cN) (.slice aE lE cE)) := ⟨_, rfl⟩
  have HWW := Lib.hid hW0
  have HB : Hid (Below w.heap.size w W0) := by show Below _ _ _; rw [hW0]; exact (Below.refl _ _).alloc (Nat.le_refl _) _
  have HK : Hid (W0.heap[w.heap.size]? = some (KO (.slice aN lN cN) (.slice aE lE cE))) := by show _ = _; rw [hW0]; exact heap_new _ _
  clear hW0
  go_enter Tryz.func44, Tryz.ntmps44
  go_wp2_with fail
  rw [← HWW.out]
  refine (rlength_any aN lN cN Ns _ HLN.out hbN (HRN.out _ HB.out) HXN.out).mono ?_
  rintro e w1 ⟨k1, rfl, hk1, hb⟩
  have HK := Lib.hid (KO.below HK.out hb)
  have HB := Lib.hid (HB.out.trans (hb.mono HB.out.size))
  have hle1 := bits_le (m := 4096) hk1
  clear hk1 hb HWW
  by_cases h1 : k1 ≤ 4096
  · have hq1 : decide ((4096 : Int) < (k1 : Int)) = false := decide_eq_false (by omega)
    have HN := Lib.hid (hle1.1 h1)
    obtain ⟨-, kc⟩ := KO.cells HK.out
    clear hle1 h1
    go_wp2_with fail
    clear kc
    refine (rlength_any aE lE cE Es _ HLE.out hbE (HRE.out _ HB.out) HXE.out).mono ?_
    rintro e w2 ⟨k2, rfl, hk2, hb⟩
    have HK := Lib.hid (KO.below HK.out hb)
    have HB := Lib.hid (HB.out.trans (hb.mono HB.out.size))
    have hle2 := bits_le (m := 4096) hk2
    clear hk2 hb
    by_cases h2 : k2 ≤ 4096
    · have hq2 : decide ((4096 : Int) < (k2 : Int)) = false := decide_eq_false (by omega)
      have HE := Lib.hid (hle2.1 h2)
      obtain ⟨kc, -⟩ := KO.cells HK.out
      clear hle2 h2
      go_wp2_with fail
      clear kc
      refine (rcontent_any aN lN cN Ns _ HLN.out hbN (HRN.out _ HB.out) HXN.out HN.out).mono ?_
      rintro e w3 ⟨hb, v3, l3, rfl, ho3, hi3, hl3⟩
      obtain ⟨a3, c3, rfl, hc3, hr3, hn3, -⟩ := own8_open ho3
      have HK := Lib.hid (KO.below HK.out hb)
      have HB := Lib.hid (HB.out.trans (hb.mono HB.out.size))
      have HI3 := Lib.hid hi3
      have HR3 := Lib.hid hr3
      have HN3 := Lib.hid hn3
      obtain ⟨m3, hm3⟩ : ∃ m, m = l3.length := ⟨_, rfl⟩
      have HM3 := Lib.hid hm3
      rw [← hm3] at hl3 ⊢
      clear hb ho3 hi3 hr3 hn3 hm3 hc3
      go_wp2_with fail
      refine (ritemB_any 2 a3 m3 c3 l3 _ HM3.out.symm (by omega) HN3.out HR3.out).mono ?_
      rintro e w4 ⟨hb, v4, x4, rfl, ho4, hi4⟩
      obtain ⟨a4, c4, rfl, hc4, hr4, hn4, -⟩ := own8_open ho4
      have HK := Lib.hid (KO.below HK.out hb)
      have HB := Lib.hid (HB.out.trans (hb.mono HB.out.size))
      have HI4 := Lib.hid hi4
      have HR4 := Lib.hid hr4
      have HN4 := Lib.hid hn4
      have hl4 := hi4.len
      rw [← HM3.out] at hl4
      obtain ⟨m4, hm4⟩ : ∃ m, m = x4.length := ⟨_, rfl⟩
      have HM4 := Lib.hid hm4
      rw [← hm4] at hl4 ⊢
      have hsz4 := HB.out.size
      clear hb ho4 hi4 hr4 hn4 hm4 hc4
      have kc := (KO.cells HK.out).2
      go_wp2_with (first
        | (at_builtin; refine wpl_appN 40 5 Tryz.underlying40 info8 rfl (by decide) rfl _ _ rfl w.heap.size (.slice none 0 0) 0 [] rfl (World.ownsRow_nil _ _ _ _) a4 m4 c4 rfl (u8s x4) (by rw [u8s_len, HM4.out]) (fun h => HR4.out.news (by rw [← HM4.out]; exact h)) (fun _ h => HN4.out h) (u8s_one8 _) (by omega) hsz4 ?_; intro v5 w5 hown hg _ _; have HOv5 := Lib.hid hown; have HGv5 := Lib.hid hg; clear hown hg; have kc5 := (KO.cells (show w5.heap[w.heap.size]? = some (KO (.slice aN lN cN) (.slice aE lE cE)) from by rw [((Below.refl w4.heap.size w4).grown HGv5.out (Nat.le_refl _) (fun q hq => by cases hq)).block _ (lt_of_block HK.out)]; exact HK.out)).2))
      have HB5 := Lib.hid (HB.out.grown HGv5.out hsz4 (fun q hq => by cases hq))
      have hk5 : w5.heap[w.heap.size]? = some (KO (.slice aN lN cN) (.slice aE lE cE)) := by
        rw [((Below.refl w4.heap.size w4).grown HGv5.out (Nat.le_refl _) (fun q hq => by cases hq)).block _ (lt_of_block HK.out)]
        exact HK.out
      have HK := Lib.hid hk5
      clear kc hk5 kc5
      refine (rcontent_any aE lE cE Es _ HLE.out hbE (HRE.out _ HB5.out) HXE.out HE.out).mono ?_
      rintro e w6 ⟨hb, v6, l6, rfl, ho6, hi6, hl6⟩
      obtain ⟨a6, c6, rfl, hc6, hr6, hn6, -⟩ := own8_open ho6
      have HO5 := Lib.hid ((Chg.of_below hb).owns HOv5.out (fun k hk => by have := (World.ownsRow.lt HOv5.out k hk).2; omega))
      have HB := Lib.hid (HB5.out.trans (hb.mono HB5.out.size))
      have HI6 := Lib.hid hi6
      have HR6 := Lib.hid hr6
      have HN6 := Lib.hid hn6
      obtain ⟨m6, hm6⟩ : ∃ m, m = l6.length := ⟨_, rfl⟩
      have HM6 := Lib.hid hm6
      rw [← hm6] at hl6 ⊢
      clear hb ho6 hi6 hr6 hn6 hm6 hc6 HK HOv5 HGv5 HB5
      go_wp2_with fail
      refine (ritemB_any 2 a6 m6 c6 l6 _ HM6.out.symm (by omega) HN6.out HR6.out).mono ?_
      rintro e w7 ⟨hb, v7, x7, rfl, ho7, hi7⟩
      obtain ⟨a7, c7, rfl, hc7, hr7, hn7, -⟩ := own8_open ho7
      have HO5 := Lib.hid ((Chg.of_below hb).owns HO5.out (fun k hk => by have := (World.ownsRow.lt HO5.out k hk).2; omega))
      have HB := Lib.hid (HB.out.trans (hb.mono HB.out.size))
      have HI7 := Lib.hid hi7
      have HR7 := Lib.hid hr7
      have HN7 := Lib.hid hn7
      have hl7 := hi7.len
      rw [← HM6.out] at hl7
      obtain ⟨m7, hm7⟩ : ∃ m, m = x7.length := ⟨_, rfl⟩
      have HM7 := Lib.hid hm7
      rw [← hm7] at hl7 ⊢
      have hsz7 := HB.out.size
      clear hb ho7 hi7 hr7 hn7 hm7 hc7
      go_wp2_with (first
        | (at_builtin; refine wpl_appN 40 5 Tryz.underlying40 info8 rfl (by decide) rfl _ _ rfl w.heap.size v5 (0 + m4) ([] ++ u8s x4) rfl HO5.out a7 m7 c7 rfl (u8s x7) (by rw [u8s_len, HM7.out]) (fun h => HR7.out.news (by rw [← HM7.out]; exact h)) (fun _ h => HN7.out h) (u8s_one8 _) (by omega) hsz7 ?_; intro v8 w8 hown hg _ _; have HOv8 := Lib.hid hown; have HGv8 := Lib.hid hg; clear hown hg))
      have hown8 : own8 w8 w.heap.size v8 (x4 ++ x7) := own8_of HOv8.out (by have := HM4.out; have := HM7.out; rw [List.length_append]; omega) (by simp [u8s])
      have hl8 : (x4 ++ x7).length = m4 + m7 := by rw [List.length_append, ← HM4.out, ← HM7.out]
      obtain ⟨a8, c8, hv8, hc8, hr8, hn8, -⟩ := own8_open hown8
      subst hv8
      have HB8 := Lib.hid (HB.out.grown HGv8.out hsz7 (fun q hq => (World.ownsRow.lt HO5.out q hq).1))
      have HL8 := Lib.hid hl8
      rw [hl8]
      clear hown8 HOv8 HGv8 hl8 hc8
      refine (ritemB_any 48 a8 (m4 + m7) c8 (x4 ++ x7) _ HL8.out (by omega) hn8 hr8).mono ?_
      clear hr8 hn8
      rintro e w9 ⟨hb, v9, x9, rfl, ho9, hi9⟩
      obtain ⟨a9, c9, rfl, -, -, -, -⟩ := own8_open ho9
      have HBF := Lib.hid (HB8.out.trans (hb.mono HB8.out.size))
      have HOF := Lib.hid (owns_base ho9 HB8.out.size)
      have HT : Hid (EncTells (val Ns) (val Es) 0 x9) := .inl ⟨HN.out, HE.out, rfl, l3, l6, x4, x7, HI3.out, HI6.out, HI4.out, HI7.out, hi9⟩
      clear hb ho9 hi9
      go_wp2
      go_ret2
      exact ⟨HBF.out, _, _, _, _, rfl, HOF.out, HT.out⟩
    · have hq2 : decide ((4096 : Int) < (k2 : Int)) = true := decide_eq_true (by omega)
      have HT : Hid (EncTells (val Ns) (val Es) 3 []) := .inr ⟨fun h => h2 (hle2.2 h.2), rfl, rfl⟩
      clear hle2 h2
      go_wp2
      go_ret2
      exact ⟨HB.out, none, 0, _, [], rfl, World.ownsRow_nil _ _ _ _, HT.out⟩
  · have hq1 : decide ((4096 : Int) < (k1 : Int)) = true := decide_eq_true (by omega)
    have HT : Hid (EncTells (val Ns) (val Es) 3 []) := .inr ⟨fun h => h1 (hle1.2 h.1), rfl, rfl⟩
    clear hle1 h1
    go_wp2
    go_ret2
    exact ⟨HB.out, none, 0, _, [], rfl, World.ownsRow_nil _ _ _ _, HT.out⟩

open Go.ChangeShapes Go.WideShapes Go.ChangeAt Go.RowKit

theorem own_knob : ownKnob Tryz.prog.godebug = none := by kernel_rfl
theorem laid_out : laidOutB Tryz.prog = true := by kernel_rfl
theorem cells_u8 : Tryz.prog.cellsOf 5 = 1 := by kernel_rfl
/-- A list of numbers that is handed in, nil or not. -/
theorem opened_nums {H : Type} {enc : TypeId × Value → H} {W : World} {a0 : Option Addr} {len cap : Nat} {d0 : DataW H} {p : List MemPlace} {t e : TypeId} {k : IntKind} (ht : Tryz.prog.underlying t = some (.slice e)) (he : Tryz.prog.underlying e = some (.int k)) (hc : Tryz.prog.cellsOf e = 1) (hmin : k.min = 0)
    (h0 : DataW.Trod enc Tryz.prog W 0 (fun _ => true) true t (.slice a0 len cap) d0 p) :
    ∃ xs : List Nat, xs.length = len ∧ len ≤ cap ∧ cap ≤ maxLen ∧ Rd k W a0 xs ∧ (∀ x ∈ xs, (x : Int) ≤ k.max) ∧ (a0 = none → cap = 0) := by
  obtain ⟨fuel, hf⟩ := h0
  rcases open_ints ht he hc hf with ⟨hcs, hx⟩ | ⟨a, len', cap', zs, hcs, _, hl, hm, hz, hx, hcell, hwz⟩
  · simp [Value.cells] at hcs
    obtain ⟨rfl, rfl, rfl⟩ := hcs
    exact ⟨[], rfl, Nat.le_refl _, Nat.zero_le _, (fun j hj => by simp at hj), (fun x hx => by simp at hx), fun _ => rfl⟩
  · simp [Value.cells] at hcs
    obtain ⟨rfl, rfl, rfl⟩ := hcs
    simp only [if_true] at hz
    have hw : ∀ z ∈ zs, 0 ≤ z ∧ z ≤ k.max := fun z hz => by
      have := hwz z hz
      simp only [Lit.wf, hmin] at this
      simpa using this
    refine ⟨(zs.take len).map Int.toNat, by simp; omega, hl, hm, ?_, ?_, fun h => by cases h⟩
    · intro j hj
      simp at hj
      obtain ⟨b, off, spot⟩ := a
      have hspot : spot = none := by simpa [Addr.add] using World.cell?_spot (hcell 0 (by omega))
      subst hspot
      refine ⟨b, off, rfl, fun i hi => ?_⟩
      simp at hi
      have h1 := hcell i (by omega)
      have e2 : (⟨b, off, none⟩ : Addr).add i = ⟨b, off + i, none⟩ := by unfold Addr.add; split <;> simp_all
      rw [e2] at h1
      rw [h1]
      have hi2 : i < zs.length := by omega
      have hi3 : i < len := by omega
      have h3 := (hw zs[i] (List.getElem_mem hi2)).1
      have h4 : (((zs.take len).map Int.toNat).getD i 0 : Nat) = zs[i].toNat := by
        simp [List.getD, hi3, hi2]
      rw [h4]
      simp [List.getD, hi2]
      omega
    · intro x hx
      obtain ⟨z, hz, rfl⟩ := List.mem_map.1 hx
      have := hw z (List.mem_of_mem_take hz)
      omega
end Go.Proofs.YtaookoejdnkkoaaGreatDoor
