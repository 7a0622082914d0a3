import Derived.Test.YtclbjmanmkoikaaDoorRsL
namespace Go.Proofs.YtclbjmanmkoikaaDoor
open Go.RowKit

/-! works. -/
theorem kn_ok (i : Nat) (hi : i < 4) : KeyOk (val (knL i)) (val (keL i)) := by
  rcases (show i = 0 ∨ i = 1 ∨ i = 2 ∨ i = 3 by omega) with rfl | rfl | rfl | rfl <;> decide +kernel
theorem kn_bd (i : Nat) (hi : i < 4) : (Bd (knL i) ∧ (knL i).length ≤ 8) ∧ Bd (keL i) ∧ (keL i).length = 1 := by
  rcases (show i = 0 ∨ i = 1 ∨ i = 2 ∨ i = 3 by omega) with rfl | rfl | rfl | rfl <;> (unfold Bd; decide +kernel)
theorem own_raw {w : World} {B : Nat} {v : Value} {l : List Nat} (h : OwnL w B v l) (hb : Bd l) (hl : l.length ≤ 1000) : Raw w v (val l) := by
  obtain ⟨a, c, rfl, hr⟩ := own64.form h
  have hc : l.length ≤ c ∧ (a = none → c = 0) := ⟨(own64.room h).1, (own64.room h).2⟩
  exact ⟨a, c, l, rfl, hc.1, hc.2, hr, hb, rfl, hl⟩
theorem rd_cb8 {w : World} {t : TypeId} {g : Nat} {xs : List Nat} (h : CB w t g (u8s xs)) : Rd .u8 w (some ⟨g, 0, none⟩) xs := fun _ _ => ⟨g, 0, rfl, fun i hi => by
  rw [Nat.zero_add, h.cell]
  simp [u8s, List.getElem?_eq_getElem hi, List.getD]⟩
theorem raw8_nil (w : World) : Raw8 w (.slice none 0 0) [] := ⟨none, 0, rfl, by decide, (fun _ => rfl), (fun j hj => absurd hj (by simp)), (fun x hx => by cases hx)⟩
def two64 : List Nat := List.replicate 63 0 ++ [2]
def eight64 : List Nat := List.replicate 63 0 ++ [8]
theorem raise_two {k : Int} {b : List Nat} (h : RaiseTells (val kn0) (val ke0) two64 k b) : k = 0 ∧ b = eight64 := by
  have hko : KeyOk (val kn0) (val ke0) := kn_ok 0 (by decide)
  have hsz : szN (val kn0) = 64 := by decide +kernel
  have hb2 : bval two64 = 2 := by decide +kernel
  rcases h with ⟨h, _⟩ | ⟨_, h, _⟩ | ⟨_, _, h, h1, h2, h3⟩
  · exact absurd hko h
  · exact absurd ⟨by rw [hsz]; rfl, by rw [hb2]; decide +kernel⟩ h
  · refine ⟨h, bval_inj h2 (by unfold B8; decide +kernel) (by rw [h1, hsz]; rfl) ?_⟩
    rw [h3, hb2]
    decide +kernel
theorem ver_two {m : List Nat} {v : Int} (h : VerTells (val kn0) (val ke0) m two64 v) : v = 82 := by
  obtain ⟨k, b, h1, rfl⟩ := h
  obtain ⟨rfl, rfl⟩ := raise_two h1
  rw [if_pos rfl, if_neg]
  intro h2
  have h3 := congrArg (fun l : List Nat => l.getD 1 0) h2
  have h4 : eight64.getD 1 0 = 0 := by decide
  have h5 : (encL (shaN m) (szN (val kn0))).getD 1 0 = 1 := rfl
  simp only [h4, h5] at h3
  omega
def zeros (n : Nat) : List Nat := List.replicate n 0
theorem make_n (n : Nat) (hn : n ≤ 1000000) (W : World) : (Instr.makeSlice 25 (.int .i64 (n : Nat)) (.int .i64 (n : Nat))).run Tryd.prog W = .ok (.slice (some ⟨W.heap.size, 0, none⟩) n n) (W.alloc (.cells (u8s (zeros n)).toArray 5)) := by
  obtain ⟨i, hi, hz, hsz, hb⟩ := info_parts info8
  have e : madeCells (Value.int .u8 0).cells (n * 1) = (u8s (zeros n)).toArray := by
    apply Array.ext'
    rw [Nat.mul_one, show (Value.int .u8 0).cells = #[.int .u8 0] from rfl, toList_madeCells_one, u8s, zeros, List.map_replicate]
    rfl
  rw [run_make (P := Tryd.prog) W 25 5 i (.int .u8 0) Tryd.underlying25 hi hz .i64 .i64 n n (by omega) (by omega) (by rw [hb]; omega) (by omega), hsz, Int.toNat_natCast, e]
theorem make_64 (W : World) : (Instr.makeSlice 25 (.int .i64 64) (.int .i64 64)).run Tryd.prog W = .ok (.slice (some ⟨W.heap.size, 0, none⟩) 64 64) (W.alloc (.cells (u8s (zeros 64)).toArray 5)) := make_n 64 (by decide) W
def seven20 : List Nat := 7 :: List.replicate 19 0
set_option maxHeartbeats 800000 in
set_option maxRecDepth 100000 in
theorem works8_any (w : World) (hT : Trig w) (hF : Five w) :
    Calls Tryd.prog 8 #[] w fun e w' => e = .returned (.bool true) ∧ Below w.heap.size w w' := by
  have HT := Lib.hid (fun (W : World) (h : Below w.heap.size w W) => And.intro (hT.below h) (hF.below h))
  clear hT hF
  go_enter Tryd.func8, Tryd.ntmps8
  go_wp2_with fail
  refine (r8keys _).mono ?_
  rintro e w1 ⟨hb, a, b, c, d, p, q, x, y, rfl, hks⟩
  obtain ⟨vN, vE, oN, oE, hix⟩ := pick4K hks 0 (by decide)
  have hix : ∀ W : World, (Instr.index 47 (.agg #[a, b, c, d, p, q, x, y]) (.int .i64 0)).run Tryd.prog W = .ok (.agg #[vN, vE]) W := hix
  have rN := own_raw oN (kn_bd 0 (by decide)).1.1 (by decide)
  have rE := own_raw oE (kn_bd 0 (by decide)).2.1 (by decide)
  obtain ⟨aN, lN, cN, rfl⟩ := rN.sl
  obtain ⟨aE, lE, cE, rfl⟩ := rE.sl
  have HN := Lib.hid (And.intro rN rE)
  have HB := Lib.hid hb
  clear hb hks rN rE oN oE
  have hmk := make_64
  have hk0 := KeyAt.new HN.out.1 HN.out.2
  obtain ⟨g, hg⟩ : ∃ g, g = w1.heap.size := ⟨_, rfl⟩
  rw [← hg] at hk0
  have HGB : Hid (w.heap.size ≤ g) := by show _ ≤ _; rw [hg]; exact HB.out.size
  go_upto_region 3 with fail
  rw [← hg]
  have hb2 : Below w1.heap.size w1 (w1.alloc (KB (.slice aN lN cN) (.slice aE lE cE))) := (Below.refl _ _).alloc (Nat.le_refl _) _
  have hgs : (w1.alloc (KB (.slice aN lN cN) (.slice aE lE cE))).heap.size = g + 1 := by simp [hg]
  have HB := Lib.hid (HB.out.trans (hb2.mono HB.out.size))
  generalize w1.alloc (KB (.slice aN lN cN) (.slice aE lE cE)) = w2 at *
  have hcb := CB.new w2 5 (u8s (zeros 64))
  have h23 := (Below.refl w2.heap.size w2).alloc (Nat.le_refl _) (.cells (u8s (zeros 64)).toArray 5)
  have HB := Lib.hid (HB.out.alloc HB.out.size (.cells (u8s (zeros 64)).toArray 5))
  rw [hgs] at hcb
  have hlt := hcb.lt
  generalize w2.alloc (.cells (u8s (zeros 64)).toArray 5) = w3 at *
  have hcell : w3.cell? ⟨g + 1, 63, none⟩ = some (.int .u8 0) := by rw [hcb.cell]; rfl
  have hfree := hcb.free 63
  have HCB := Lib.hid hcb
  have HK2 := Lib.hid (And.intro hk0 (And.intro hgs h23))
  clear hmk hk0 hcb hgs hb2 HN hg h23
  go_upto_region 4 with fail
  have hcs := HCB.out.set 63 (.int .u8 2)
  have hset : (u8s (zeros 64)).set 63 (.int .u8 2) = u8s two64 := rfl
  rw [hset] at hcs
  have HK : Hid (KeyAt (w3.setCell ⟨g + 1, 63, none⟩ (.int .u8 2)) g (.slice aN lN cN) (.slice aE lE cE) (val (knL 0)) (val (keL 0))) :=
    HK2.out.1.below (HK2.out.2.2.setCell (p := ⟨g + 1, 63, none⟩) (by rw [HK2.out.2.1]; exact Nat.le_refl _) _)
  have HB := Lib.hid (HB.out.setCell (p := ⟨g + 1, 63, none⟩) (by have := HGB.out; show _ ≤ g + 1; omega) (.int .u8 2))
  clear hcell hfree hset HCB hlt hix HK2
  generalize w3.setCell ⟨g + 1, 63, none⟩ (.int .u8 2) = w4 at *
  have HS : Hid (Raw8 w4 (.slice (some ⟨g + 1, 0, none⟩) 64 64) two64) := ⟨_, 64, rfl, by decide, (fun h => by cases h), rd_cb8 hcs, by unfold B8; decide⟩
  have hc0 := HK.out.c0
  have hc1 := HK.out.c1
  clear hcs
  go_wp2_with fail
  refine (p_raise (HT.out _ HB.out).1 HK.out.rN HK.out.rE HS.out (by decide)).mono ?_
  rintro e w5 ⟨hb, v5, k5, b5, rfl, ho5, hQ⟩
  obtain ⟨rfl, rfl⟩ := raise_two hQ
  obtain ⟨a5, c5, rfl, -, -, hr5⟩ := own8_form ho5
  have HK := Lib.hid (HK.out.below hb)
  have HS := Lib.hid (HS.out.below hb)
  have HR5 := Lib.hid hr5
  have HB := Lib.hid (HB.out.trans (hb.mono HB.out.size))
  have hl5 : eight64.length = 64 := by decide
  rw [hl5]
  clear hb ho5 hQ hr5 hc0 hc1 hl5
  go_wp2_with fail
  refine (p_encoded seven20 46 _ rfl (by unfold B8; decide) (by decide) (by decide)).mono ?_
  rintro e w6 ⟨hb, v6, k6, b6, rfl, hE, ho6⟩
  obtain ⟨rfl, hb6⟩ : k6 = 0 ∧ b6 = encL seven20 46 := by
    rcases hE with ⟨h, _⟩ | ⟨_, _, h1, h2⟩
    · omega
    · exact ⟨h1, h2⟩
  obtain ⟨a6, c6, rfl, -, -, hr6⟩ := own8_form ho6
  have hl6 : b6.length = 46 := by rw [hb6]; rfl
  rw [hl6]
  have HK := Lib.hid (HK.out.below hb)
  have HS := Lib.hid (HS.out.below hb)
  have hr5 := HR5.out.below hb
  have HB := Lib.hid (HB.out.trans (hb.mono HB.out.size))
  obtain ⟨q5, o5, rfl⟩ := hr5.isAt (by decide)
  obtain ⟨q6, o6, rfl⟩ := hr6.isAt (by omega)
  have x63 : w6.cell? ⟨q5, o5 + 63, none⟩ = some (.int .u8 8) := hr5.cell (i := 63) (by decide)
  have x62 : w6.cell? ⟨q5, o5 + 62, none⟩ = some (.int .u8 0) := hr5.cell (i := 62) (by decide)
  have y0 : w6.cell? ⟨q6, o6, none⟩ = some (.int .u8 0) := by have h := hr6.cell (i := 0) (by omega); rw [hb6] at h; exact h
  have y1 : w6.cell? ⟨q6, o6 + 1, none⟩ = some (.int .u8 1) := by have h := hr6.cell (i := 1) (by omega); rw [hb6] at h; exact h
  have y9 : w6.cell? ⟨q6, o6 + 9, none⟩ = some (.int .u8 255) := by have h := hr6.cell (i := 9) (by omega); rw [hb6] at h; exact h
  have y10 : w6.cell? ⟨q6, o6 + 10, none⟩ = some (.int .u8 0) := by have h := hr6.cell (i := 10) (by omega); rw [hb6] at h; exact h
  have y11 : w6.cell? ⟨q6, o6 + 11, none⟩ = some (.int .u8 48) := by have h := hr6.cell (i := 11) (by omega); rw [hb6] at h; exact h
  have y26 : w6.cell? ⟨q6, o6 + 26, none⟩ = some (.int .u8 7) := by have h := hr6.cell (i := 26) (by omega); rw [hb6] at h; exact h
  have hc0 := HK.out.c0
  have hc1 := HK.out.c1
  clear hb ho6 hE hr5 hr6 HR5 hb6 hl6
  go_wp2_with fail
  refine (p_size HK.out.rN ⟨_, _, _, rfl⟩).mono ?_
  rw [show szN (val (knL 0)) = 64 by decide +kernel]
  rintro e w7 ⟨hb, rfl⟩
  have HK := Lib.hid (HK.out.below hb)
  have HS := Lib.hid (HS.out.below hb)
  have HB := Lib.hid (HB.out.trans (hb.mono HB.out.size))
  clear hb hc0 hc1 x63 x62 y0 y1 y9 y10 y11 y26
  go_wp2_with fail
  have hb1 : Below w7.heap.size w7 (w7.alloc (.cells #[.int .u64 15] 49)) := (Below.refl _ _).alloc (Nat.le_refl _) _
  have hb2 : Below w7.heap.size w7 ((w7.alloc (.cells #[.int .u64 15] 49)).alloc (.cells #[.int .u64 3] 49)) := hb1.alloc hb1.size _
  have r15 : Raw ((w7.alloc (.cells #[.int .u64 15] 49)).alloc (.cells #[.int .u64 3] 49)) (.slice (some ⟨w7.heap.size, 0, none⟩) 1 1) 15 := (raw_lit w7 15 (by decide)).below ((Below.refl _ _).alloc (Nat.le_refl _) _)
  have r3 : Raw ((w7.alloc (.cells #[.int .u64 15] 49)).alloc (.cells #[.int .u64 3] 49)) (.slice (some ⟨w7.heap.size + 1, 0, none⟩) 1 1) 3 := by
    have h := raw_lit (w7.alloc (.cells #[.int .u64 15] 49)) 3 (by decide)
    rw [show (w7.alloc (.cells #[.int .u64 15] 49)).heap.size = w7.heap.size + 1 by simp] at h
    exact h
  have HB2 := Lib.hid hb2
  refine (p_check r15 r3).mono ?_
  clear r15 r3 hb1 hb2
  rintro e w8 ⟨hb, hor⟩
  obtain rfl : e = .returned (.int .i64 80) := by
    rcases hor with ⟨h, _⟩ | ⟨_, h⟩
    · exact absurd h (by decide +kernel)
    · exact h
  have hb9 := HB2.out.trans (hb.mono HB2.out.size)
  have HK := Lib.hid (HK.out.below hb9)
  have HS := Lib.hid (HS.out.below hb9)
  have HB := Lib.hid (HB.out.trans (hb9.mono HB.out.size))
  clear hb hb9 hor HB2
  have hc0 := HK.out.c0
  have hc1 := HK.out.c1
  go_wp2_with fail
  refine (p_verify (m := []) (s := two64) (HT.out _ HB.out).1 (HT.out _ HB.out).2 HK.out.rN HK.out.rE (raw8_nil _) HS.out (by decide) (by decide)).mono ?_
  rintro e w9 ⟨hb, v, rfl, hV⟩
  obtain rfl := ver_two hV
  have HB := Lib.hid (HB.out.trans (hb.mono HB.out.size))
  clear hb hV hc0 hc1
  go_wp2
  go_ret
  exact ⟨rfl, HB.out⟩
end Go.Proofs.YtclbjmanmkoikaaDoor
