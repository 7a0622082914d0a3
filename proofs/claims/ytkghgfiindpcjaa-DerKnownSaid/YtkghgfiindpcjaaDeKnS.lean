import Derived.Test.YtkghgfiindpcjaaDeKnO
namespace Go.Proofs.Ytkghgfiindpcjaa
open Go.RowKit
/-! DerKnown: spoilt. -/
def lit11 : List (List Nat) := [[48, 0], [48, 2, 2, 0], [48, 3, 2, 1, 5], [48, 5, 2, 1, 5, 2, 0], [48, 6, 2, 1, 5, 3, 1, 3], [48, 8, 2, 1, 5, 2, 1, 3, 5, 0], [48, 4, 48, 2, 2, 0], [48, 6, 2, 1, 133, 2, 1, 3], [48, 6, 2, 4, 5, 2, 1, 3], [48, 6, 2, 5, 5, 2, 1, 3], [48, 6, 3, 9, 5, 2, 1, 3]]
def cs14 : List Nat := [0, 1, 2, 3, 5, 48, 49, 127, 128, 129, 130, 132, 133, 255]
theorem cs14_b (i : Nat) (h : i < cs14.length) : cs14[i] < 256 := by
  have : cs14.all (fun x => decide (x < 256)) = true := by decide
  simpa using List.all_eq_true.1 this cs14[i] (List.getElem_mem h)
theorem u8s_at2 (l : List Nat) (i : Nat) (h : i < l.length) : (u8s l)[i]? = some (.int .u8 (l[i] : Nat)) := by simp [u8s, h]
/-- Keys one behind the other. -/
def KeysAt (W : World) (g n : Nat) : Prop := ∀ i, i < n → ∃ a1 l1 c1 a2 l2 c2, W.cell? ⟨g, i * 2, none⟩ = some (.slice a1 l1 c1) ∧ W.cell? ⟨g, i * 2 + 1, none⟩ = some (.slice a2 l2 c2) ∧ Lst W (.slice a1 l1 c1) ∧ Lst W (.slice a2 l2 c2) ∧ l1 ≤ 64 ∧ l2 ≤ 64
theorem KeysAt.below {w w' : World} {g n : Nat} (h : KeysAt w g n) (hb : Below w.heap.size w w') : KeysAt w' g n := fun i hi => by
  obtain ⟨a1, l1, c1, a2, l2, c2, h1, h2, h3, h4, h5⟩ := h i hi
  exact ⟨a1, l1, c1, a2, l2, c2, below_cell hb _ _ h1, below_cell hb _ _ h2, h3.below hb, h4.below hb, h5⟩
theorem cut_form (ab ao c f : Nat) : cutA (some ⟨ab, ao, none⟩) c f = if c = f then some ⟨ab, ao, none⟩ else some ⟨ab, ao + f, none⟩ := by unfold cutA; split <;> simp [Addr.add]
theorem limK64 {xs : List Nat} (bx : Bd xs) (h : xs.length ≤ 64) : val xs < 2 ^ 4096 := by
  rw [lim64]
  exact Nat.lt_of_lt_of_le (val_lt bx) (Nat.pow_le_pow_right (by decide) h)
theorem lst_open {w : World} {a : Option Addr} {l c : Nat} (h : Lst w (.slice a l c)) : ∃ xs, xs.length = l ∧ l ≤ 1048576 ∧ Rd .u64 w a xs ∧ Bd xs := by
  obtain ⟨b1, m1, d1, xs1, e, p2, p3, p4, p5, p6, p7⟩ := h
  injection e with e1 e2 e3
  subst e1 e2 e3
  exact ⟨xs1, p2, p5, p6, p7⟩
set_option maxHeartbeats 8000000 in
set_option maxRecDepth 100000 in
theorem spoilt7_any (w : World) : Calls Try.prog 35 #[] w fun e w' => e = .returned (.bool true) ∧ Below w.heap.size w w' := by
  have h5 := lst_1 w 5 5 _ rfl (by decide) rfl
  have h3 := lst_1 (w.alloc (.cells #[.int .u64 5] 56)) 3 3 (w.heap.size + 1) rfl (by decide) (by simp)
  have h8 := lst_1 ((w.alloc (.cells #[.int .u64 5] 56)).alloc (.cells #[.int .u64 3] 56)) 128 128 (w.heap.size + 2) rfl (by decide) (by simp)
  have bb1 : Below w.heap.size w (w.alloc (.cells #[.int .u64 5] 56)) := (Below.refl _ _).alloc (Nat.le_refl _) _
  have bb2 : Below (w.alloc (.cells #[.int .u64 5] 56)).heap.size (w.alloc (.cells #[.int .u64 5] 56)) ((w.alloc (.cells #[.int .u64 5] 56)).alloc (.cells #[.int .u64 3] 56)) := (Below.refl _ _).alloc (Nat.le_refl _) _
  have bb3 : Below ((w.alloc (.cells #[.int .u64 5] 56)).alloc (.cells #[.int .u64 3] 56)).heap.size ((w.alloc (.cells #[.int .u64 5] 56)).alloc (.cells #[.int .u64 3] 56)) (((w.alloc (.cells #[.int .u64 5] 56)).alloc (.cells #[.int .u64 3] 56)).alloc (.cells #[.int .u64 128] 56)) := (Below.refl _ _).alloc (Nat.le_refl _) _
  have H5 := Lib.hid ((h5.below bb2).below bb3)
  have H3 := Lib.hid (h3.below bb3)
  have H8 := Lib.hid h8
  have HB := Lib.hid ((bb1.trans (bb2.mono bb1.size)).trans (bb3.mono (bb1.trans (bb2.mono bb1.size)).size))
  clear h5 h3 h8 bb1 bb2 bb3
  go_enter Try.func35, Try.ntmps35
  go_wp2_with fail
  refine (one7_any _ 1023 false _ rfl (by decide)).mono ?_
  rintro e w2 ⟨a2, l2, c2, rfl, hl2, hL, hb⟩
  have HL := Lib.hid hL
  have H5 := Lib.hid (H5.out.below hb)
  have H3 := Lib.hid (H3.out.below hb)
  have H8 := Lib.hid (H8.out.below hb)
  have HB := Lib.hid (HB.out.trans (hb.mono HB.out.size))
  clear hb
  clear hL
  have b1 : Below w2.heap.size w2 (w2.alloc (.cells #[.int .u64 65537] 56)) := (Below.refl _ _).alloc (Nat.le_refl _) _
  have b2 : Below (w2.alloc (.cells #[.int .u64 65537] 56)).heap.size (w2.alloc (.cells #[.int .u64 65537] 56)) ((w2.alloc (.cells #[.int .u64 65537] 56)).alloc (.cells #[.slice (some ⟨w.heap.size, 0, none⟩) 1 1, .slice (some ⟨w.heap.size + 1, 0, none⟩) 1 1, .slice (some ⟨w.heap.size + 2, 0, none⟩) 1 1, .slice none 0 0, .slice a2 l2 c2, .slice (some ⟨w2.heap.size, 0, none⟩) 1 1] 40)) := (Below.refl _ _).alloc (Nat.le_refl _) _
  have h6 := (lst_1 w2 65537 65537 _ rfl (by decide) rfl).below b2
  have hcl : CL ((w2.alloc (.cells #[.int .u64 65537] 56)).alloc (.cells #[.slice (some ⟨w.heap.size, 0, none⟩) 1 1, .slice (some ⟨w.heap.size + 1, 0, none⟩) 1 1, .slice (some ⟨w.heap.size + 2, 0, none⟩) 1 1, .slice none 0 0, .slice a2 l2 c2, .slice (some ⟨w2.heap.size, 0, none⟩) 1 1] 40)) 40 (w2.heap.size + 1) (#[.slice (some ⟨w.heap.size, 0, none⟩) 1 1, .slice (some ⟨w.heap.size + 1, 0, none⟩) 1 1, .slice (some ⟨w.heap.size + 2, 0, none⟩) 1 1, .slice none 0 0, .slice a2 l2 c2, .slice (some ⟨w2.heap.size, 0, none⟩) 1 1]).toList := by
    have := CL.new (w2.alloc (.cells #[.int .u64 65537] 56)) 40 (#[.slice (some ⟨w.heap.size, 0, none⟩) 1 1, .slice (some ⟨w.heap.size + 1, 0, none⟩) 1 1, .slice (some ⟨w.heap.size + 2, 0, none⟩) 1 1, .slice none 0 0, .slice a2 l2 c2, .slice (some ⟨w2.heap.size, 0, none⟩) 1 1]).toList
    simpa using this
  have HKY : Hid (KeysAt ((w2.alloc (.cells #[.int .u64 65537] 56)).alloc (.cells #[.slice (some ⟨w.heap.size, 0, none⟩) 1 1, .slice (some ⟨w.heap.size + 1, 0, none⟩) 1 1, .slice (some ⟨w.heap.size + 2, 0, none⟩) 1 1, .slice none 0 0, .slice a2 l2 c2, .slice (some ⟨w2.heap.size, 0, none⟩) 1 1] 40)) (w2.heap.size + 1) 3) := by
    intro i hi
    rcases (show i = 0 ∨ i = 1 ∨ i = 2 by omega) with rfl | rfl | rfl
    · exact ⟨_, _, _, _, _, _, by rw [hcl.cell]; rfl, by rw [hcl.cell]; rfl, (H5.out.below b1).below b2, (H3.out.below b1).below b2, by decide, by decide⟩
    · exact ⟨_, _, _, _, _, _, by rw [hcl.cell]; rfl, by rw [hcl.cell]; rfl, (H8.out.below b1).below b2, lst_nil _, by decide, by decide⟩
    · exact ⟨_, _, _, _, _, _, by rw [hcl.cell]; rfl, by rw [hcl.cell]; rfl, (HL.out.below b1).below b2, h6, by omega, by decide⟩
  have HB := Lib.hid (HB.out.trans ((b1.trans (b2.mono b1.size)).mono HB.out.size))
  clear b1 b2 h6 hcl H5 H3 H8 HL hl2
  go_wp2
  generalize hg : w2.heap.size + 1 = gk at *
  go_loopw [22] (fun iv wr => ∃ i : Nat, i ≤ 3 ∧ iv = .int .i64 (i : Nat) ∧ Hid (KeysAt wr gk 3) ∧ Hid (Below w.heap.size w wr)) (fun iv _ => 3 - (intOf iv).toNat)
  case atStart => exact ⟨0, Nat.zero_le _, rfl, HKY.out, HB.out⟩
  case round =>
    clear HKY HB
    obtain ⟨i, hi, rfl, HKY, HB⟩ := hrel
    by_cases hin : i < 3
    · have hq1 : decide ((i : Int) < 3) = true := decide_eq_true (by omega)
      obtain ⟨a1, l1, c1, a2, l2, c2, hk0, hk1, hL1, hL2, hs1, hs2⟩ := HKY.out i hin
      have hk0' : wr.cell? ⟨gk, 2 * i, none⟩ = some (.slice a1 l1 c1) := by rw [Nat.mul_comm]; exact hk0
      have hk1' : wr.cell? ⟨gk, 2 * i + 1, none⟩ = some (.slice a2 l2 c2) := by rw [Nat.mul_comm]; exact hk1
      have HL1 := Lib.hid hL1
      have HL2 := Lib.hid hL2
      clear hL1 hL2
      go_wp2_with fail
      obtain ⟨Ns, hlN, hbN, hrN, bxN⟩ := lst_open HL1.out
      obtain ⟨Es, hlE, hbE, hrE, bxE⟩ := lst_open HL2.out
      have hal : Below wr.heap.size wr (wr.alloc (.cells #[.slice a1 l1 c1, .slice a2 l2 c2] 40)) := (Below.refl _ _).alloc (Nat.le_refl _) _
      have HKY := Lib.hid (HKY.out.below hal)
      have HB := Lib.hid (HB.out.trans (hal.mono HB.out.size))
      refine (rencode_any a1 l1 c1 Ns a2 l2 c2 Es _ hlN hbN (hrN.below hal) bxN hlE hbE (hrE.below hal) bxE).mono ?_
      have HV : Hid (val Ns < 2 ^ 4096 ∧ val Es < 2 ^ 4096) := ⟨limK64 bxN (by omega), limK64 bxE (by omega)⟩
      clear hal hlN hbN hrN bxN hlE hbE hrE bxE HL1 HL2 hs1 hs2
      rintro e w3 ⟨hb, a, c, kk, b, rfl, ho, hT⟩
      have hb8 : B8 b ∧ 0 < b.length ∧ b.length ≤ 1046 := by
        rcases hT with ⟨h1, h2, _, h3⟩ | ⟨h1, _, _⟩
        · exact ⟨h3.b8, h3.len h1 h2⟩
        · exact absurd HV.out h1
      obtain ⟨ax, cx, e, hcx, hrx, hnx, hcm⟩ := own8_open ho
      injection e with e1 e2 e3
      subst e1 e3
      obtain ⟨ab, ao, ea⟩ := hrx.isAt hb8.2.1
      subst ea
      obtain ⟨n, hn⟩ : ∃ n, n = b.length := ⟨_, rfl⟩
      have HRB := Lib.hid hrx
      have HN := Lib.hid hn
      have HB8 := Lib.hid hb8.1
      have hn1 : n ≤ 1046 := by omega
      rw [← hn] at hcx ⊢
      have HKY := Lib.hid (HKY.out.below hb)
      have HB := Lib.hid (HB.out.trans (hb.mono HB.out.size))
      clear hb
      have hn0 : 0 < n := by omega
      clear ho hT hb8 hrx hnx hn hk0 hk1 hk0' hk1'
      go_wp2
      go_loopw [5] (fun iv wr => ∃ k : Nat, k ≤ n + 1 ∧ iv = .int .i64 (k : Nat) ∧ Hid (Rd .u8 wr (some ⟨ab, ao, none⟩) b) ∧ Hid (KeysAt wr gk 3) ∧ Hid (Below w.heap.size w wr)) (fun iv _ => n + 1 - (intOf iv).toNat)
      case atStart => exact ⟨0, Nat.zero_le _, rfl, HRB.out, HKY.out, HB.out⟩
      case round =>
        clear HRB HKY HB
        obtain ⟨k, hk, rfl, HRB, HKY, HB⟩ := hrel
        by_cases hkn : k ≤ n
        · have hq2 : decide ((k : Int) ≤ (n : Int)) = true := decide_eq_true (by omega)
          have hw8 : IntKind.i64.wrap ((n : Int) - 8) = (n : Int) - 8 := IntWalk.i64_in _ (by omega)
          have hor : (decide ((12 : Int) < (k : Int)) = true ∧ decide ((k : Int) < (n : Int) - 8) = true) ∨ (decide ((12 : Int) < (k : Int)) = true ∧ decide ((k : Int) < (n : Int) - 8) = false) ∨ decide ((12 : Int) < (k : Int)) = false := by
            by_cases g1 : 12 < k
            · by_cases g2 : k + 8 < n
              · exact .inl ⟨decide_eq_true (by omega), decide_eq_true (by omega)⟩
              · exact .inr (.inl ⟨decide_eq_true (by omega), decide_eq_false (by omega)⟩)
            · exact .inr (.inr (decide_eq_false (by omega)))
          obtain ⟨p, hp⟩ : ∃ p, p = min (k + 1) n := ⟨_, rfl⟩
          have hp1 : min ((k : Int) + 1) (n : Int) = (p : Int) := by omega
          have hpn : p ≤ n := by omega
          clear hp
          have q1 : (0 : Int) ≤ (k : Int) := by omega
          have q2 : (k : Int) ≤ (c : Int) := by omega
          have q3 : (k : Int) ≤ (n : Int) := by omega
          have q4 : (0 : Int) ≤ (p : Int) := by omega
          have q5 : (p : Int) ≤ (n : Int) := by omega
          rcases hor with ⟨g1, g2⟩ | ⟨g1, g2⟩ | g1
          · clear hw8
            go_wp2
            go_roundw
            case rel => exact ⟨k + 1, by omega, by go_num, HRB.out, HKY.out, HB.out⟩
            case measure => simp [intOf]; omega
          all_goals
            go_wp2_with fail
            have hbk : BR _ (some ⟨ab, ao, none⟩) k c := ⟨b.take k, by rw [List.length_take, ← HN.out]; exact Nat.min_eq_left hkn, by omega, by omega, (fun h => by cases h), fun x hx => HB8.out x (List.mem_of_mem_take hx), HRB.out.take k⟩
            refine hbk.reads.mono ?_
            clear hbk
            rintro e w4 ⟨rfl, hb⟩
            have HRB := Lib.hid (HRB.out.below hb)
            have HKY := Lib.hid (HKY.out.below hb)
            have HB := Lib.hid (HB.out.trans (hb.mono HB.out.size))
            clear hb
            go_wp2_with fail
            have hbk : BR _ (some ⟨ab, ao, none⟩) n c := ⟨b, HN.out.symm, hcx, by omega, (fun h => by cases h), HB8.out, HRB.out⟩
            refine (hbk.items (k : Nat) (by omega) (by omega)).mono ?_
            clear hbk
            rintro e w5 ⟨rfl, hb⟩
            have HRB := Lib.hid (HRB.out.below hb)
            have HKY := Lib.hid (HKY.out.below hb)
            have HB := Lib.hid (HB.out.trans (hb.mono HB.out.size))
            clear hb
            have HC : Hid (CL (w5.alloc (.cells (u8s cs14).toArray 5)) 5 w5.heap.size (u8s cs14)) := CL.new w5 _ _
            have hal : Below w5.heap.size w5 (w5.alloc (.cells (u8s cs14).toArray 5)) := (Below.refl _ _).alloc (Nat.le_refl _) _
            have HRB := Lib.hid (HRB.out.below hal)
            have HKY := Lib.hid (HKY.out.below hal)
            have HB := Lib.hid (HB.out.trans (hal.mono HB.out.size))
            clear hal
            go_wp2
            generalize hg3 : w5.heap.size = g3 at *
            clear hg3
            go_loopw [59] (fun jv wr => ∃ j : Nat, j ≤ 14 ∧ jv = .int .i64 (j : Nat) ∧ Hid (CL wr 5 g3 (u8s cs14)) ∧ Hid (Rd .u8 wr (some ⟨ab, ao, none⟩) b) ∧ Hid (KeysAt wr gk 3) ∧ Hid (Below w.heap.size w wr)) (fun jv _ => 14 - (intOf jv).toNat)
            case atStart => exact ⟨0, Nat.zero_le _, rfl, HC.out, HRB.out, HKY.out, HB.out⟩
            case round =>
              clear HC HRB HKY HB
              obtain ⟨j, hj, rfl, HC, HRB, HKY, HB⟩ := hrel
              obtain ⟨wr2, hwr2⟩ : ∃ W, W = wr := ⟨_, rfl⟩
              rw [← hwr2] at HC HRB HKY HB ⊢
              clear hwr2
              by_cases hjn : j < 14
              · have hcl : wr2.cell? ⟨g3, j, none⟩ = some (.int .u8 (cs14[j] : Nat)) := by rw [HC.out.cell]; exact u8s_at2 _ _ hjn
                have hxb := cs14_b j hjn
                generalize cs14[j] = x at hcl hxb
                have hz1 : (b.take k).length = k := by rw [List.length_take, ← HN.out]; exact Nat.min_eq_left hkn
                have hz2 : (b.drop k).length = n - k := by rw [List.length_drop, ← HN.out]
                have hz3 : (b.drop p).length = n - p := by rw [List.length_drop, ← HN.out]
                have HZ1 := Lib.hid hz1
                have HZ2 := Lib.hid hz2
                have HZ3 := Lib.hid hz3
                have HX := Lib.hid hxb
                obtain ⟨q1x, hiq1x⟩ : ∃ q : Option Addr, (if c = k then some (⟨ab, ao, none⟩ : Addr) else some ⟨ab, ao + k, none⟩) = q := ⟨_, rfl⟩
                have hnq1x : q1x ≠ none := by rw [← hiq1x]; split <;> simp
                have HNq1x := Lib.hid hnq1x
                clear hnq1x
                obtain ⟨q2x, hiq2x⟩ : ∃ q : Option Addr, (if c = p then some (⟨ab, ao, none⟩ : Addr) else some ⟨ab, ao + p, none⟩) = q := ⟨_, rfl⟩
                have hnq2x : q2x ≠ none := by rw [← hiq2x]; split <;> simp
                have HNq2x := Lib.hid hnq2x
                clear hnq2x
                have hr2 := fun (W : World) (h : Rd .u8 W (some ⟨ab, ao, none⟩) b) => (show Rd .u8 W q1x ((b.take n).drop k) from by rw [← hiq1x, ← cut_form]; exact cutA_rd h HN.out.symm hcx hkn (Nat.le_refl n))
                have hr3 := fun (W : World) (h : Rd .u8 W (some ⟨ab, ao, none⟩) b) => (show Rd .u8 W q2x ((b.take n).drop p) from by rw [← hiq2x, ← cut_form]; exact cutA_rd h HN.out.symm hcx hpn (Nat.le_refl n))
                have htk : b.take n = b := by rw [HN.out, List.take_length]
                rw [htk] at hr2 hr3
                have HR2 := Lib.hid hr2
                have HR3 := Lib.hid hr3
                clear hz1 hz2 hz3 hxb hr2 hr3 htk
                obtain ⟨m, hm⟩ : ∃ m, m = 0 + k + 1 := ⟨_, rfl⟩
                obtain ⟨bx, hbx⟩ : ∃ bx, bx = b.take k ++ [x] := ⟨_, rfl⟩
                have HBX : Hid (bx.length = m ∧ B8 bx ∧ u8s bx = [] ++ u8s (b.take k) ++ u8s [x]) := by
                  refine ⟨by rw [hbx, List.length_append, HZ1.out]; simp; omega, ?_, by rw [hbx]; simp [u8s]⟩
                  rw [hbx]
                  intro z hz
                  rcases List.mem_append.1 hz with hz | hz
                  · exact HB8.out z (List.mem_of_mem_take hz)
                  · simp at hz; have := HX.out; omega
                have HM := Lib.hid hm
                have hbl := HBX.out.1
                have hmb : m ≤ 2000 := by omega
                clear hbx hm
                go_wp2_with (first
                  | (at_builtin; refine wpl_appN 22 5 Try.underlying22 info8 rfl (by decide) rfl _ _ rfl wr2.heap.size (.slice none 0 0) 0 [] rfl (World.ownsRow_nil _ _ _ _) (some ⟨ab, ao, none⟩) k c rfl (u8s (b.take k)) (by rw [u8s_len, HZ1.out]) (fun h => (HRB.out.take k).news (by rw [HZ1.out]; exact h)) (fun _ h => by cases h) (u8s_one8 _) (by omega) (Nat.le_refl _) ?_; intro vA wA hown hg _ _; have HGA := Lib.hid ((Below.refl wr2.heap.size wr2).grown hg (Nat.le_refl _) (fun q hq => by cases hq)); have HOA := Lib.hid hown; clear hown hg)
                  | (at_builtin; refine wpl_appN 22 5 Try.underlying22 info8 rfl (by decide) rfl _ _ rfl wr2.heap.size vA (0 + k) ([] ++ u8s (b.take k)) rfl (HOA.out.alloc _) (some ⟨wA.heap.size, 0, none⟩) 1 1 rfl (u8s [x]) rfl (fun _ => (rd_lit8 (w := wA) 5 [x] #[.int .u8 (x : Nat)] rfl).news (by simp)) (fun h => by cases h) (u8s_one8 _) (by omega) (by have := HGA.out.size; simp; omega) ?_; intro vB wB hown hg _ _; have HGB := Lib.hid ((HGA.out.alloc HGA.out.size _).grown hg (by have := HGA.out.size; simp; omega) (fun q hq => (World.ownsRow.lt HOA.out q hq).1)); have hob := own8_of hown (HM.out.symm.trans HBX.out.1.symm) HBX.out.2.2.symm; obtain ⟨aB, cB, hvB, -, hrB, hnB, -⟩ := own8_open hob; rw [HBX.out.1] at hvB; subst hvB; have HOB := Lib.hid hob; have HRBx := Lib.hid hrB; have HNB := Lib.hid hnB; clear hown hg hob hrB hnB)
                  | (at_builtin; refine wpl_appN 22 5 Try.underlying22 info8 rfl (by decide) rfl _ _ rfl wB.heap.size (.slice none 0 0) 0 [] rfl (World.ownsRow_nil _ _ _ _) aB m cB rfl (u8s bx) (by rw [u8s_len, HBX.out.1]) (fun h => HRBx.out.news (by rw [HBX.out.1]; exact h)) (fun _ h => HNB.out h) (u8s_one8 _) (by omega) (Nat.le_refl _) ?_; intro vC wC hown hg _ _; have HGC := Lib.hid ((Below.refl wB.heap.size wB).grown hg (Nat.le_refl _) (fun q hq => by cases hq)); have HOC := Lib.hid hown; have HGC2 := Lib.hid (HGB.out.trans (HGC.out.mono HGB.out.size)); have HRB3 := Lib.hid (HRB.out.below HGC2.out); clear hown hg)
                  | (at_builtin; refine wpl_appN 22 5 Try.underlying22 info8 rfl (by decide) rfl _ _ rfl wr2.heap.size (.slice aB m cB) bx.length (u8s bx) rfl (HOB.out.under HGC.out) _ (n - k) (c - k) rfl (u8s (b.drop k)) (by rw [u8s_len, HZ2.out]) (fun h => (HR2.out _ HRB3.out).news (by rw [HZ2.out]; exact h)) (fun _ h => absurd h HNq1x.out) (u8s_one8 _) (by omega) HGC2.out.size ?_; intro vD wD hown hg hor _; have HGD := Lib.hid (HGC2.out.grown hg HGC2.out.size (fun q hq => (World.ownsRow.lt HOB.out q hq).1)); have HOC := Lib.hid (And.intro HOC.out ((Chg.of_grown hg).owns HOC.out (fun k hk he => by have h1 := World.ownsRow.lt HOC.out k hk; have h2 := World.ownsRow.lt HOB.out k he.symm; omega))); have HOD := Lib.hid hown; have HORD := Lib.hid hor.out; have HWD := Lib.hid (Nat.le_trans HGC.out.size hg.size); have HRB4 := Lib.hid (HRB.out.below HGD.out); clear hown hg hor)
                  | (at_builtin; refine wpl_appN 22 5 Try.underlying22 info8 rfl (by decide) rfl _ _ rfl wB.heap.size vC (0 + m) ([] ++ u8s bx) rfl HOC.out.2 _ (n - p) (c - p) rfl (u8s (b.drop p)) (by rw [u8s_len, HZ3.out]) (fun h => (HR3.out _ HRB4.out).news (by rw [HZ3.out]; exact h)) (fun _ h => absurd h HNq2x.out) (u8s_one8 _) (by omega) HWD.out ?_; intro vE wE hown hg _ _; have HOE := Lib.hid hown; have HGE := Lib.hid hg; clear hown hg))
                have hgE : Below wr2.heap.size wr2 wE := HGD.out.grown HGE.out HGD.out.size (fun q hq => by have h1 := (World.ownsRow.lt HOC.out.1 q hq).1; have := HGB.out.size; omega)
                have hoD : wE.ownsRow wr2.heap.size 5 1 vD (bx.length + (n - k)) (u8s bx ++ u8s (b.drop k)) := (Chg.of_grown HGE.out).owns HOD.out (fun q hq he => by
                  have h1 := World.ownsRow.lt HOC.out.1 q he.symm
                  rcases HORD.out q hq with h | h
                  · have h2 := World.ownsRow.lt HOB.out q h; omega
                  · omega)
                have lx : (bx ++ b.drop k).length = bx.length + (n - k) := by rw [List.length_append, HZ2.out]
                have ly : (bx ++ b.drop p).length = 0 + m + (n - p) := by rw [List.length_append, HZ3.out, HBX.out.1]; omega
                have ox : own8 wE wr2.heap.size vD (bx ++ b.drop k) := own8_of hoD lx.symm (by simp [u8s])
                have oy : own8 wE wB.heap.size vE (bx ++ b.drop p) := own8_of HOE.out ly.symm (by simp [u8s])
                obtain ⟨aD, cD, hvD, -, -, -, -⟩ := own8_open ox
                obtain ⟨aE, cE, hvE, -, -, -, -⟩ := own8_open oy
                rw [lx] at hvD
                rw [ly] at hvE
                subst hvD hvE
                have b8 : ∀ q, B8 (bx ++ b.drop q) := fun q z hz => by
                  rcases List.mem_append.1 hz with hz | hz
                  · exact HBX.out.2.1 z hz
                  · exact HB8.out z (List.mem_of_mem_drop hz)
                have HBX1 := Lib.hid (br_own ox lx (b8 k))
                have HBY1 := Lib.hid (br_own oy ly (b8 p))
                have HC := Lib.hid (HC.out.below hgE)
                have HRB := Lib.hid (HRB.out.below hgE)
                have HKY := Lib.hid (HKY.out.below hgE)
                have HB := Lib.hid (HB.out.trans (hgE.mono HB.out.size))
                clear ox oy lx ly b8 hoD hgE HOE HGE HORD HOD HOC HGD HGC HGC2 HGB HOB HGA HOA HRB3 HRB4 HRBx HNB HWD HBX HM hbl HR2 HR3
                generalize bx.length + (n - k) = lD at *
                generalize 0 + m + (n - p) = lE at *
                refine HBX1.out.reads.mono ?_
                rintro e w6 ⟨rfl, hb⟩
                have HC := Lib.hid (HC.out.below hb)
                have HRB := Lib.hid (HRB.out.below hb)
                have HKY := Lib.hid (HKY.out.below hb)
                have HBY1 := Lib.hid (HBY1.out.below hb)
                have HB := Lib.hid (HB.out.trans (hb.mono HB.out.size))
                clear hb
                clear HBX1
                go_wp2_with fail
                refine HBY1.out.reads.mono ?_
                rintro e w7 ⟨rfl, hb⟩
                have HC := Lib.hid (HC.out.below hb)
                have HRB := Lib.hid (HRB.out.below hb)
                have HKY := Lib.hid (HKY.out.below hb)
                have HBY1 := Lib.hid (HBY1.out.below hb)
                have HB := Lib.hid (HB.out.trans (hb.mono HB.out.size))
                clear hb
                go_wp2_with fail
                refine HBY1.out.once.mono ?_
                rintro e w8 ⟨rfl, hb⟩
                have HC := Lib.hid (HC.out.below hb)
                have HRB := Lib.hid (HRB.out.below hb)
                have HKY := Lib.hid (HKY.out.below hb)
                have HB := Lib.hid (HB.out.trans (hb.mono HB.out.size))
                clear hb
                clear HBY1
                go_wp2
                go_roundw
                case rel => exact ⟨j + 1, by omega, by go_num, HC.out, HRB.out, HKY.out, HB.out⟩
                case measure => simp [intOf]; omega
              · clear HC
                go_wp2
                go_roundw
                case rel => exact ⟨k + 1, by omega, by go_num, HRB.out, HKY.out, HB.out⟩
                case measure => simp [intOf]; omega
        · clear HRB
          go_wp2
          go_roundw
          case rel => exact ⟨i + 1, by omega, by go_num, HKY.out, HB.out⟩
          case measure => simp [intOf]; omega
    · have hq1 : decide ((i : Int) < 3) = false := decide_eq_false (by omega)
      have hl11 := lits_at lit11 wr (by decide)
      have HL0 := Lib.hid hl11.1
      have HB1 := Lib.hid (HB.out.trans (hl11.2.mono HB.out.size))
      clear hl11 HKY HB
      go_wp2
      generalize hg3 : wr.heap.size + 11 = g3 at *
      go_loopw [117] (fun kv wr3 => ∃ k : Nat, k ≤ 11 ∧ kv = .int .i64 (k : Nat) ∧ Hid (LitAt wr3 g3 11) ∧ Hid (Below w.heap.size w wr3)) (fun kv _ => 11 - (intOf kv).toNat)
      case atStart =>
        subst hg3
        exact ⟨0, Nat.zero_le _, rfl, HL0.out, HB1.out⟩
      case round =>
        clear HL0 HB1
        obtain ⟨k, hk, rfl, HL, HB⟩ := hrel
        by_cases hkn : k < 11
        · obtain ⟨a, l, xs, hcell, hl16, hxl, hx8, hna, hrx⟩ := HL.out.2 k hkn
          have HBR := Lib.hid (show BR _ a l l from ⟨xs, hxl, Nat.le_refl _, by omega, hna, hx8, hrx⟩)
          clear hxl hx8 hna hrx
          go_wp2_with fail
          refine HBR.out.reads.mono ?_
          rintro e w6 ⟨rfl, hb⟩
          have HL := Lib.hid (HL.out.below hb)
          have HBR := Lib.hid (HBR.out.below hb)
          have HB := Lib.hid (HB.out.trans (hb.mono HB.out.size))
          clear hb
          go_wp2_with fail
          refine HBR.out.once.mono ?_
          rintro e w7 ⟨rfl, hb⟩
          have HL := Lib.hid (HL.out.below hb)
          have HB := Lib.hid (HB.out.trans (hb.mono HB.out.size))
          clear hb
          clear HBR
          go_wp2
          go_roundw
          case rel => exact ⟨k + 1, by omega, by go_num, HL.out, HB.out⟩
          case measure => simp [intOf]; omega
        · clear HL
          go_wp2_with fail
          refine (works7_any _).mono ?_
          rintro e w6 ⟨rfl, hb⟩
          have HB := Lib.hid (HB.out.trans (hb.mono HB.out.size))
          clear hb
          go_wp2
          go_ret
          exact ⟨rfl, HB.out⟩
end Go.Proofs.Ytkghgfiindpcjaa
