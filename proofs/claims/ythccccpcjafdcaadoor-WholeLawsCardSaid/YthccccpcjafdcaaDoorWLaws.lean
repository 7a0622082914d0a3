import Derived.Test.YthccccpcjafdcaaDoorHeadW
import Derived.Test.YthccccpcjafdcaaDoorWPowS
namespace Go.Proofs.YthccccpcjafdcaaDoor
open Go.RowKit

theorem sg_p {z : Int} (h : 0 < z) : sg z = 1 := by unfold sg; rw [if_neg (by omega), if_neg (by omega)]
theorem sg_n {z : Int} (h : z < 0) : sg z = -1 := by unfold sg; rw [if_neg (by omega), if_pos h]
theorem sg_prod (X Y : Int) : sg (X * Y) = sg X * sg Y := by
  rcases Int.lt_trichotomy X 0 with h | h | h
  · rcases Int.lt_trichotomy Y 0 with k | k | k
    · rw [sg_p (Int.mul_pos_of_neg_of_neg h k), sg_n h, sg_n k]; rfl
    · subst k; rw [Int.mul_zero, show sg 0 = 0 from rfl, Int.mul_zero]
    · rw [sg_n (Int.mul_neg_of_neg_of_pos h k), sg_n h, sg_p k]; rfl
  · subst h; rw [Int.zero_mul, show sg 0 = 0 from rfl, Int.zero_mul]
  · rcases Int.lt_trichotomy Y 0 with k | k | k
    · rw [sg_n (Int.mul_neg_of_pos_of_neg h k), sg_p h, sg_n k]; rfl
    · subst k; rw [Int.mul_zero, show sg 0 = 0 from rfl, Int.mul_zero]
    · rw [sg_p (Int.mul_pos h k), sg_p h, sg_p k]; rfl
theorem sg_opp (X : Int) : sg (-X) = -sg X := by
  rcases Int.lt_trichotomy X 0 with h | h | h
  · rw [sg_p (by omega), sg_n h]; rfl
  · subst h; rfl
  · rw [sg_n (by omega), sg_p h]
theorem sg_bd (X : Int) : sg X = -1 ∨ sg X = 0 ∨ sg X = 1 := by unfold sg; split <;> (try split) <;> simp
theorem sg_is0 (X Y : Int) : (sg (X - Y) == 0) = decide (X = Y) := by
  rw [Bool.eq_iff_iff, beq_iff_eq, decide_eq_true_iff]
  unfold sg
  split <;> (try split) <;> omega
theorem s_subE {w0 W : World} {L : List (Value × Int)} {G : List (Nat × Bool × Option Addr × Nat × Nat)} (h : St w0 L G W) (ht : TabSum W) {v1 v2 : Value} {W1 W2 : Int} (h1 : (v1, W1) ∈ L) (h2 : (v2, W2) ∈ L) {Z : Int} (hz : W1 - W2 = Z) (hl : Z.natAbs < LIM) :
    Calls Tryd.prog 22 #[v1, v2] W fun e W' => SE w0 L G Z 0 e W' := by
  subst hz; exact s_sub h ht h1 h2 hl

set_option maxHeartbeats 16000000 in
set_option maxRecDepth 100000 in
theorem wholelaws_any (nx : Bool) (ax : Option Addr) (lx cx : Nat) (xsx : List Nat) (ny : Bool) (ay : Option Addr) (ly cy : Nat) (xsy : List Nat) (nz : Bool) (az : Option Addr) (lz cz : Nat) (xsz : List Nat)  (w : World) (hlx : xsx.length = lx) (hbx : lx ≤ 9223372036854775807) (hrx : Rd .u64 w ax xsx) (bxx : Bd xsx) (hly : xsy.length = ly) (hby : ly ≤ 9223372036854775807) (hry : Rd .u64 w ay xsy) (bxy : Bd xsy) (hlz : xsz.length = lz) (hbz : lz ≤ 9223372036854775807) (hrz : Rd .u64 w az xsz) (bxz : Bd xsz) (ht : Tabs w) (hts : TabSum w) (hT : Trig w) :
    Calls Tryd.prog 4 #[.agg #[.bool nx, .slice ax lx cx], .agg #[.bool ny, .slice ay ly cy], .agg #[.bool nz, .slice az lz cz]] w fun e w' => e = .returned (.bool true) ∧ Below w.heap.size w w' := by
  have HT := Lib.hid (fun (W : World) (h : Below w.heap.size w W) => ht.below h)
  have HTS := Lib.hid (fun (W : World) (h : Below w.heap.size w W) => hts.below h)
  have HTR := Lib.hid (fun (W : World) (h : Below w.heap.size w W) => hT.below h)
  have HS0 : Hid (∀ (L : List (Value × Int)) (GG : List (Nat × Bool × Option Addr × Nat × Nat)) (W : World) (_ : St w L GG W), Calls Tryd.prog 21 #[.agg #[.bool nx, .slice ax lx cx], .int .i64 20] W fun e W' => SV w L GG (SW nx xsx 20) e W') := (fun L GG W h => s_some h nx ax lx cx 20 xsx hlx hbx (by decide) (hrx.below h.bel) bxx)
  have HL0 := Lib.hid (bt_sw nx xsx 20 bxx)
  have HLM0 := Lib.hid (sw_lim nx xsx 20 bxx (by decide))
  have HI0 : Hid (∀ (W : World) (_ : Below w.heap.size w W), Calls Tryd.prog 21 #[.agg #[.bool nx, .slice ax lx cx], .int .i64 20] W (IPost (SW nx xsx 20) W)) := (fun W h => wsome_any nx ax lx cx 20 xsx W hlx hbx (by decide) (hrx.below h) bxx)
  have HS1 : Hid (∀ (L : List (Value × Int)) (GG : List (Nat × Bool × Option Addr × Nat × Nat)) (W : World) (_ : St w L GG W), Calls Tryd.prog 21 #[.agg #[.bool ny, .slice ay ly cy], .int .i64 20] W fun e W' => SV w L GG (SW ny xsy 20) e W') := (fun L GG W h => s_some h ny ay ly cy 20 xsy hly hby (by decide) (hry.below h.bel) bxy)
  have HL1 := Lib.hid (bt_sw ny xsy 20 bxy)
  have HLM1 := Lib.hid (sw_lim ny xsy 20 bxy (by decide))
  have HI1 : Hid (∀ (W : World) (_ : Below w.heap.size w W), Calls Tryd.prog 21 #[.agg #[.bool ny, .slice ay ly cy], .int .i64 20] W (IPost (SW ny xsy 20) W)) := (fun W h => wsome_any ny ay ly cy 20 xsy W hly hby (by decide) (hry.below h) bxy)
  have HS2 : Hid (∀ (L : List (Value × Int)) (GG : List (Nat × Bool × Option Addr × Nat × Nat)) (W : World) (_ : St w L GG W), Calls Tryd.prog 21 #[.agg #[.bool nz, .slice az lz cz], .int .i64 20] W fun e W' => SV w L GG (SW nz xsz 20) e W') := (fun L GG W h => s_some h nz az lz cz 20 xsz hlz hbz (by decide) (hrz.below h.bel) bxz)
  have HL2 := Lib.hid (bt_sw nz xsz 20 bxz)
  have HLM2 := Lib.hid (sw_lim nz xsz 20 bxz (by decide))
  have HI2 : Hid (∀ (W : World) (_ : Below w.heap.size w W), Calls Tryd.prog 21 #[.agg #[.bool nz, .slice az lz cz], .int .i64 20] W (IPost (SW nz xsz 20) W)) := (fun W h => wsome_any nz az lz cz 20 xsz W hlz hbz (by decide) (hrz.below h) bxz)
  clear ht hts hT hlx hbx hrx bxx hly hby hry bxy hlz hbz hrz bxz
  generalize SW nx xsx 20 = Zx at *
  generalize SW ny xsy 20 = Zy at *
  generalize SW nz xsz 20 = Zz at *
  go_enter Tryd.func4, Tryd.ntmps4
  have HE := Lib.hid ((((St.init w).new (w.heap.size) rfl nx ax lx cx).new (w.heap.size + 1) (by simp) ny ay ly cy).new (w.heap.size + 1 + 1) (by simp) nz az lz cz)
  go_wp2_with fail
  have HE0 := HE
  refine wp_region_inv (by kernel_rfl) (by kernel_rfl) (fun L val W => Ph1 w [((w.heap.size + 1 + 1), nz, az, lz, cz), ((w.heap.size + 1), ny, ay, ly, cy), (w.heap.size, nx, ax, lx, cx)] 3 (fun k : Nat => if k = 0 then Value.agg #[.bool nx, .slice ax lx cx] else (if k = 1 then Value.agg #[.bool ny, .slice ay ly cy] else (Value.agg #[.bool nz, .slice az lz cz]))) (fun k : Nat => if k = 0 then Zx else (if k = 1 then Zy else (Zz))) L val W ∨ Ful31 w [((w.heap.size + 1 + 1), nz, az, lz, cz), ((w.heap.size + 1), ny, ay, ly, cy), (w.heap.size, nx, ax, lx, cx)] (fun k : Nat => if k = 0 then Zx else (if k = 1 then Zy else (Zz))) L val W ∨ Ful32 w [((w.heap.size + 1 + 1), nz, az, lz, cz), ((w.heap.size + 1), ny, ay, ly, cy), (w.heap.size, nx, ax, lx, cx)] (fun k : Nat => if k = 0 then Zx else (if k = 1 then Zy else (Zz))) L val W ∨ Ful33 w [((w.heap.size + 1 + 1), nz, az, lz, cz), ((w.heap.size + 1), ny, ay, ly, cy), (w.heap.size, nx, ax, lx, cx)] (fun k : Nat => if k = 0 then Zx else (if k = 1 then Zy else (Zz))) L val W) (.inl (Ph1.init 3 _ _ HE.out.drew)) (fun L L' val W h => by have e : L = L' := funext h; rw [e]; exact id) ?step ?fin
  case step =>
    intro i o L val a W ho hLi hdep hH hΦ K' hK'
    have hi : i < 12 := (Array.getElem?_eq_some_iff.1 ho).1
    have hcs : i = 0 ∨ i = 1 ∨ i = 2 ∨ i = 3 ∨ i = 4 ∨ i = 5 ∨ i = 6 ∨ i = 7 ∨ i = 8 ∨ i = 9 ∨ i = 10 ∨ i = 11 := by omega
    rcases hcs with rfl | rfl | rfl | rfl | rfl | rfl | rfl | rfl | rfl | rfl | rfl | rfl
    · obtain rfl := Option.some.inj ho
      have h1 : Ph1 w [((w.heap.size + 1 + 1), nz, az, lz, cz), ((w.heap.size + 1), ny, ay, ly, cy), (w.heap.size, nx, ax, lx, cx)] 3 (fun k : Nat => if k = 0 then Value.agg #[.bool nx, .slice ax lx cx] else (if k = 1 then Value.agg #[.bool ny, .slice ay ly cy] else (Value.agg #[.bool nz, .slice az lz cz]))) (fun k : Nat => if k = 0 then Zx else (if k = 1 then Zy else (Zz))) L val W := by
        rcases hΦ with h | h | h | h
        · exact h
        · exact absurd (h.1 0 (by decide)) (by rw [hLi]; decide)
        · exact absurd (h.1 0 (by decide)) (by rw [hLi]; decide)
        · exact absurd (h.1 0 (by decide)) (by rw [hLi]; decide)
      have e0 := (hH.rest 3 (fun j hj _ => (of_decide_eq_true (by kernel_rfl) : ∀ j, j < 12 → dstAt _ j ≠ some 3) j hj)).trans (rfl : _ = some (Value.pointer (some ⟨w.heap.size, 0, none⟩)))
      obtain ⟨x0, x1, -, -⟩ := h1.st.cells (g := w.heap.size) (n := nx) (a := ax) (l := lx) (c := cx) (by repeat first | exact List.mem_cons_self | apply List.mem_cons_of_mem)
      go_simp
      exact hK'.out _ _ (.inl (h1.step 0 (by decide) _ (Below.refl _ _) rfl (fun h => absurd h (by decide)) (fun k hk h => by omega) (fun k hk h => by omega)))
    · obtain rfl := Option.some.inj ho
      have h1 : Ph1 w [((w.heap.size + 1 + 1), nz, az, lz, cz), ((w.heap.size + 1), ny, ay, ly, cy), (w.heap.size, nx, ax, lx, cx)] 3 (fun k : Nat => if k = 0 then Value.agg #[.bool nx, .slice ax lx cx] else (if k = 1 then Value.agg #[.bool ny, .slice ay ly cy] else (Value.agg #[.bool nz, .slice az lz cz]))) (fun k : Nat => if k = 0 then Zx else (if k = 1 then Zy else (Zz))) L val W := by
        rcases hΦ with h | h | h | h
        · exact h
        · exact absurd (h.1 1 (by decide)) (by rw [hLi]; decide)
        · exact absurd (h.1 1 (by decide)) (by rw [hLi]; decide)
        · exact absurd (h.1 1 (by decide)) (by rw [hLi]; decide)
      have hL0 : L 0 = true := hdep ⟨0, .data⟩ (by simp) rfl
      have e0 := hH.own 0 _ (by decide) rfl hL0 (of_decide_eq_true (by kernel_rfl))
      have e1 : val 0 = Value.agg #[.bool nx, .slice ax lx cx] := h1.sp 0 (by decide) hL0
      rw [e1] at e0
      go_simp
      refine (HI0.out _ h1.st.bel).mono ?_
      rintro e w' ⟨hb, a1, c1, zs, rfl, ho1, hN1⟩
      exact hK'.out _ _ (.inl (h1.step 1 (by decide) _ hb ⟨a1, c1, zs, rfl, owns_base ho1 h1.st.bel.size, hN1, HLM0.out⟩ (fun h => absurd h (by decide)) (fun j hj h => by obtain rfl : j = 0 := (by omega); exact hL0) (fun j hj h => by omega)))
    · obtain rfl := Option.some.inj ho
      have h1 : Ph1 w [((w.heap.size + 1 + 1), nz, az, lz, cz), ((w.heap.size + 1), ny, ay, ly, cy), (w.heap.size, nx, ax, lx, cx)] 3 (fun k : Nat => if k = 0 then Value.agg #[.bool nx, .slice ax lx cx] else (if k = 1 then Value.agg #[.bool ny, .slice ay ly cy] else (Value.agg #[.bool nz, .slice az lz cz]))) (fun k : Nat => if k = 0 then Zx else (if k = 1 then Zy else (Zz))) L val W := by
        rcases hΦ with h | h | h | h
        · exact h
        · exact absurd (h.1 2 (by decide)) (by rw [hLi]; decide)
        · exact absurd (h.1 2 (by decide)) (by rw [hLi]; decide)
        · exact absurd (h.1 2 (by decide)) (by rw [hLi]; decide)
      have e0 := (hH.rest 4 (fun j hj _ => (of_decide_eq_true (by kernel_rfl) : ∀ j, j < 12 → dstAt _ j ≠ some 4) j hj)).trans (rfl : _ = some (Value.pointer (some ⟨(w.heap.size + 1), 0, none⟩)))
      obtain ⟨x0, x1, -, -⟩ := h1.st.cells (g := (w.heap.size + 1)) (n := ny) (a := ay) (l := ly) (c := cy) (by repeat first | exact List.mem_cons_self | apply List.mem_cons_of_mem)
      go_simp
      exact hK'.out _ _ (.inl (h1.step 2 (by decide) _ (Below.refl _ _) rfl (fun h => absurd h (by decide)) (fun k hk h => by omega) (fun k hk h => by omega)))
    · obtain rfl := Option.some.inj ho
      have h1 : Ph1 w [((w.heap.size + 1 + 1), nz, az, lz, cz), ((w.heap.size + 1), ny, ay, ly, cy), (w.heap.size, nx, ax, lx, cx)] 3 (fun k : Nat => if k = 0 then Value.agg #[.bool nx, .slice ax lx cx] else (if k = 1 then Value.agg #[.bool ny, .slice ay ly cy] else (Value.agg #[.bool nz, .slice az lz cz]))) (fun k : Nat => if k = 0 then Zx else (if k = 1 then Zy else (Zz))) L val W := by
        rcases hΦ with h | h | h | h
        · exact h
        · exact absurd (h.1 3 (by decide)) (by rw [hLi]; decide)
        · exact absurd (h.1 3 (by decide)) (by rw [hLi]; decide)
        · exact absurd (h.1 3 (by decide)) (by rw [hLi]; decide)
      have hL0 : L 2 = true := hdep ⟨2, .data⟩ (by simp) rfl
      have e0 := hH.own 2 _ (by decide) rfl hL0 (of_decide_eq_true (by kernel_rfl))
      have e1 : val 2 = Value.agg #[.bool ny, .slice ay ly cy] := h1.sp 2 (by decide) hL0
      rw [e1] at e0
      go_simp
      refine (HI1.out _ h1.st.bel).mono ?_
      rintro e w' ⟨hb, a1, c1, zs, rfl, ho1, hN1⟩
      exact hK'.out _ _ (.inl (h1.step 3 (by decide) _ hb ⟨a1, c1, zs, rfl, owns_base ho1 h1.st.bel.size, hN1, HLM1.out⟩ (fun h => absurd h (by decide)) (fun j hj h => by obtain rfl : j = 1 := (by omega); exact hL0) (fun j hj h => by obtain rfl : j = 0 := (by omega); exact (by first | (refine hdep ⟨1, .data⟩ ?_ rfl; simp; done) | (refine hdep ⟨1, .chain⟩ ?_ rfl; simp; done) | (refine hdep ⟨1, .phase⟩ ?_ rfl; simp; done)))))
    · obtain rfl := Option.some.inj ho
      have h1 : Ph1 w [((w.heap.size + 1 + 1), nz, az, lz, cz), ((w.heap.size + 1), ny, ay, ly, cy), (w.heap.size, nx, ax, lx, cx)] 3 (fun k : Nat => if k = 0 then Value.agg #[.bool nx, .slice ax lx cx] else (if k = 1 then Value.agg #[.bool ny, .slice ay ly cy] else (Value.agg #[.bool nz, .slice az lz cz]))) (fun k : Nat => if k = 0 then Zx else (if k = 1 then Zy else (Zz))) L val W := by
        rcases hΦ with h | h | h | h
        · exact h
        · exact absurd (h.1 4 (by decide)) (by rw [hLi]; decide)
        · exact absurd (h.1 4 (by decide)) (by rw [hLi]; decide)
        · exact absurd (h.1 4 (by decide)) (by rw [hLi]; decide)
      have e0 := (hH.rest 5 (fun j hj _ => (of_decide_eq_true (by kernel_rfl) : ∀ j, j < 12 → dstAt _ j ≠ some 5) j hj)).trans (rfl : _ = some (Value.pointer (some ⟨(w.heap.size + 1 + 1), 0, none⟩)))
      obtain ⟨x0, x1, -, -⟩ := h1.st.cells (g := (w.heap.size + 1 + 1)) (n := nz) (a := az) (l := lz) (c := cz) (by repeat first | exact List.mem_cons_self | apply List.mem_cons_of_mem)
      go_simp
      exact hK'.out _ _ (.inl (h1.step 4 (by decide) _ (Below.refl _ _) rfl (fun h => absurd h (by decide)) (fun k hk h => by omega) (fun k hk h => by omega)))
    · obtain rfl := Option.some.inj ho
      have h1 : Ph1 w [((w.heap.size + 1 + 1), nz, az, lz, cz), ((w.heap.size + 1), ny, ay, ly, cy), (w.heap.size, nx, ax, lx, cx)] 3 (fun k : Nat => if k = 0 then Value.agg #[.bool nx, .slice ax lx cx] else (if k = 1 then Value.agg #[.bool ny, .slice ay ly cy] else (Value.agg #[.bool nz, .slice az lz cz]))) (fun k : Nat => if k = 0 then Zx else (if k = 1 then Zy else (Zz))) L val W := by
        rcases hΦ with h | h | h | h
        · exact h
        · exact absurd (h.1 5 (by decide)) (by rw [hLi]; decide)
        · exact absurd (h.1 5 (by decide)) (by rw [hLi]; decide)
        · exact absurd (h.1 5 (by decide)) (by rw [hLi]; decide)
      have hL0 : L 4 = true := hdep ⟨4, .data⟩ (by simp) rfl
      have e0 := hH.own 4 _ (by decide) rfl hL0 (of_decide_eq_true (by kernel_rfl))
      have e1 : val 4 = Value.agg #[.bool nz, .slice az lz cz] := h1.sp 4 (by decide) hL0
      rw [e1] at e0
      go_simp
      refine (HI2.out _ h1.st.bel).mono ?_
      rintro e w' ⟨hb, a1, c1, zs, rfl, ho1, hN1⟩
      exact hK'.out _ _ (.inl (h1.step 5 (by decide) _ hb ⟨a1, c1, zs, rfl, owns_base ho1 h1.st.bel.size, hN1, HLM2.out⟩ (fun h => absurd h (by decide)) (fun j hj h => by obtain rfl : j = 2 := (by omega); exact hL0) (fun j hj h => by obtain rfl : j = 1 := (by omega); exact (by first | (refine hdep ⟨3, .data⟩ ?_ rfl; simp; done) | (refine hdep ⟨3, .chain⟩ ?_ rfl; simp; done) | (refine hdep ⟨3, .phase⟩ ?_ rfl; simp; done)))))
    · obtain rfl := Option.some.inj ho
      have h1 : Ph1 w [((w.heap.size + 1 + 1), nz, az, lz, cz), ((w.heap.size + 1), ny, ay, ly, cy), (w.heap.size, nx, ax, lx, cx)] 3 (fun k : Nat => if k = 0 then Value.agg #[.bool nx, .slice ax lx cx] else (if k = 1 then Value.agg #[.bool ny, .slice ay ly cy] else (Value.agg #[.bool nz, .slice az lz cz]))) (fun k : Nat => if k = 0 then Zx else (if k = 1 then Zy else (Zz))) L val W := by
        rcases hΦ with h | h | h | h
        · exact h
        · exact absurd (h.1 6 (by decide)) (by rw [hLi]; decide)
        · exact absurd (h.1 6 (by decide)) (by rw [hLi]; decide)
        · exact absurd (h.1 6 (by decide)) (by rw [hLi]; decide)
      go_simp
      exact hK'.out _ _ (.inl (h1.step 6 (by decide) _ ((Below.refl _ _).alloc (Nat.le_refl _) _) ⟨_, rfl, heap_new _ _, h1.st.bel.size, fun p hp => lt_of_block (h1.st.boxes p hp)⟩ (fun _ => rfl) (fun k hk h => by omega) (fun k hk h => by omega)))
    · obtain rfl := Option.some.inj ho
      have h1 : Ph1 w [((w.heap.size + 1 + 1), nz, az, lz, cz), ((w.heap.size + 1), ny, ay, ly, cy), (w.heap.size, nx, ax, lx, cx)] 3 (fun k : Nat => if k = 0 then Value.agg #[.bool nx, .slice ax lx cx] else (if k = 1 then Value.agg #[.bool ny, .slice ay ly cy] else (Value.agg #[.bool nz, .slice az lz cz]))) (fun k : Nat => if k = 0 then Zx else (if k = 1 then Zy else (Zz))) L val W := by
        rcases hΦ with h | h | h | h
        · exact h
        · exact absurd (h.1 7 (by decide)) (by rw [hLi]; decide)
        · exact absurd (h.1 7 (by decide)) (by rw [hLi]; decide)
        · exact absurd (h.1 7 (by decide)) (by rw [hLi]; decide)
      go_simp
      exact hK'.out _ _ (.inl (h1.step 7 (by decide) _ ((Below.refl _ _).alloc (Nat.le_refl _) _) ⟨_, rfl, heap_new _ _, h1.st.bel.size, fun p hp => lt_of_block (h1.st.boxes p hp)⟩ (fun _ => rfl) (fun k hk h => by omega) (fun k hk h => by omega)))
    · obtain rfl := Option.some.inj ho
      have h1 : Ph1 w [((w.heap.size + 1 + 1), nz, az, lz, cz), ((w.heap.size + 1), ny, ay, ly, cy), (w.heap.size, nx, ax, lx, cx)] 3 (fun k : Nat => if k = 0 then Value.agg #[.bool nx, .slice ax lx cx] else (if k = 1 then Value.agg #[.bool ny, .slice ay ly cy] else (Value.agg #[.bool nz, .slice az lz cz]))) (fun k : Nat => if k = 0 then Zx else (if k = 1 then Zy else (Zz))) L val W := by
        rcases hΦ with h | h | h | h
        · exact h
        · exact absurd (h.1 8 (by decide)) (by rw [hLi]; decide)
        · exact absurd (h.1 8 (by decide)) (by rw [hLi]; decide)
        · exact absurd (h.1 8 (by decide)) (by rw [hLi]; decide)
      go_simp
      exact hK'.out _ _ (.inl (h1.step 8 (by decide) _ ((Below.refl _ _).alloc (Nat.le_refl _) _) ⟨_, rfl, heap_new _ _, h1.st.bel.size, fun p hp => lt_of_block (h1.st.boxes p hp)⟩ (fun _ => rfl) (fun k hk h => by omega) (fun k hk h => by omega)))
    · obtain rfl := Option.some.inj ho
      have h1 : Ph1 w [((w.heap.size + 1 + 1), nz, az, lz, cz), ((w.heap.size + 1), ny, ay, ly, cy), (w.heap.size, nx, ax, lx, cx)] 3 (fun k : Nat => if k = 0 then Value.agg #[.bool nx, .slice ax lx cx] else (if k = 1 then Value.agg #[.bool ny, .slice ay ly cy] else (Value.agg #[.bool nz, .slice az lz cz]))) (fun k : Nat => if k = 0 then Zx else (if k = 1 then Zy else (Zz))) L val W := by
        rcases hΦ with h | h | h | h
        · exact h
        · exact absurd h.2.1.1 (by rw [hLi]; decide)
        · exact absurd h.2.1.1 (by rw [hLi]; decide)
        · exact absurd h.2.1.1 (by rw [hLi]; decide)
      have hall : ∀ j, j < 9 → L j = true := by
        intro j hj
        have hc : j = 0 ∨ j = 1 ∨ j = 2 ∨ j = 3 ∨ j = 4 ∨ j = 5 ∨ j = 6 ∨ j = 7 ∨ j = 8 := by omega
        rcases hc with rfl | rfl | rfl | rfl | rfl | rfl | rfl | rfl | rfl
        · exact (h1.cl 0 (by decide) (h1.ch 0 (by decide) (h1.ch 1 (by decide) (by first | (refine hdep ⟨5, .data⟩ ?_ rfl; simp; done) | (refine hdep ⟨5, .chain⟩ ?_ rfl; simp; done) | (refine hdep ⟨5, .phase⟩ ?_ rfl; simp; done)))))
        · exact (h1.ch 0 (by decide) (h1.ch 1 (by decide) (by first | (refine hdep ⟨5, .data⟩ ?_ rfl; simp; done) | (refine hdep ⟨5, .chain⟩ ?_ rfl; simp; done) | (refine hdep ⟨5, .phase⟩ ?_ rfl; simp; done))))
        · exact (h1.cl 1 (by decide) (h1.ch 1 (by decide) (by first | (refine hdep ⟨5, .data⟩ ?_ rfl; simp; done) | (refine hdep ⟨5, .chain⟩ ?_ rfl; simp; done) | (refine hdep ⟨5, .phase⟩ ?_ rfl; simp; done))))
        · exact (h1.ch 1 (by decide) (by first | (refine hdep ⟨5, .data⟩ ?_ rfl; simp; done) | (refine hdep ⟨5, .chain⟩ ?_ rfl; simp; done) | (refine hdep ⟨5, .phase⟩ ?_ rfl; simp; done)))
        · exact (h1.cl 2 (by decide) (by first | (refine hdep ⟨5, .data⟩ ?_ rfl; simp; done) | (refine hdep ⟨5, .chain⟩ ?_ rfl; simp; done) | (refine hdep ⟨5, .phase⟩ ?_ rfl; simp; done)))
        · exact (by first | (refine hdep ⟨5, .data⟩ ?_ rfl; simp; done) | (refine hdep ⟨5, .chain⟩ ?_ rfl; simp; done) | (refine hdep ⟨5, .phase⟩ ?_ rfl; simp; done))
        · exact (by first | (refine hdep ⟨6, .data⟩ ?_ rfl; simp; done) | (refine hdep ⟨6, .chain⟩ ?_ rfl; simp; done) | (refine hdep ⟨6, .phase⟩ ?_ rfl; simp; done))
        · exact (by first | (refine hdep ⟨7, .data⟩ ?_ rfl; simp; done) | (refine hdep ⟨7, .chain⟩ ?_ rfl; simp; done) | (refine hdep ⟨7, .phase⟩ ?_ rfl; simp; done))
        · exact (by first | (refine hdep ⟨8, .data⟩ ?_ rfl; simp; done) | (refine hdep ⟨8, .chain⟩ ?_ rfl; simp; done) | (refine hdep ⟨8, .phase⟩ ?_ rfl; simp; done))
      have hF := h1.full3 hall
      obtain ⟨hA, hst, nA, aA, lA, cA, gA, nB, aB, lB, cB, gB, nC, aC, lC, cC, gC, eA, pA, eB, pB, eC, pC, hS, ⟨dAB, dAC, dBC⟩, qA, qB, qC⟩ := hF
      have e0 := hH.own 6 _ (by decide) rfl (hA _ (by decide)) (of_decide_eq_true (by kernel_rfl))
      rw [pA] at e0
      have e1 := hH.own 1 _ (by decide) rfl (hA _ (by decide)) (of_decide_eq_true (by kernel_rfl))
      rw [eA] at e1
      obtain ⟨x0, x1, x2, x3⟩ := hS.cells (g := gA) (n := false) (a := none) (l := 0) (c := 0) (by repeat first | exact List.mem_cons_self | apply List.mem_cons_of_mem)
      go_simp
      have hS2 := St.setAt (G1 := []) hS (fun p hp => by cases hp) (fun p hp => by rcases List.mem_cons.1 hp with rfl | hp; (first | assumption | exact Ne.symm (by assumption)); rcases List.mem_cons.1 hp with rfl | hp; (first | assumption | exact Ne.symm (by assumption)); exact Nat.ne_of_lt (qA.2 _ hp)) qA.1 nA aA lA cA
      exact hK'.out undef _ (.inr (.inl ⟨fun j hj => by have hne : j ≠ 9 := (by omega); simpa [upB, hne] using hA j hj, ⟨by simp [upB], by simpa [upB] using hst.2.1, by simpa [upB] using hst.2.2⟩, nA, aA, lA, cA, gA, nB, aB, lB, cB, gB, nC, aC, lC, cC, gC, by simpa [upV] using eA, by simpa [upV] using pA, by simpa [upV] using eB, by simpa [upV] using pB, by simpa [upV] using eC, by simpa [upV] using pC, hS2, ⟨dAB, dAC, dBC⟩, qA, qB, qC⟩))
    · obtain rfl := Option.some.inj ho
      have hF : Ful31 w [((w.heap.size + 1 + 1), nz, az, lz, cz), ((w.heap.size + 1), ny, ay, ly, cy), (w.heap.size, nx, ax, lx, cx)] (fun k : Nat => if k = 0 then Zx else (if k = 1 then Zy else (Zz))) L val W := by
        rcases hΦ with h | h | h | h
        · exact absurd (h.no 9 (by decide)) (by rw [show L 9 = true from (by first | (refine hdep ⟨9, .data⟩ ?_ rfl; simp; done) | (refine hdep ⟨9, .chain⟩ ?_ rfl; simp; done) | (refine hdep ⟨9, .phase⟩ ?_ rfl; simp; done))]; decide)
        · exact h
        · exact absurd (h.2.1.2.1) (by rw [hLi]; decide)
        · exact absurd (h.2.1.2.1) (by rw [hLi]; decide)
      obtain ⟨hA, hst, nA, aA, lA, cA, gA, nB, aB, lB, cB, gB, nC, aC, lC, cC, gC, eA, pA, eB, pB, eC, pC, hS, ⟨dAB, dAC, dBC⟩, qA, qB, qC⟩ := hF
      have e0 := hH.own 7 _ (by decide) rfl (hA _ (by decide)) (of_decide_eq_true (by kernel_rfl))
      rw [pB] at e0
      have e1 := hH.own 3 _ (by decide) rfl (hA _ (by decide)) (of_decide_eq_true (by kernel_rfl))
      rw [eB] at e1
      obtain ⟨x0, x1, x2, x3⟩ := hS.cells (g := gB) (n := false) (a := none) (l := 0) (c := 0) (by repeat first | exact List.mem_cons_self | apply List.mem_cons_of_mem)
      go_simp
      have hS2 := St.setAt (G1 := [(gA, nA, aA, lA, cA)]) hS (fun p hp => by rcases List.mem_cons.1 hp with rfl | hp; (first | assumption | exact Ne.symm (by assumption)); cases hp) (fun p hp => by rcases List.mem_cons.1 hp with rfl | hp; (first | assumption | exact Ne.symm (by assumption)); exact Nat.ne_of_lt (qB.2 _ hp)) qB.1 nB aB lB cB
      exact hK'.out undef _ (.inr (.inr (.inl ⟨fun j hj => by have hne : j ≠ 10 := (by omega); simpa [upB, hne] using hA j hj, ⟨by simpa [upB] using hst.1, by simp [upB], by simpa [upB] using hst.2.2⟩, nA, aA, lA, cA, gA, nB, aB, lB, cB, gB, nC, aC, lC, cC, gC, by simpa [upV] using eA, by simpa [upV] using pA, by simpa [upV] using eB, by simpa [upV] using pB, by simpa [upV] using eC, by simpa [upV] using pC, hS2, ⟨dAB, dAC, dBC⟩, qA, qB, qC⟩)))
    · obtain rfl := Option.some.inj ho
      have hF : Ful32 w [((w.heap.size + 1 + 1), nz, az, lz, cz), ((w.heap.size + 1), ny, ay, ly, cy), (w.heap.size, nx, ax, lx, cx)] (fun k : Nat => if k = 0 then Zx else (if k = 1 then Zy else (Zz))) L val W := by
        rcases hΦ with h | h | h | h
        · exact absurd (h.no 10 (by decide)) (by rw [show L 10 = true from (by first | (refine hdep ⟨10, .data⟩ ?_ rfl; simp; done) | (refine hdep ⟨10, .chain⟩ ?_ rfl; simp; done) | (refine hdep ⟨10, .phase⟩ ?_ rfl; simp; done))]; decide)
        · exact absurd (h.2.1.2.1) (by rw [show L 10 = true from (by first | (refine hdep ⟨10, .data⟩ ?_ rfl; simp; done) | (refine hdep ⟨10, .chain⟩ ?_ rfl; simp; done) | (refine hdep ⟨10, .phase⟩ ?_ rfl; simp; done))]; decide)
        · exact h
        · exact absurd (h.2.1.2.2) (by rw [hLi]; decide)
      obtain ⟨hA, hst, nA, aA, lA, cA, gA, nB, aB, lB, cB, gB, nC, aC, lC, cC, gC, eA, pA, eB, pB, eC, pC, hS, ⟨dAB, dAC, dBC⟩, qA, qB, qC⟩ := hF
      have e0 := hH.own 8 _ (by decide) rfl (hA _ (by decide)) (of_decide_eq_true (by kernel_rfl))
      rw [pC] at e0
      have e1 := hH.own 5 _ (by decide) rfl (hA _ (by decide)) (of_decide_eq_true (by kernel_rfl))
      rw [eC] at e1
      obtain ⟨x0, x1, x2, x3⟩ := hS.cells (g := gC) (n := false) (a := none) (l := 0) (c := 0) (by repeat first | exact List.mem_cons_self | apply List.mem_cons_of_mem)
      go_simp
      have hS2 := St.setAt (G1 := [(gA, nA, aA, lA, cA), (gB, nB, aB, lB, cB)]) hS (fun p hp => by rcases List.mem_cons.1 hp with rfl | hp; (first | assumption | exact Ne.symm (by assumption)); rcases List.mem_cons.1 hp with rfl | hp; (first | assumption | exact Ne.symm (by assumption)); cases hp) (fun p hp => by exact Nat.ne_of_lt (qC.2 _ hp)) qC.1 nC aC lC cC
      exact hK'.out undef _ (.inr (.inr (.inr ⟨fun j hj => by have hne : j ≠ 11 := (by omega); simpa [upB, hne] using hA j hj, ⟨by simpa [upB] using hst.1, by simpa [upB] using hst.2.1, by simp [upB]⟩, nA, aA, lA, cA, gA, nB, aB, lB, cB, gB, nC, aC, lC, cC, gC, by simpa [upV] using eA, by simpa [upV] using pA, by simpa [upV] using eB, by simpa [upV] using pB, by simpa [upV] using eC, by simpa [upV] using pC, hS2, ⟨dAB, dAC, dBC⟩, qA, qB, qC⟩)))
  case fin =>
    intro L val wH hL hΦ
    have hF : Ful33 w [((w.heap.size + 1 + 1), nz, az, lz, cz), ((w.heap.size + 1), ny, ay, ly, cy), (w.heap.size, nx, ax, lx, cx)] (fun k : Nat => if k = 0 then Zx else (if k = 1 then Zy else (Zz))) L val wH := by
      rcases hΦ with h | h | h | h
      · exact absurd (h.no 11 (by decide)) (by rw [hL 11 (of_decide_eq_true (by kernel_rfl))]; decide)
      · exact absurd (h.2.1.2.2) (by rw [hL 11 (of_decide_eq_true (by kernel_rfl))]; decide)
      · exact absurd (h.2.1.2.2) (by rw [hL 11 (of_decide_eq_true (by kernel_rfl))]; decide)
      · exact h
    obtain ⟨hA, hst, nA, aA, lA, cA, gA, nB, aB, lB, cB, gB, nC, aC, lC, cC, gC, eA, pA, eB, pB, eC, pC, hS, ⟨dAB, dAC, dBC⟩, qA, qB, qC⟩ := hF
    simp only [List.size_toArray, List.length_cons, List.length_nil, Nat.zero_add, Nat.reduceAdd, putAll, dstAt, Act.put, List.getElem?_toArray, List.getElem?_cons_zero, List.getElem?_cons_succ, Option.bind_some, List.setIfInBounds_toArray, List.set_cons_zero, List.set_cons_succ]
    rw [eA, pA, eB, pB, eC, pC]
    generalize val 0 = s0
    generalize val 2 = s1
    generalize val 4 = s2
    have hS : St w [(.agg #[.bool nC, .slice aC lC cC], Zz), (.agg #[.bool nB, .slice aB lB cB], Zy), (.agg #[.bool nA, .slice aA lA cA], Zx)] [(gA, nA, aA, lA, cA), (gB, nB, aB, lB, cB), (gC, nC, aC, lC, cC)] wH := St.sub hS (fun p hp => hp) (fun p hp => by simp only [List.mem_cons, List.mem_nil_iff, or_false] at hp ⊢; rcases hp with h | h | h <;> simp [h])
    have HE := Lib.hid hS
    clear hΦ hL hA hst hS eA pA qA eB pB qB eC pC qC dAB dAC dBC HE0
    clear HS0 HS1 HS2 HI0 HI1 HI2
    obtain ⟨sx, hsx⟩ : ∃ s, sg Zx = s := ⟨_, rfl⟩
    have bsx := sg_bd Zx
    rw [hsx] at bsx
    obtain ⟨sy, hsy⟩ : ∃ s, sg Zy = s := ⟨_, rfl⟩
    have bsy := sg_bd Zy
    rw [hsy] at bsy
    obtain ⟨sz, hsz⟩ : ∃ s, sg Zz = s := ⟨_, rfl⟩
    have bsz := sg_bd Zz
    rw [hsz] at bsz
    obtain ⟨kk, hkk⟩ : ∃ s, sg (Zx - Zy) = s := ⟨_, rfl⟩
    have bkk := sg_bd (Zx - Zy)
    rw [hkk] at bkk
    have hws1 : IntKind.i64.wrap (-sx) = -sx := by rw [IntKind.wrap_i64]; omega
    have hws2 : IntKind.i64.wrap (-kk) = -kk := by rw [IntKind.wrap_i64]; omega
    have hws3 : IntKind.i64.wrap (sx * sy) = sx * sy := by rcases bsx with h | h | h <;> rcases bsy with k | k | k <;> rw [h, k] <;> decide
    have hws4 : IntKind.i64.wrap (kk * sz) = kk * sz := by rcases bkk with h | h | h <;> rcases bsz with k | k | k <;> rw [h, k] <;> decide
    have hne1 : (-sx != -sx) = false := by simp
    have hne2 : (-kk != -kk) = false := by simp
    have hne3 : (sx * sy != sx * sy) = false := by simp
    have hne4 : (kk * sz == kk * sz) = true := by simp
    have hne5 : (kk != kk) = false := by simp
    have HSG1 : Hid (sg (Zx + -Zx) = 0) := by show _ = _; rw [Int.add_right_neg]; rfl
    have HSG2 : Hid (sg (-Zx) = -sx) := by show _ = _; rw [sg_opp, hsx]
    have HSG3 : Hid (sg (Zx * Zy) = sx * sy) := by show _ = _; rw [sg_prod, hsx, hsy]
    have HSX := Lib.hid hsx
    have HSY := Lib.hid hsy
    have HSZ := Lib.hid hsz
    have HKK := Lib.hid hkk
    have HC2 : Hid (sg (Zx + Zz - (Zy + Zz)) = kk) := by show _ = _; rw [show Zx + Zz - (Zy + Zz) = Zx - Zy by omega, hkk]
    have HC3 : Hid (sg (Zy - Zx) = -kk) := by show _ = _; rw [show Zy - Zx = -(Zx - Zy) by omega, sg_opp, hkk]
    have HC4 : Hid (sg (Zx * Zz - Zy * Zz) = kk * sz) := by show _ = _; rw [← Int.sub_mul, sg_prod, hkk, hsz]
    have HDQ : Hid (decide (Zx = Zy) = (kk == 0)) := by show _ = _; rw [← hkk, sg_is0]
    have hne6 : ((kk == 0) != (kk == 0)) = false := by simp
    clear hsx hsy hsz hkk bsx bsy bsz bkk
    have HLA : Hid (Zx.natAbs < LIM) := HLM0.out
    go_upto_region 2 with fail
    go_cut [10, 11] (fun s10 s11 wx => ∃ (gD : Nat) (nD : Bool) (aD : Option Addr) (lD cD : Nat), s10 = .pointer (some ⟨gD, 0, none⟩) ∧ s11 = .int .i64 0 ∧ Hid (St w [(.agg #[.bool nD, .slice aD lD cD], Zx), (.agg #[.bool nA, .slice aA lA cA], Zx), (.agg #[.bool nB, .slice aB lB cB], Zy), (.agg #[.bool nC, .slice aC lC cC], Zz)] [(gD, nD, aD, lD, cD), (gA, nA, aA, lA, cA), (gB, nB, aB, lB, cB), (gC, nC, aC, lC, cC)] wx))
    case first =>
      have HE0 := HE
      have HE := Lib.hid HE.out.drew
      go_region_held3 (fun W => W.cell? ⟨gA, 0, none⟩ = some (.bool nA) ∧ W.cell? ⟨gA, 1, none⟩ = some (.slice aA lA cA) ∧ W.cell? ⟨gB, 0, none⟩ = some (.bool nB) ∧ W.cell? ⟨gB, 1, none⟩ = some (.slice aB lB cB))
        (first | exact ⟨(HE.out.cells (g := gA) (n := nA) (a := aA) (l := lA) (c := cA) (by repeat first | exact List.mem_cons_self | apply List.mem_cons_of_mem)).1, (HE.out.cells (g := gA) (n := nA) (a := aA) (l := lA) (c := cA) (by repeat first | exact List.mem_cons_self | apply List.mem_cons_of_mem)).2.1, (HE.out.cells (g := gB) (n := nB) (a := aB) (l := lB) (c := cB) (by repeat first | exact List.mem_cons_self | apply List.mem_cons_of_mem)).1, (HE.out.cells (g := gB) (n := nB) (a := aB) (l := lB) (c := cB) (by repeat first | exact List.mem_cons_self | apply List.mem_cons_of_mem)).2.1⟩ | exact ⟨((HE.out.alloc _).cells (g := gA) (n := nA) (a := aA) (l := lA) (c := cA) (by repeat first | exact List.mem_cons_self | apply List.mem_cons_of_mem)).1, ((HE.out.alloc _).cells (g := gA) (n := nA) (a := aA) (l := lA) (c := cA) (by repeat first | exact List.mem_cons_self | apply List.mem_cons_of_mem)).2.1, ((HE.out.alloc _).cells (g := gB) (n := nB) (a := aB) (l := lB) (c := cB) (by repeat first | exact List.mem_cons_self | apply List.mem_cons_of_mem)).1, ((HE.out.alloc _).cells (g := gB) (n := nB) (a := aB) (l := lB) (c := cB) (by repeat first | exact List.mem_cons_self | apply List.mem_cons_of_mem)).2.1⟩ | exact ⟨((HE0.out.alloc _).drew.cells (g := gA) (n := nA) (a := aA) (l := lA) (c := cA) (by repeat first | exact List.mem_cons_self | apply List.mem_cons_of_mem)).1, ((HE0.out.alloc _).drew.cells (g := gA) (n := nA) (a := aA) (l := lA) (c := cA) (by repeat first | exact List.mem_cons_self | apply List.mem_cons_of_mem)).2.1, ((HE0.out.alloc _).drew.cells (g := gB) (n := nB) (a := aB) (l := lB) (c := cB) (by repeat first | exact List.mem_cons_self | apply List.mem_cons_of_mem)).1, ((HE0.out.alloc _).drew.cells (g := gB) (n := nB) (a := aB) (l := lB) (c := cB) (by repeat first | exact List.mem_cons_self | apply List.mem_cons_of_mem)).2.1⟩ | exact ⟨((HE.out.set HNE.out.1 HNE.out.2 _ _ _ _).cells (g := gA) (n := nA) (a := aA) (l := lA) (c := cA) (by repeat first | exact List.mem_cons_self | apply List.mem_cons_of_mem)).1, ((HE.out.set HNE.out.1 HNE.out.2 _ _ _ _).cells (g := gA) (n := nA) (a := aA) (l := lA) (c := cA) (by repeat first | exact List.mem_cons_self | apply List.mem_cons_of_mem)).2.1, ((HE.out.set HNE.out.1 HNE.out.2 _ _ _ _).cells (g := gB) (n := nB) (a := aB) (l := lB) (c := cB) (by repeat first | exact List.mem_cons_self | apply List.mem_cons_of_mem)).1, ((HE.out.set HNE.out.1 HNE.out.2 _ _ _ _).cells (g := gB) (n := nB) (a := aB) (l := lB) (c := cB) (by repeat first | exact List.mem_cons_self | apply List.mem_cons_of_mem)).2.1⟩)
        (first
        | (go_at_call 23; (first | (with_reducible refine (s_sum HE.out (HTS.out _ HE.out.bel) (by repeat first | exact List.mem_cons_self | apply List.mem_cons_of_mem) (by repeat first | exact List.mem_cons_self | apply List.mem_cons_of_mem) ?hl).mono ?_) | (have HNE := Lib.hid HE.out.fresh; have HE := Lib.hid (HE.out.new _ rfl false none 0 0); (with_reducible refine (s_sum HE.out (HTS.out _ HE.out.bel) (by repeat first | exact List.mem_cons_self | apply List.mem_cons_of_mem) (by repeat first | exact List.mem_cons_self | apply List.mem_cons_of_mem) ?hl).mono ?_)) | (have HNE := Lib.hid HE0.out.fresh; have HE := Lib.hid (HE0.out.new _ rfl false none 0 0).drew; (with_reducible refine (s_sum HE.out (HTS.out _ HE.out.bel) (by repeat first | exact List.mem_cons_self | apply List.mem_cons_of_mem) (by repeat first | exact List.mem_cons_self | apply List.mem_cons_of_mem) ?hl).mono ?_)))
           (case hl => (exact Bt.lim (by repeat (first | exact HL0.out | exact HL1.out | exact HL2.out | apply Bt.mul | apply Bt.sub | apply Bt.add | apply Bt.neg)) (by decide)))
           rintro e wZZ ⟨nZZ, aZZ, lZZ, cZZ, rfl, hS⟩
           have HE := Lib.hid hS
           clear hS
           obtain ⟨z0, z1, z2, z3⟩ := HE.out.top)
        | (go_at_call 22; (first | (with_reducible refine (s_subE HE.out (HTS.out _ HE.out.bel) (by repeat first | exact List.mem_cons_self | apply List.mem_cons_of_mem) (by repeat first | exact List.mem_cons_self | apply List.mem_cons_of_mem) (Int.add_sub_cancel _ _) HLA.out).mono ?_) | (have HNE := Lib.hid HE.out.fresh; have HE := Lib.hid (HE.out.new _ rfl false none 0 0); (with_reducible refine (s_subE HE.out (HTS.out _ HE.out.bel) (by repeat first | exact List.mem_cons_self | apply List.mem_cons_of_mem) (by repeat first | exact List.mem_cons_self | apply List.mem_cons_of_mem) (Int.add_sub_cancel _ _) HLA.out).mono ?_)) | (have HNE := Lib.hid HE0.out.fresh; have HE := Lib.hid (HE0.out.new _ rfl false none 0 0).drew; (with_reducible refine (s_subE HE.out (HTS.out _ HE.out.bel) (by repeat first | exact List.mem_cons_self | apply List.mem_cons_of_mem) (by repeat first | exact List.mem_cons_self | apply List.mem_cons_of_mem) (Int.add_sub_cancel _ _) HLA.out).mono ?_)))
           rintro e wZZ ⟨nD, aD, lD, cD, rfl, hS⟩
           have HE := Lib.hid hS
           clear hS
           obtain ⟨z0, z1, z2, z3⟩ := HE.out.top))
      all_goals (go_wp2_with fail; go_meet; (try case rel => skip); first | exact ⟨_, nD, aD, lD, cD, rfl, rfl, St.sub (HE.out.new _ rfl nD aD lD cD) (fun p hp => by simp only [List.mem_cons, List.mem_nil_iff, or_false] at hp ⊢; rcases hp with h | h | h | h <;> simp [h]) (fun p hp => by simp only [List.mem_cons, List.mem_nil_iff, or_false] at hp ⊢; rcases hp with h | h | h | h <;> simp [h])⟩ | exact ⟨_, nD, aD, lD, cD, rfl, rfl, St.sub (HE.out.set HNE.out.1 HNE.out.2 nD aD lD cD) (fun p hp => by simp only [List.mem_cons, List.mem_nil_iff, or_false] at hp ⊢; rcases hp with h | h | h | h <;> simp [h]) (fun p hp => by simp only [List.mem_cons, List.mem_nil_iff, or_false] at hp ⊢; rcases hp with h | h | h | h <;> simp [h])⟩)
    case rest =>
      obtain ⟨gD, nD, aD, lD, cD, rfl, rfl, HE⟩ := hcut
      obtain ⟨xA0, xA1, -, -⟩ := HE.out.cells (g := gA) (n := nA) (a := aA) (l := lA) (c := cA) (by repeat first | exact List.mem_cons_self | apply List.mem_cons_of_mem)
      go_wp2_with fail
      refine (s_neg (v1 := .agg #[.bool nA, .slice aA lA cA]) HE.out (by repeat first | exact List.mem_cons_self | apply List.mem_cons_of_mem)).mono ?_
      rintro e w1 ⟨nN, aN, lN, cN, rfl, hS⟩
      clear xA0 xA1
      have HE := Lib.hid hS
      clear hS
      have HE := Lib.hid (HE.out.new (w1.heap.size) rfl nN aN lN cN)
      go_wp2_with fail
      generalize hWk : (w1.alloc (Obj.cells #[.bool nN, .slice aN lN cN] 44)) = W2 at *
      clear hWk
      generalize w1.heap.size = gN at *
      have HE := Lib.hid HE.out.drew
      go_region_held3 (fun W => W.cell? ⟨gA, 0, none⟩ = some (.bool nA) ∧ W.cell? ⟨gA, 1, none⟩ = some (.slice aA lA cA) ∧ W.cell? ⟨gB, 0, none⟩ = some (.bool nB) ∧ W.cell? ⟨gB, 1, none⟩ = some (.slice aB lB cB) ∧ W.cell? ⟨gC, 0, none⟩ = some (.bool nC) ∧ W.cell? ⟨gC, 1, none⟩ = some (.slice aC lC cC) ∧ W.cell? ⟨gD, 0, none⟩ = some (.bool nD) ∧ W.cell? ⟨gD, 1, none⟩ = some (.slice aD lD cD) ∧ W.cell? ⟨gN, 0, none⟩ = some (.bool nN) ∧ W.cell? ⟨gN, 1, none⟩ = some (.slice aN lN cN))
        (exact ⟨(HE.out.cells (g := gA) (n := nA) (a := aA) (l := lA) (c := cA) (by repeat first | exact List.mem_cons_self | apply List.mem_cons_of_mem)).1, (HE.out.cells (g := gA) (n := nA) (a := aA) (l := lA) (c := cA) (by repeat first | exact List.mem_cons_self | apply List.mem_cons_of_mem)).2.1, (HE.out.cells (g := gB) (n := nB) (a := aB) (l := lB) (c := cB) (by repeat first | exact List.mem_cons_self | apply List.mem_cons_of_mem)).1, (HE.out.cells (g := gB) (n := nB) (a := aB) (l := lB) (c := cB) (by repeat first | exact List.mem_cons_self | apply List.mem_cons_of_mem)).2.1, (HE.out.cells (g := gC) (n := nC) (a := aC) (l := lC) (c := cC) (by repeat first | exact List.mem_cons_self | apply List.mem_cons_of_mem)).1, (HE.out.cells (g := gC) (n := nC) (a := aC) (l := lC) (c := cC) (by repeat first | exact List.mem_cons_self | apply List.mem_cons_of_mem)).2.1, (HE.out.cells (g := gD) (n := nD) (a := aD) (l := lD) (c := cD) (by repeat first | exact List.mem_cons_self | apply List.mem_cons_of_mem)).1, (HE.out.cells (g := gD) (n := nD) (a := aD) (l := lD) (c := cD) (by repeat first | exact List.mem_cons_self | apply List.mem_cons_of_mem)).2.1, (HE.out.cells (g := gN) (n := nN) (a := aN) (l := lN) (c := cN) (by repeat first | exact List.mem_cons_self | apply List.mem_cons_of_mem)).1, (HE.out.cells (g := gN) (n := nN) (a := aN) (l := lN) (c := cN) (by repeat first | exact List.mem_cons_self | apply List.mem_cons_of_mem)).2.1⟩)
        (first
        | (go_at_call 23; (with_reducible refine (s_sum HE.out (HTS.out _ HE.out.bel) (by repeat first | exact List.mem_cons_self | apply List.mem_cons_of_mem) (by repeat first | exact List.mem_cons_self | apply List.mem_cons_of_mem) ?hl).mono ?_)
           (case hl => (exact Bt.lim (by repeat (first | exact HL0.out | exact HL1.out | exact HL2.out | apply Bt.mul | apply Bt.sub | apply Bt.add | apply Bt.neg)) (by decide)))
           rintro e wZZ ⟨nZZ, aZZ, lZZ, cZZ, rfl, hS⟩
           have HE := Lib.hid hS
           clear hS)
        | (go_at_call 27; (with_reducible refine (s_product HE.out (HT.out _ HE.out.bel) (HTR.out _ HE.out.bel) (by repeat first | exact List.mem_cons_self | apply List.mem_cons_of_mem) (by repeat first | exact List.mem_cons_self | apply List.mem_cons_of_mem) ?hl).mono ?_)
           (case hl => (exact Bt.lim (by repeat (first | exact HL0.out | exact HL1.out | exact HL2.out | apply Bt.mul | apply Bt.sub | apply Bt.add | apply Bt.neg)) (by decide)))
           rintro e wZZ ⟨nZZ, aZZ, lZZ, cZZ, rfl, hS⟩
           have HE := Lib.hid hS
           clear hS)
        | (go_at_call 25; (with_reducible refine (s_sameT HE.out (by repeat first | exact List.mem_cons_self | apply List.mem_cons_of_mem) (by repeat first | exact List.mem_cons_self | apply List.mem_cons_of_mem) ?hl).mono ?_)
           (case hl => (first | rfl | exact Int.add_comm _ _ | exact Int.mul_comm _ _ | exact Int.add_assoc _ _ _ | exact Int.mul_assoc _ _ _ | exact Int.mul_add _ _ _))
           rintro e wZZ ⟨rfl, hS⟩
           have HE := Lib.hid hS
           clear hS)
        | (go_at_call 26; (with_reducible refine (s_sign HE.out (by repeat first | exact List.mem_cons_self | apply List.mem_cons_of_mem)).mono ?_)
           rintro e wZZ ⟨rfl, hS⟩
           have HE := Lib.hid hS
           clear hS
           (first | rw [HSG1.out] | rw [HSG2.out] | rw [HSG3.out] | rw [HSX.out] | rw [HSY.out] | rw [HSZ.out])))
      have HE := Lib.hid (HE.out.sub (L' := [(.agg #[.bool nA, .slice aA lA cA], Zx), (.agg #[.bool nB, .slice aB lB cB], Zy), (.agg #[.bool nC, .slice aC lC cC], Zz)]) (G' := [(gA, nA, aA, lA, cA), (gB, nB, aB, lB, cB), (gC, nC, aC, lC, cC)]) (fun p hp => by simp only [List.mem_cons, List.mem_nil_iff, or_false] at hp ⊢; rcases hp with h | h | h <;> simp [h]) (fun p hp => by simp only [List.mem_cons, List.mem_nil_iff, or_false] at hp ⊢; rcases hp with h | h | h <;> simp [h]))
      go_wp2_with fail
      have HE := Lib.hid HE.out.drew
      go_region_held3 (fun W => W.cell? ⟨gA, 0, none⟩ = some (.bool nA) ∧ W.cell? ⟨gA, 1, none⟩ = some (.slice aA lA cA) ∧ W.cell? ⟨gB, 0, none⟩ = some (.bool nB) ∧ W.cell? ⟨gB, 1, none⟩ = some (.slice aB lB cB) ∧ W.cell? ⟨gC, 0, none⟩ = some (.bool nC) ∧ W.cell? ⟨gC, 1, none⟩ = some (.slice aC lC cC))
        (exact ⟨(HE.out.cells (g := gA) (n := nA) (a := aA) (l := lA) (c := cA) (by repeat first | exact List.mem_cons_self | apply List.mem_cons_of_mem)).1, (HE.out.cells (g := gA) (n := nA) (a := aA) (l := lA) (c := cA) (by repeat first | exact List.mem_cons_self | apply List.mem_cons_of_mem)).2.1, (HE.out.cells (g := gB) (n := nB) (a := aB) (l := lB) (c := cB) (by repeat first | exact List.mem_cons_self | apply List.mem_cons_of_mem)).1, (HE.out.cells (g := gB) (n := nB) (a := aB) (l := lB) (c := cB) (by repeat first | exact List.mem_cons_self | apply List.mem_cons_of_mem)).2.1, (HE.out.cells (g := gC) (n := nC) (a := aC) (l := lC) (c := cC) (by repeat first | exact List.mem_cons_self | apply List.mem_cons_of_mem)).1, (HE.out.cells (g := gC) (n := nC) (a := aC) (l := lC) (c := cC) (by repeat first | exact List.mem_cons_self | apply List.mem_cons_of_mem)).2.1⟩)
        (first
        | (go_at_call 23; (with_reducible refine (s_sum HE.out (HTS.out _ HE.out.bel) (by repeat first | exact List.mem_cons_self | apply List.mem_cons_of_mem) (by repeat first | exact List.mem_cons_self | apply List.mem_cons_of_mem) ?hl).mono ?_)
           (case hl => (exact Bt.lim (by repeat (first | exact HL0.out | exact HL1.out | exact HL2.out | apply Bt.mul | apply Bt.sub | apply Bt.add | apply Bt.neg)) (by decide)))
           rintro e wZZ ⟨nZZ, aZZ, lZZ, cZZ, rfl, hS⟩
           have HE := Lib.hid hS
           clear hS)
        | (go_at_call 27; (with_reducible refine (s_product HE.out (HT.out _ HE.out.bel) (HTR.out _ HE.out.bel) (by repeat first | exact List.mem_cons_self | apply List.mem_cons_of_mem) (by repeat first | exact List.mem_cons_self | apply List.mem_cons_of_mem) ?hl).mono ?_)
           (case hl => (exact Bt.lim (by repeat (first | exact HL0.out | exact HL1.out | exact HL2.out | apply Bt.mul | apply Bt.sub | apply Bt.add | apply Bt.neg)) (by decide)))
           rintro e wZZ ⟨nZZ, aZZ, lZZ, cZZ, rfl, hS⟩
           have HE := Lib.hid hS
           clear hS)
        | (go_at_call 25; (with_reducible refine (s_sameT HE.out (by repeat first | exact List.mem_cons_self | apply List.mem_cons_of_mem) (by repeat first | exact List.mem_cons_self | apply List.mem_cons_of_mem) ?hl).mono ?_)
           (case hl => (first | rfl | exact Int.add_comm _ _ | exact Int.mul_comm _ _ | exact Int.add_assoc _ _ _ | exact Int.mul_assoc _ _ _ | exact Int.mul_add _ _ _))
           rintro e wZZ ⟨rfl, hS⟩
           have HE := Lib.hid hS
           clear hS)
        | (go_at_call 26; (with_reducible refine (s_sign HE.out (by repeat first | exact List.mem_cons_self | apply List.mem_cons_of_mem)).mono ?_)
           rintro e wZZ ⟨rfl, hS⟩
           have HE := Lib.hid hS
           clear hS
           (first | rw [HSG1.out] | rw [HSG2.out] | rw [HSG3.out] | rw [HSX.out] | rw [HSY.out] | rw [HSZ.out])))
      have HE := Lib.hid (HE.out.sub (L' := [(.agg #[.bool nA, .slice aA lA cA], Zx), (.agg #[.bool nB, .slice aB lB cB], Zy), (.agg #[.bool nC, .slice aC lC cC], Zz)]) (G' := [(gA, nA, aA, lA, cA), (gB, nB, aB, lB, cB), (gC, nC, aC, lC, cC)]) (fun p hp => by simp only [List.mem_cons, List.mem_nil_iff, or_false] at hp ⊢; rcases hp with h | h | h <;> simp [h]) (fun p hp => by simp only [List.mem_cons, List.mem_nil_iff, or_false] at hp ⊢; rcases hp with h | h | h <;> simp [h]))
      obtain ⟨xA0, xA1, -, -⟩ := HE.out.cells (g := gA) (n := nA) (a := aA) (l := lA) (c := cA) (by repeat first | exact List.mem_cons_self | apply List.mem_cons_of_mem)
      obtain ⟨xB0, xB1, -, -⟩ := HE.out.cells (g := gB) (n := nB) (a := aB) (l := lB) (c := cB) (by repeat first | exact List.mem_cons_self | apply List.mem_cons_of_mem)
      go_wp2_with fail
      refine (s_cmp (v1 := .agg #[.bool nA, .slice aA lA cA]) (v2 := .agg #[.bool nB, .slice aB lB cB]) HE.out (HT.out _ HE.out.bel) (by repeat first | exact List.mem_cons_self | apply List.mem_cons_of_mem) (by repeat first | exact List.mem_cons_self | apply List.mem_cons_of_mem)).mono ?_
      rintro e w3 ⟨rfl, hS⟩
      clear xA0 xA1 xB0 xB1
      have HE := Lib.hid hS
      clear hS
      rw [HKK.out]
      go_wp2_with fail
      have HE := Lib.hid HE.out.drew
      go_region_held3 (fun W => W.cell? ⟨gA, 0, none⟩ = some (.bool nA) ∧ W.cell? ⟨gA, 1, none⟩ = some (.slice aA lA cA) ∧ W.cell? ⟨gB, 0, none⟩ = some (.bool nB) ∧ W.cell? ⟨gB, 1, none⟩ = some (.slice aB lB cB) ∧ W.cell? ⟨gC, 0, none⟩ = some (.bool nC) ∧ W.cell? ⟨gC, 1, none⟩ = some (.slice aC lC cC))
        (exact ⟨(HE.out.cells (g := gA) (n := nA) (a := aA) (l := lA) (c := cA) (by repeat first | exact List.mem_cons_self | apply List.mem_cons_of_mem)).1, (HE.out.cells (g := gA) (n := nA) (a := aA) (l := lA) (c := cA) (by repeat first | exact List.mem_cons_self | apply List.mem_cons_of_mem)).2.1, (HE.out.cells (g := gB) (n := nB) (a := aB) (l := lB) (c := cB) (by repeat first | exact List.mem_cons_self | apply List.mem_cons_of_mem)).1, (HE.out.cells (g := gB) (n := nB) (a := aB) (l := lB) (c := cB) (by repeat first | exact List.mem_cons_self | apply List.mem_cons_of_mem)).2.1, (HE.out.cells (g := gC) (n := nC) (a := aC) (l := lC) (c := cC) (by repeat first | exact List.mem_cons_self | apply List.mem_cons_of_mem)).1, (HE.out.cells (g := gC) (n := nC) (a := aC) (l := lC) (c := cC) (by repeat first | exact List.mem_cons_self | apply List.mem_cons_of_mem)).2.1⟩)
        (first
        | (go_at_call 23; (with_reducible refine (s_sum HE.out (HTS.out _ HE.out.bel) (by repeat first | exact List.mem_cons_self | apply List.mem_cons_of_mem) (by repeat first | exact List.mem_cons_self | apply List.mem_cons_of_mem) ?hl).mono ?_)
           (case hl => (exact Bt.lim (by repeat (first | exact HL0.out | exact HL1.out | exact HL2.out | apply Bt.mul | apply Bt.sub | apply Bt.add | apply Bt.neg)) (by decide)))
           rintro e wZZ ⟨nZZ, aZZ, lZZ, cZZ, rfl, hS⟩
           have HE := Lib.hid hS
           clear hS)
        | (go_at_call 27; (with_reducible refine (s_product HE.out (HT.out _ HE.out.bel) (HTR.out _ HE.out.bel) (by repeat first | exact List.mem_cons_self | apply List.mem_cons_of_mem) (by repeat first | exact List.mem_cons_self | apply List.mem_cons_of_mem) ?hl).mono ?_)
           (case hl => (exact Bt.lim (by repeat (first | exact HL0.out | exact HL1.out | exact HL2.out | apply Bt.mul | apply Bt.sub | apply Bt.add | apply Bt.neg)) (by decide)))
           rintro e wZZ ⟨nZZ, aZZ, lZZ, cZZ, rfl, hS⟩
           have HE := Lib.hid hS
           clear hS)
        | (go_at_call 25; (with_reducible refine (s_same HE.out (by repeat first | exact List.mem_cons_self | apply List.mem_cons_of_mem) (by repeat first | exact List.mem_cons_self | apply List.mem_cons_of_mem)).mono ?_)
           rintro e wZZ ⟨rfl, hS⟩
           have HE := Lib.hid hS
           clear hS
           rw [HDQ.out])
        | (go_at_call 26; (with_reducible refine (s_sign HE.out (by repeat first | exact List.mem_cons_self | apply List.mem_cons_of_mem)).mono ?_)
           rintro e wZZ ⟨rfl, hS⟩
           have HE := Lib.hid hS
           clear hS
           (first | rw [HSG1.out] | rw [HSG2.out] | rw [HSG3.out] | rw [HSX.out] | rw [HSY.out] | rw [HSZ.out]))
        | (go_at_call 28; (with_reducible refine (s_cmp HE.out (HT.out _ HE.out.bel) (by repeat first | exact List.mem_cons_self | apply List.mem_cons_of_mem) (by repeat first | exact List.mem_cons_self | apply List.mem_cons_of_mem)).mono ?_)
           rintro e wZZ ⟨rfl, hS⟩
           have HE := Lib.hid hS
           clear hS
           (first | rw [HC2.out] | rw [HC3.out] | rw [HC4.out] | rw [HKK.out])))
      have HE := Lib.hid (HE.out.sub (L' := [(.agg #[.bool nA, .slice aA lA cA], Zx), (.agg #[.bool nB, .slice aB lB cB], Zy), (.agg #[.bool nC, .slice aC lC cC], Zz)]) (G' := [(gA, nA, aA, lA, cA), (gB, nB, aB, lB, cB), (gC, nC, aC, lC, cC)]) (fun p hp => by simp only [List.mem_cons, List.mem_nil_iff, or_false] at hp ⊢; rcases hp with h | h | h <;> simp [h]) (fun p hp => by simp only [List.mem_cons, List.mem_nil_iff, or_false] at hp ⊢; rcases hp with h | h | h <;> simp [h]))
      go_wp2_with fail
      have HE := Lib.hid HE.out.drew
      go_region_held3 (fun W => W.cell? ⟨gA, 0, none⟩ = some (.bool nA) ∧ W.cell? ⟨gA, 1, none⟩ = some (.slice aA lA cA) ∧ W.cell? ⟨gB, 0, none⟩ = some (.bool nB) ∧ W.cell? ⟨gB, 1, none⟩ = some (.slice aB lB cB) ∧ W.cell? ⟨gC, 0, none⟩ = some (.bool nC) ∧ W.cell? ⟨gC, 1, none⟩ = some (.slice aC lC cC))
        (exact ⟨(HE.out.cells (g := gA) (n := nA) (a := aA) (l := lA) (c := cA) (by repeat first | exact List.mem_cons_self | apply List.mem_cons_of_mem)).1, (HE.out.cells (g := gA) (n := nA) (a := aA) (l := lA) (c := cA) (by repeat first | exact List.mem_cons_self | apply List.mem_cons_of_mem)).2.1, (HE.out.cells (g := gB) (n := nB) (a := aB) (l := lB) (c := cB) (by repeat first | exact List.mem_cons_self | apply List.mem_cons_of_mem)).1, (HE.out.cells (g := gB) (n := nB) (a := aB) (l := lB) (c := cB) (by repeat first | exact List.mem_cons_self | apply List.mem_cons_of_mem)).2.1, (HE.out.cells (g := gC) (n := nC) (a := aC) (l := lC) (c := cC) (by repeat first | exact List.mem_cons_self | apply List.mem_cons_of_mem)).1, (HE.out.cells (g := gC) (n := nC) (a := aC) (l := lC) (c := cC) (by repeat first | exact List.mem_cons_self | apply List.mem_cons_of_mem)).2.1⟩)
        (first
        | (go_at_call 23; (with_reducible refine (s_sum HE.out (HTS.out _ HE.out.bel) (by repeat first | exact List.mem_cons_self | apply List.mem_cons_of_mem) (by repeat first | exact List.mem_cons_self | apply List.mem_cons_of_mem) ?hl).mono ?_)
           (case hl => (exact Bt.lim (by repeat (first | exact HL0.out | exact HL1.out | exact HL2.out | apply Bt.mul | apply Bt.sub | apply Bt.add | apply Bt.neg)) (by decide)))
           rintro e wZZ ⟨nZZ, aZZ, lZZ, cZZ, rfl, hS⟩
           have HE := Lib.hid hS
           clear hS)
        | (go_at_call 27; (with_reducible refine (s_product HE.out (HT.out _ HE.out.bel) (HTR.out _ HE.out.bel) (by repeat first | exact List.mem_cons_self | apply List.mem_cons_of_mem) (by repeat first | exact List.mem_cons_self | apply List.mem_cons_of_mem) ?hl).mono ?_)
           (case hl => (exact Bt.lim (by repeat (first | exact HL0.out | exact HL1.out | exact HL2.out | apply Bt.mul | apply Bt.sub | apply Bt.add | apply Bt.neg)) (by decide)))
           rintro e wZZ ⟨nZZ, aZZ, lZZ, cZZ, rfl, hS⟩
           have HE := Lib.hid hS
           clear hS)
        | (go_at_call 26; (with_reducible refine (s_sign HE.out (by repeat first | exact List.mem_cons_self | apply List.mem_cons_of_mem)).mono ?_)
           rintro e wZZ ⟨rfl, hS⟩
           have HE := Lib.hid hS
           clear hS
           (first | rw [HSG1.out] | rw [HSG2.out] | rw [HSG3.out] | rw [HSX.out] | rw [HSY.out] | rw [HSZ.out]))
        | (go_at_call 28; (with_reducible refine (s_cmp HE.out (HT.out _ HE.out.bel) (by repeat first | exact List.mem_cons_self | apply List.mem_cons_of_mem) (by repeat first | exact List.mem_cons_self | apply List.mem_cons_of_mem)).mono ?_)
           rintro e wZZ ⟨rfl, hS⟩
           have HE := Lib.hid hS
           clear hS
           (first | rw [HC2.out] | rw [HC3.out] | rw [HC4.out] | rw [HKK.out]))
        | (go_at_call 29; (with_reducible refine (s_works HE.out (HT.out _ HE.out.bel)).mono ?_)
           rintro e wZZ ⟨rfl, hS⟩
           have HE := Lib.hid hS
           clear hS))
      all_goals (go_wp2; go_ret; exact ⟨rfl, HE.out.bel⟩)
end Go.Proofs.YthccccpcjafdcaaDoor
