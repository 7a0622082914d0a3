import Derived.Test.YtfjhmnbbjknflaaGreatDoorRw
import Derived.Test.YtfjhmnbbjknflaaGreatDoorHeadW
namespace Go.Proofs.YtfjhmnbbjknflaaGreatDoor
open Go.RowKit

set_option exponentiation.threshold 5000 in
theorem lim_two_pow : LIM = 2 ^ 4096 := by unfold LIM; rw [pow_64]
set_option exponentiation.threshold 5000 in
theorem pow_great {A : Int} {k : Nat} (h : 2 ≤ A.natAbs) (hk : 4096 < k) : LIM ≤ (A ^ k).natAbs := by
  rw [Int.natAbs_pow, lim_two_pow]
  exact Nat.le_trans (Nat.pow_le_pow_left h 4096) (Nat.pow_le_pow_right (by omega) (by omega))
theorem pow_mono' {A : Int} {j k : Nat} (h : 2 ≤ A.natAbs) (hk : j ≤ k) (hl : LIM ≤ (A ^ j).natAbs) : LIM ≤ (A ^ k).natAbs := by
  rw [Int.natAbs_pow] at *
  exact Nat.le_trans hl (Nat.pow_le_pow_right (by omega) hk)
theorem unit_pow {A : Int} {k : Nat} (h : A.natAbs = 1) : (A ^ k).natAbs = 1 ∧ decide (A ^ k < 0) = (decide (A < 0) && decide (k % 2 = 1)) := by
  have hp : (A ^ k).natAbs = 1 := by rw [Int.natAbs_pow, h, Nat.one_pow]
  refine ⟨hp, ?_⟩
  rcases (show A = 1 ∨ A = -1 by omega) with rfl | rfl
  · rw [Int.one_pow]; rfl
  · have e : ∀ m : Nat, (-1 : Int) ^ m = if m % 2 = 1 then -1 else 1 := by
      intro m
      induction m with
      | zero => rfl
      | succ m ih =>
        rw [Int.pow_succ, ih]
        by_cases h1 : m % 2 = 1
        · rw [if_pos h1, if_neg (by omega)]; rfl
        · rw [if_neg h1, if_pos (by omega)]; rfl
    rw [e]
    by_cases h1 : k % 2 = 1
    · rw [if_pos h1, decide_eq_true h1]; rfl
    · rw [if_neg h1, decide_eq_false h1]; rfl
theorem drew_set2 (w : World) (p q : Addr) (u v : Value) : ((w.setCell p u).setCell q v).drew = (w.drew.setCell p u).setCell q v := rfl
theorem WTold.drew {Q : Int → Bool → List Nat → Prop} {w w' : World} {e : Ending} (h : WTold Q w e w') : WTold Q w e w'.drew := by
  obtain ⟨hb, n, a, c, k, zs, he, ho, hQ⟩ := h
  exact ⟨hb.trans ((Below.refl _ _).drew.mono hb.size), n, a, c, k, zs, he, ho, hQ⟩
theorem pow_le_one_two {q : Nat} (h : 2 ^ (q - 1) ≤ 1) : q ≤ 1 := by
  rcases Nat.lt_or_ge 1 q with h1 | h1
  · have h2 : 2 ^ 1 ≤ 2 ^ (q - 1) := Nat.pow_le_pow_right (by decide) (by omega)
    omega
  · exact h1
theorem own64_len' {w : World} {B l c : Nat} {a : Option Addr} {zs : List Nat} (h1 : zs.length = l) (h : own64 w B (.slice a l c) zs) : Rd .u64 w a zs := by
  subst h1; exact (own64.rd h).2
theorem own_set {W : World} {B g l c : Nat} {n : Bool} {a : Option Addr} {v u0 u1 : Value} {zs : List Nat} (h : own64 W B v zs) (hb : W.heap[g]? = some (WO n a l c)) : own64 ((W.setCell ⟨g, 0, none⟩ u0).setCell ⟨g, 1, none⟩ u1) B v zs := by
  have hc : Chg (fun k => k = g) W ((W.setCell ⟨g, 0, none⟩ u0).setCell ⟨g, 1, none⟩ u1) := ((Chg.refl (fun k => k = g) _).setCell (p := ⟨g, 0, none⟩) rfl _).setCell (p := ⟨g, 1, none⟩) rfl _
  exact hc.owns h fun k hk he => own64.not_held h ⟨_, _, _, _, hb⟩ hk he
set_option exponentiation.threshold 10000 in
theorem num_len2 {z : List Nat} {a b : Int} (h : Num z (a * b).natAbs) (ha : a.natAbs < LIM) (hb : b.natAbs < LIM) : z.length ≤ 1048576 := by
  have h1 : (a * b).natAbs < LIM * LIM := by rw [Int.natAbs_mul]; exact Nat.mul_lt_mul'' ha hb
  have h2 : LIM * LIM = 18446744073709551616 ^ 128 := by unfold LIM; rw [← Nat.pow_add]
  rw [h2] at h1
  have := (h.len_le (k := 128)).2 h1
  omega
theorem low_limb {zs : List Nat} {n l : Nat} (h : Num zs n) (hl : zs.length = l) (h0 : 0 < zs.length) : at0 zs 0 % 2 = n % 2 ∧ at0 zs 0 < 18446744073709551616 ∧ (l = 1 → at0 zs 0 = n) ∧ (1 < l → 18446744073709551616 ≤ n) := by
  have h1 := at0_val h.bd 0 h0
  rw [h.vl, Nat.pow_zero, Nat.div_one] at h1
  have h2 := h.len_lt (k := 1)
  have h3 := h.len_le (k := 1)
  rw [Nat.pow_one] at h2 h3
  rw [h1]
  refine ⟨by omega, by omega, fun e => ?_, fun e => ?_⟩
  · have := h3.1 (by omega); omega
  · exact h2.1 (by omega)
set_option maxHeartbeats 4000000 in
set_option maxRecDepth 100000 in
theorem r2pow_any (nx ny : Bool) (ax ay : Option Addr) (lx cx ly cy : Nat) (xsx xsy : List Nat) (w : World) (hlx : xsx.length = lx) (hly : xsy.length = ly) (hbx : lx ≤ 200) (hby : ly ≤ 200) (hrx : Rd .u64 w ax xsx) (hry : Rd .u64 w ay xsy) (bxx : Bd xsx) (bxy : Bd xsy) :
    Calls Tryz.prog 9 #[.agg #[.bool nx, .slice ax lx cx], .agg #[.bool ny, .slice ay ly cy]] w (WTold (PowTells (val xsx < LIM ∧ val xsy < LIM) (wv nx xsx) (wv ny xsy)) w) := by
  have HRX := Lib.hid (fun (W : World) (h : Below w.heap.size w W) => hrx.below h)
  have HRY := Lib.hid (fun (W : World) (h : Below w.heap.size w W) => hry.below h)
  have HBX := Lib.hid bxx
  have HBY := Lib.hid bxy
  have HLX := Lib.hid hlx
  have HLY := Lib.hid hly
  have HI0 : Hid (∀ (W : World) (_ : Below w.heap.size w W), Calls Tryz.prog 67 #[.agg #[.bool nx, .slice ax lx cx]] W (IPost (wv nx xsx) W)) := fun W h => r2form_any nx ax lx cx xsx W HLX.out (by omega) (HRX.out _ h) HBX.out
  have HI1 : Hid (∀ (W : World) (_ : Below w.heap.size w W), Calls Tryz.prog 67 #[.agg #[.bool ny, .slice ay ly cy]] W (IPost (wv ny xsy) W)) := fun W h => r2form_any ny ay ly cy xsy W HLY.out (by omega) (HRY.out _ h) HBY.out
  have HAX := Lib.hid (wv_abs nx xsx)
  have HAY := Lib.hid (wv_abs ny xsy)
  clear hrx hry bxx bxy hlx hly
  generalize wv nx xsx = Zx at *
  generalize wv ny xsy = Zy at *
  go_enter Tryz.func9, Tryz.ntmps9
  have HE := Lib.hid ((((St.init w).new (w.heap.size) rfl nx ax lx cx).new (w.heap.size + 1) (by simp) ny ay ly cy).new (w.heap.size + 1 + 1) (by simp) false none 0 0)
  go_wp2_with fail
  refine (r2fits_any nx ax lx cx xsx _ HLX.out (by omega) (HRX.out _ HE.out.bel) HBX.out).mono ?_
  rintro e w1 ⟨rfl, hb1⟩
  have HE := Lib.hid (HE.out.below hb1)
  clear hb1
  by_cases h1 : val xsx < LIM
  rotate_left
  · rw [decide_eq_false h1]
    have HP := Lib.hid (show WTold (PowTells (val xsx < LIM ∧ val xsy < LIM) Zx Zy) w (.returned (.tuple #[.agg #[.bool false, .slice none 0 0], .int .i64 3])) w1 from ⟨HE.out.bel, false, none, 0, 3, [], rfl, own64_nil _ _, .inl ⟨fun h => h1 h.1, rfl, rfl, rfl⟩⟩)
    have HR : Hid (RBlk w1 (w.heap.size + 1 + 1)) := rblk (HE.out.boxes _ List.mem_cons_self)
    obtain ⟨_, d0, d1, e0, e1⟩ := HR.out
    clear h1
    go_wp2
    refine bodyPost_ret (results_WOset rfl rfl rfl HR.out) rfl ?_
    exact HP.out.set HR.out (by omega) _ _
  rw [decide_eq_true h1]
  have H1 := Lib.hid h1
  clear h1
  obtain ⟨y0, y1, -, -⟩ := HE.out.cells (g := w.heap.size + 1) (n := ny) (a := ay) (l := ly) (c := cy) (by simp)
  go_wp2_with fail
  clear y0 y1
  refine (r2fits_any ny ay ly cy xsy _ HLY.out (by omega) (HRY.out _ HE.out.bel) HBY.out).mono ?_
  rintro e w2 ⟨rfl, hb1⟩
  have HE := Lib.hid (HE.out.below hb1)
  clear hb1
  by_cases h2 : val xsy < LIM
  rotate_left
  · rw [decide_eq_false h2]
    have HP := Lib.hid (show WTold (PowTells (val xsx < LIM ∧ val xsy < LIM) Zx Zy) w (.returned (.tuple #[.agg #[.bool false, .slice none 0 0], .int .i64 3])) w2 from ⟨HE.out.bel, false, none, 0, 3, [], rfl, own64_nil _ _, .inl ⟨fun h => h2 h.2, rfl, rfl, rfl⟩⟩)
    have HR : Hid (RBlk w2 (w.heap.size + 1 + 1)) := rblk (HE.out.boxes _ List.mem_cons_self)
    obtain ⟨_, d0, d1, e0, e1⟩ := HR.out
    clear h2
    go_wp2
    refine bodyPost_ret (results_WOset rfl rfl rfl HR.out) rfl ?_
    exact HP.out.set HR.out (by omega) _ _
  rw [decide_eq_true h2]
  have H2 := Lib.hid h2
  have HLM0 : Hid (Zx.natAbs < LIM) := by show _ < _; rw [HAX.out]; exact H1.out
  have HLM1 : Hid (Zy.natAbs < LIM) := by show _ < _; rw [HAY.out]; exact H2.out
  clear h2
  obtain ⟨x0, x1, -, -⟩ := HE.out.cells (g := w.heap.size) (n := nx) (a := ax) (l := lx) (c := cx) (by simp)
  obtain ⟨y0, y1, -, -⟩ := HE.out.cells (g := w.heap.size + 1) (n := ny) (a := ay) (l := ly) (c := cy) (by simp)
  go_wp2_with fail
  clear x0 x1 y0 y1
  have HE0 := HE
  refine wp_region_inv (by kernel_rfl) (by kernel_rfl) (fun L val W => PhW1 w [((w.heap.size + 1 + 1), false, none, 0, 0), ((w.heap.size + 1), ny, ay, ly, cy), (w.heap.size, nx, ax, lx, cx)] 2 (fun k : Nat => if k = 0 then Value.agg #[.bool nx, .slice ax lx cx] else (Value.agg #[.bool ny, .slice ay ly cy])) (fun k : Nat => if k = 0 then Zx else (Zy)) L val W ∨ Ful21 w [((w.heap.size + 1 + 1), false, none, 0, 0), ((w.heap.size + 1), ny, ay, ly, cy), (w.heap.size, nx, ax, lx, cx)] (fun k : Nat => if k = 0 then Zx else (Zy)) L val W ∨ Ful22 w [((w.heap.size + 1 + 1), false, none, 0, 0), ((w.heap.size + 1), ny, ay, ly, cy), (w.heap.size, nx, ax, lx, cx)] (fun k : Nat => if k = 0 then Zx else (Zy)) L val W) (.inl (PhW1.init 2 _ _ HE.out.drew)) (fun L L' val W h => by have e : L = L' := funext h; rw [e]; exact id) ?step ?fin
  case step =>
    intro i o L val a W ho hLi hdep hH hΦ K' hK'
    have hi : i < 8 := (Array.getElem?_eq_some_iff.1 ho).1
    have hcs : i = 0 ∨ i = 1 ∨ i = 2 ∨ i = 3 ∨ i = 4 ∨ i = 5 ∨ i = 6 ∨ i = 7 := by omega
    rcases hcs with rfl | rfl | rfl | rfl | rfl | rfl | rfl | rfl
    · obtain rfl := Option.some.inj ho
      have h1 : PhW1 w [((w.heap.size + 1 + 1), false, none, 0, 0), ((w.heap.size + 1), ny, ay, ly, cy), (w.heap.size, nx, ax, lx, cx)] 2 (fun k : Nat => if k = 0 then Value.agg #[.bool nx, .slice ax lx cx] else (Value.agg #[.bool ny, .slice ay ly cy])) (fun k : Nat => if k = 0 then Zx else (Zy)) L val W := by
        rcases hΦ with h | h | h
        · exact h
        · exact absurd (h.1 0 (by decide)) (by rw [hLi]; decide)
        · exact absurd (h.1 0 (by decide)) (by rw [hLi]; decide)
      have e0 := (hH.rest 2 (fun j hj _ => (of_decide_eq_true (by kernel_rfl) : ∀ j, j < 8 → dstAt _ j ≠ some 2) j hj)).trans (rfl : _ = some (Value.pointer (some ⟨w.heap.size, 0, none⟩)))
      obtain ⟨x0, x1, -, -⟩ := h1.st.cells (g := w.heap.size) (n := nx) (a := ax) (l := lx) (c := cx) (by repeat first | exact List.mem_cons_self | apply List.mem_cons_of_mem)
      go_simp
      exact hK'.out _ _ (.inl (h1.step 0 (by decide) _ (Below.refl _ _) rfl (fun h => absurd h (by decide)) (fun k hk h => by omega) (fun k hk h => by omega)))
    · obtain rfl := Option.some.inj ho
      have h1 : PhW1 w [((w.heap.size + 1 + 1), false, none, 0, 0), ((w.heap.size + 1), ny, ay, ly, cy), (w.heap.size, nx, ax, lx, cx)] 2 (fun k : Nat => if k = 0 then Value.agg #[.bool nx, .slice ax lx cx] else (Value.agg #[.bool ny, .slice ay ly cy])) (fun k : Nat => if k = 0 then Zx else (Zy)) L val W := by
        rcases hΦ with h | h | h
        · exact h
        · exact absurd (h.1 1 (by decide)) (by rw [hLi]; decide)
        · exact absurd (h.1 1 (by decide)) (by rw [hLi]; decide)
      have hL0 : L 0 = true := hdep ⟨0, .data⟩ (by simp) rfl
      have e0 := hH.own 0 _ (by decide) rfl hL0 (of_decide_eq_true (by kernel_rfl))
      have e1 : val 0 = Value.agg #[.bool nx, .slice ax lx cx] := h1.sp 0 (by decide) hL0
      rw [e1] at e0
      go_simp
      refine (HI0.out _ h1.st.bel).mono ?_
      rintro e w' ⟨hb, a1, c1, zs, rfl, ho1, hN1⟩
      exact hK'.out _ _ (.inl (h1.step 1 (by decide) _ hb ⟨a1, c1, zs, rfl, owns_base ho1 h1.st.bel.size, hN1, HLM0.out⟩ (fun h => absurd h (by decide)) (fun j hj h => by obtain rfl : j = 0 := (by omega); exact hL0) (fun j hj h => by omega)))
    · obtain rfl := Option.some.inj ho
      have h1 : PhW1 w [((w.heap.size + 1 + 1), false, none, 0, 0), ((w.heap.size + 1), ny, ay, ly, cy), (w.heap.size, nx, ax, lx, cx)] 2 (fun k : Nat => if k = 0 then Value.agg #[.bool nx, .slice ax lx cx] else (Value.agg #[.bool ny, .slice ay ly cy])) (fun k : Nat => if k = 0 then Zx else (Zy)) L val W := by
        rcases hΦ with h | h | h
        · exact h
        · exact absurd (h.1 2 (by decide)) (by rw [hLi]; decide)
        · exact absurd (h.1 2 (by decide)) (by rw [hLi]; decide)
      have e0 := (hH.rest 3 (fun j hj _ => (of_decide_eq_true (by kernel_rfl) : ∀ j, j < 8 → dstAt _ j ≠ some 3) j hj)).trans (rfl : _ = some (Value.pointer (some ⟨(w.heap.size + 1), 0, none⟩)))
      obtain ⟨x0, x1, -, -⟩ := h1.st.cells (g := (w.heap.size + 1)) (n := ny) (a := ay) (l := ly) (c := cy) (by repeat first | exact List.mem_cons_self | apply List.mem_cons_of_mem)
      go_simp
      exact hK'.out _ _ (.inl (h1.step 2 (by decide) _ (Below.refl _ _) rfl (fun h => absurd h (by decide)) (fun k hk h => by omega) (fun k hk h => by omega)))
    · obtain rfl := Option.some.inj ho
      have h1 : PhW1 w [((w.heap.size + 1 + 1), false, none, 0, 0), ((w.heap.size + 1), ny, ay, ly, cy), (w.heap.size, nx, ax, lx, cx)] 2 (fun k : Nat => if k = 0 then Value.agg #[.bool nx, .slice ax lx cx] else (Value.agg #[.bool ny, .slice ay ly cy])) (fun k : Nat => if k = 0 then Zx else (Zy)) L val W := by
        rcases hΦ with h | h | h
        · exact h
        · exact absurd (h.1 3 (by decide)) (by rw [hLi]; decide)
        · exact absurd (h.1 3 (by decide)) (by rw [hLi]; decide)
      have hL0 : L 2 = true := hdep ⟨2, .data⟩ (by simp) rfl
      have e0 := hH.own 2 _ (by decide) rfl hL0 (of_decide_eq_true (by kernel_rfl))
      have e1 : val 2 = Value.agg #[.bool ny, .slice ay ly cy] := h1.sp 2 (by decide) hL0
      rw [e1] at e0
      go_simp
      refine (HI1.out _ h1.st.bel).mono ?_
      rintro e w' ⟨hb, a1, c1, zs, rfl, ho1, hN1⟩
      exact hK'.out _ _ (.inl (h1.step 3 (by decide) _ hb ⟨a1, c1, zs, rfl, owns_base ho1 h1.st.bel.size, hN1, HLM1.out⟩ (fun h => absurd h (by decide)) (fun j hj h => by obtain rfl : j = 1 := (by omega); exact hL0) (fun j hj h => by obtain rfl : j = 0 := (by omega); exact (by first | (refine hdep ⟨1, .data⟩ ?_ rfl; simp; done) | (refine hdep ⟨1, .chain⟩ ?_ rfl; simp; done) | (refine hdep ⟨1, .phase⟩ ?_ rfl; simp; done)))))
    · obtain rfl := Option.some.inj ho
      have h1 : PhW1 w [((w.heap.size + 1 + 1), false, none, 0, 0), ((w.heap.size + 1), ny, ay, ly, cy), (w.heap.size, nx, ax, lx, cx)] 2 (fun k : Nat => if k = 0 then Value.agg #[.bool nx, .slice ax lx cx] else (Value.agg #[.bool ny, .slice ay ly cy])) (fun k : Nat => if k = 0 then Zx else (Zy)) L val W := by
        rcases hΦ with h | h | h
        · exact h
        · exact absurd (h.1 4 (by decide)) (by rw [hLi]; decide)
        · exact absurd (h.1 4 (by decide)) (by rw [hLi]; decide)
      go_simp
      exact hK'.out _ _ (.inl (h1.step 4 (by decide) _ ((Below.refl _ _).alloc (Nat.le_refl _) _) ⟨_, rfl, heap_new _ _, h1.st.bel.size, fun p hp => lt_of_block (h1.st.boxes p hp)⟩ (fun _ => rfl) (fun k hk h => by omega) (fun k hk h => by omega)))
    · obtain rfl := Option.some.inj ho
      have h1 : PhW1 w [((w.heap.size + 1 + 1), false, none, 0, 0), ((w.heap.size + 1), ny, ay, ly, cy), (w.heap.size, nx, ax, lx, cx)] 2 (fun k : Nat => if k = 0 then Value.agg #[.bool nx, .slice ax lx cx] else (Value.agg #[.bool ny, .slice ay ly cy])) (fun k : Nat => if k = 0 then Zx else (Zy)) L val W := by
        rcases hΦ with h | h | h
        · exact h
        · exact absurd (h.1 5 (by decide)) (by rw [hLi]; decide)
        · exact absurd (h.1 5 (by decide)) (by rw [hLi]; decide)
      go_simp
      exact hK'.out _ _ (.inl (h1.step 5 (by decide) _ ((Below.refl _ _).alloc (Nat.le_refl _) _) ⟨_, rfl, heap_new _ _, h1.st.bel.size, fun p hp => lt_of_block (h1.st.boxes p hp)⟩ (fun _ => rfl) (fun k hk h => by omega) (fun k hk h => by omega)))
    · obtain rfl := Option.some.inj ho
      have h1 : PhW1 w [((w.heap.size + 1 + 1), false, none, 0, 0), ((w.heap.size + 1), ny, ay, ly, cy), (w.heap.size, nx, ax, lx, cx)] 2 (fun k : Nat => if k = 0 then Value.agg #[.bool nx, .slice ax lx cx] else (Value.agg #[.bool ny, .slice ay ly cy])) (fun k : Nat => if k = 0 then Zx else (Zy)) L val W := by
        rcases hΦ with h | h | h
        · exact h
        · exact absurd h.2.1.1 (by rw [hLi]; decide)
        · exact absurd h.2.1.1 (by rw [hLi]; decide)
      have hall : ∀ j, j < 6 → L j = true := by
        intro j hj
        have hc : j = 0 ∨ j = 1 ∨ j = 2 ∨ j = 3 ∨ j = 4 ∨ j = 5 := by omega
        rcases hc with rfl | rfl | rfl | rfl | rfl | rfl
        · exact (h1.cl 0 (by decide) (h1.ch 0 (by decide) (by first | (refine hdep ⟨3, .data⟩ ?_ rfl; simp; done) | (refine hdep ⟨3, .chain⟩ ?_ rfl; simp; done) | (refine hdep ⟨3, .phase⟩ ?_ rfl; simp; done))))
        · exact (h1.ch 0 (by decide) (by first | (refine hdep ⟨3, .data⟩ ?_ rfl; simp; done) | (refine hdep ⟨3, .chain⟩ ?_ rfl; simp; done) | (refine hdep ⟨3, .phase⟩ ?_ rfl; simp; done)))
        · exact (h1.cl 1 (by decide) (by first | (refine hdep ⟨3, .data⟩ ?_ rfl; simp; done) | (refine hdep ⟨3, .chain⟩ ?_ rfl; simp; done) | (refine hdep ⟨3, .phase⟩ ?_ rfl; simp; done)))
        · exact (by first | (refine hdep ⟨3, .data⟩ ?_ rfl; simp; done) | (refine hdep ⟨3, .chain⟩ ?_ rfl; simp; done) | (refine hdep ⟨3, .phase⟩ ?_ rfl; simp; done))
        · exact (by first | (refine hdep ⟨4, .data⟩ ?_ rfl; simp; done) | (refine hdep ⟨4, .chain⟩ ?_ rfl; simp; done) | (refine hdep ⟨4, .phase⟩ ?_ rfl; simp; done))
        · exact (by first | (refine hdep ⟨5, .data⟩ ?_ rfl; simp; done) | (refine hdep ⟨5, .chain⟩ ?_ rfl; simp; done) | (refine hdep ⟨5, .phase⟩ ?_ rfl; simp; done))
      have hF := h1.full2 hall
      obtain ⟨hA, hst, nA, aA, lA, cA, gA, nB, aB, lB, cB, gB, eA, pA, eB, pB, hS, dAB, qA, qB⟩ := hF
      have e0 := hH.own 4 _ (by decide) rfl (hA _ (by decide)) (of_decide_eq_true (by kernel_rfl))
      rw [pA] at e0
      have e1 := hH.own 1 _ (by decide) rfl (hA _ (by decide)) (of_decide_eq_true (by kernel_rfl))
      rw [eA] at e1
      obtain ⟨x0, x1, x2, x3⟩ := hS.cells (g := gA) (n := false) (a := none) (l := 0) (c := 0) (by repeat first | exact List.mem_cons_self | apply List.mem_cons_of_mem)
      go_simp
      have hS2 := St.setAt (G1 := []) hS (fun p hp => by cases hp) (fun p hp => by rcases List.mem_cons.1 hp with rfl | hp; (first | assumption | exact Ne.symm (by assumption)); exact Nat.ne_of_lt (qA.2 _ hp)) qA.1 nA aA lA cA
      exact hK'.out undef _ (.inr (.inl ⟨fun j hj => by have hne : j ≠ 6 := (by omega); simpa [upB, hne] using hA j hj, ⟨by simp [upB], by simpa [upB] using hst.2⟩, nA, aA, lA, cA, gA, nB, aB, lB, cB, gB, by simpa [upV] using eA, by simpa [upV] using pA, by simpa [upV] using eB, by simpa [upV] using pB, hS2, dAB, qA, qB⟩))
    · obtain rfl := Option.some.inj ho
      have hF : Ful21 w [((w.heap.size + 1 + 1), false, none, 0, 0), ((w.heap.size + 1), ny, ay, ly, cy), (w.heap.size, nx, ax, lx, cx)] (fun k : Nat => if k = 0 then Zx else (Zy)) L val W := by
        rcases hΦ with h | h | h
        · exact absurd (h.no 6 (by decide)) (by rw [show L 6 = true from (by first | (refine hdep ⟨6, .data⟩ ?_ rfl; simp; done) | (refine hdep ⟨6, .chain⟩ ?_ rfl; simp; done) | (refine hdep ⟨6, .phase⟩ ?_ rfl; simp; done))]; decide)
        · exact h
        · exact absurd (h.2.1.2) (by rw [hLi]; decide)
      obtain ⟨hA, hst, nA, aA, lA, cA, gA, nB, aB, lB, cB, gB, eA, pA, eB, pB, hS, dAB, qA, qB⟩ := hF
      have e0 := hH.own 5 _ (by decide) rfl (hA _ (by decide)) (of_decide_eq_true (by kernel_rfl))
      rw [pB] at e0
      have e1 := hH.own 3 _ (by decide) rfl (hA _ (by decide)) (of_decide_eq_true (by kernel_rfl))
      rw [eB] at e1
      obtain ⟨x0, x1, x2, x3⟩ := hS.cells (g := gB) (n := false) (a := none) (l := 0) (c := 0) (by repeat first | exact List.mem_cons_self | apply List.mem_cons_of_mem)
      go_simp
      have hS2 := St.setAt (G1 := [(gA, nA, aA, lA, cA)]) hS (fun p hp => by rcases List.mem_cons.1 hp with rfl | hp; (first | assumption | exact Ne.symm (by assumption)); cases hp) (fun p hp => by exact Nat.ne_of_lt (qB.2 _ hp)) qB.1 nB aB lB cB
      exact hK'.out undef _ (.inr (.inr ⟨fun j hj => by have hne : j ≠ 7 := (by omega); simpa [upB, hne] using hA j hj, ⟨by simpa [upB] using hst.1, by simp [upB]⟩, nA, aA, lA, cA, gA, nB, aB, lB, cB, gB, by simpa [upV] using eA, by simpa [upV] using pA, by simpa [upV] using eB, by simpa [upV] using pB, hS2, dAB, qA, qB⟩))
  case fin =>
    intro L val wH hL hΦ
    have hF : Ful22 w [((w.heap.size + 1 + 1), false, none, 0, 0), ((w.heap.size + 1), ny, ay, ly, cy), (w.heap.size, nx, ax, lx, cx)] (fun k : Nat => if k = 0 then Zx else (Zy)) L val wH := by
      rcases hΦ with h | h | h
      · exact absurd (h.no 7 (by decide)) (by rw [hL 7 (of_decide_eq_true (by kernel_rfl))]; decide)
      · exact absurd (h.2.1.2) (by rw [hL 7 (of_decide_eq_true (by kernel_rfl))]; decide)
      · exact h
    obtain ⟨hA, hst, nA, aA, lA, cA, gA, nB, aB, lB, cB, gB, eA, pA, eB, pB, hS, dAB, qA, qB⟩ := hF
    simp only [List.size_toArray, List.length_cons, List.length_nil, Nat.zero_add, Nat.reduceAdd, putAll, dstAt, Act.put, List.getElem?_toArray, List.getElem?_cons_zero, List.getElem?_cons_succ, Option.bind_some, List.setIfInBounds_toArray, List.set_cons_zero, List.set_cons_succ]
    rw [eA, pA, eB, pB]
    generalize val 0 = s0
    generalize val 2 = s1
    have hS : St w [(.agg #[.bool nB, .slice aB lB cB], Zy), (.agg #[.bool nA, .slice aA lA cA], Zx)] [(gA, nA, aA, lA, cA), (gB, nB, aB, lB, cB), ((w.heap.size + 1 + 1), false, none, 0, 0)] wH := St.sub hS (fun p hp => hp) (fun p hp => by simp only [List.mem_cons, List.mem_nil_iff, or_false] at hp ⊢; rcases hp with h | h | h <;> simp [h])
    have HS := Lib.hid hS
    have HGA := Lib.hid qA.1
    have HGB := Lib.hid qB.1
    have HGN := Lib.hid (And.intro (qA.2 _ List.mem_cons_self) (qB.2 _ List.mem_cons_self))
    have HDD := Lib.hid dAB
    clear hΦ hL hA hst hS eA pA qA eB pB qB dAB HE0 HE
    obtain ⟨zsA, hnA, hlA, hoA, hNA, -⟩ := (HS.out.val (v := .agg #[.bool nA, .slice aA lA cA]) (Z := Zx) (by repeat first | exact List.mem_cons_self | apply List.mem_cons_of_mem)).opens
    obtain ⟨zsB, hnB, hlB, hoB, hNB, -⟩ := (HS.out.val (v := .agg #[.bool nB, .slice aB lB cB]) (Z := Zy) (by repeat first | exact List.mem_cons_self | apply List.mem_cons_of_mem)).opens
    have HNA := Lib.hid hNA
    have HNB := Lib.hid hNB
    have HLA := Lib.hid hlA
    have HLB := Lib.hid hlB
    have HSA := Lib.hid hnA
    have HSB := Lib.hid hnB
    have HOA : Hid (own64 wH w.heap.size (.slice aA zsA.length cA) zsA) := by show own64 _ _ _ _; first | exact hoA | exact (hlA.symm ▸ hoA)
    have HOB : Hid (own64 wH w.heap.size (.slice aB zsB.length cB) zsB) := by show own64 _ _ _ _; first | exact hoB | exact (hlB.symm ▸ hoB)
    clear hnA hlA hoA hNA hnB hlB hoB hNB
    have HGE : Hid (True) := trivial
    obtain ⟨y0, y1, -, -⟩ := HS.out.cells (g := gB) (n := nB) (a := aB) (l := lB) (c := cB) (by repeat first | exact List.mem_cons_self | apply List.mem_cons_of_mem)
    by_cases hneg : Zy < 0
    · have hnb : nB = true := by rw [HSB.out]; exact decide_eq_true hneg
      subst hnb
      have HP := Lib.hid (show WTold (PowTells (Go.Proofs.YtfjhmnbbjknflaaGreatDoor.val xsx < LIM ∧ Go.Proofs.YtfjhmnbbjknflaaGreatDoor.val xsy < LIM) Zx Zy) w (.returned (.tuple #[.agg #[.bool false, .slice none 0 0], .int .i64 20])) wH from ⟨HS.out.bel, false, none, 0, 20, [], rfl, own64_nil _ _, .inr (.inl ⟨⟨H1.out, H2.out⟩, hneg, rfl, rfl, rfl⟩)⟩)
      clear hneg
      have HR : Hid (RBlk wH (w.heap.size + 1 + 1)) := rblk (HS.out.boxes (w.heap.size + 1 + 1, false, none, 0, 0) (by repeat first | exact List.mem_cons_self | apply List.mem_cons_of_mem))
      obtain ⟨_, d0, d1, e0, e1⟩ := HR.out
      go_wp2
      refine bodyPost_ret (results_WOset rfl rfl rfl HR.out) rfl ?_
      exact HP.out.set HR.out (by omega) _ _
    have hnb : nB = false := by rw [HSB.out]; exact decide_eq_false hneg
    subst hnb
    have HN0 : Hid (0 ≤ Zy) := by show _ ≤ _; omega
    clear hneg
    have HZY : Hid (lB = 0 ↔ Zy = 0) := by
      show _ ↔ _
      rw [← HLB.out]
      have := HNB.out.len_le (k := 0)
      constructor
      · intro h; have := this.1 (by omega); omega
      · intro h; have := this.2 (by rw [h]; decide); omega
    by_cases hk0 : lB = 0
    · have hz := HZY.out.1 hk0
      have HZ := Lib.hid hz
      subst hk0
      clear hz
      go_wp2_with fail
      refine (r2int_any 1 _ (by decide) (by decide)).mono ?_
      rintro e w5 ⟨hb5, a5, c5, zs5, rfl, hO5, hN5⟩
      rw [show decide ((1 : Int) < 0) = false by decide]
      have HWS := Lib.hid HS.out.bel.size
      have HS := Lib.hid (HS.out.below hb5)
      have HP := Lib.hid (show WTold (PowTells (Go.Proofs.YtfjhmnbbjknflaaGreatDoor.val xsx < LIM ∧ Go.Proofs.YtfjhmnbbjknflaaGreatDoor.val xsy < LIM) Zx Zy) w (.returned (.tuple #[.agg #[.bool false, .slice a5 zs5.length c5], .int .i64 0])) w5 from ⟨HS.out.bel, false, a5, c5, 0, zs5, rfl, owns_base hO5 HWS.out, .inr (.inr (.inr ⟨⟨H1.out, H2.out⟩, HN0.out, by rw [HZ.out]; show (Zx ^ 0).natAbs < LIM; rw [Int.pow_zero]; exact lim_one (by decide), rfl, by rw [HZ.out]; show false = decide (Zx ^ 0 < 0); rw [Int.pow_zero]; decide, by rw [HZ.out]; show Num zs5 (Zx ^ 0).natAbs; rw [Int.pow_zero]; exact hN5⟩))⟩)
      clear hO5 hN5 hb5 y0 y1
      have HR : Hid (RBlk w5 (w.heap.size + 1 + 1)) := rblk (HS.out.boxes (w.heap.size + 1 + 1, false, none, 0, 0) (by repeat first | exact List.mem_cons_self | apply List.mem_cons_of_mem))
      obtain ⟨_, d0, d1, e0, e1⟩ := HR.out
      go_wp2
      refine bodyPost_ret (results_WOset rfl rfl rfl HR.out) rfl ?_
      exact HP.out.set HR.out (by omega) _ _
    have HZX : Hid (lA = 0 ↔ Zx = 0) := by
      show _ ↔ _
      rw [← HLA.out]
      have := HNA.out.len_le (k := 0)
      constructor
      · intro h; have := this.1 (by omega); omega
      · intro h; have := this.2 (by rw [h]; decide); omega
    have hq0 : ((lB : Int) == 0) = false := by simp; omega
    have HZY0 : Hid (0 < Zy) := by show _ < _; have h1 := HN0.out; have : ¬ Zy = 0 := fun h => hk0 (HZY.out.2 h); omega
    clear hk0
    obtain ⟨x0, x1, -, -⟩ := HS.out.cells (g := gA) (n := nA) (a := aA) (l := lA) (c := cA) (by repeat first | exact List.mem_cons_self | apply List.mem_cons_of_mem)
    by_cases hx0 : lA = 0
    · have HZ := Lib.hid (HZX.out.1 hx0)
      subst hx0
      have hna : nA = false := by rw [HSA.out, HZ.out]; decide
      subst hna
      have hzs : zsA = [] := List.eq_nil_of_length_eq_zero HLA.out
      have hpw : (0 : Int) ^ Zy.toNat = 0 := Int.zero_pow (by have := HZY0.out; omega)
      have HP := Lib.hid (show WTold (PowTells (Go.Proofs.YtfjhmnbbjknflaaGreatDoor.val xsx < LIM ∧ Go.Proofs.YtfjhmnbbjknflaaGreatDoor.val xsy < LIM) Zx Zy) w (.returned (.tuple #[.agg #[.bool false, .slice aA 0 cA], .int .i64 0])) wH from ⟨HS.out.bel, false, aA, cA, 0, [], rfl, by have h := HOA.out; rw [hzs] at h; exact h, .inr (.inr (.inr ⟨⟨H1.out, H2.out⟩, HN0.out, by rw [HZ.out, hpw]; exact lim_one (by decide), rfl, by rw [HZ.out, hpw]; decide, by rw [HZ.out, hpw]; exact Num.nil⟩))⟩)
      clear hzs hpw
      have HR : Hid (RBlk wH (w.heap.size + 1 + 1)) := rblk (HS.out.boxes (w.heap.size + 1 + 1, false, none, 0, 0) (by repeat first | exact List.mem_cons_self | apply List.mem_cons_of_mem))
      obtain ⟨_, d0, d1, e0, e1⟩ := HR.out
      go_wp2
      refine bodyPost_ret (results_WOset rfl rfl rfl HR.out) rfl ?_
      exact HP.out.set HR.out (by omega) _ _
    have hq1 : ((lA : Int) == 0) = false := by simp; omega
    have HX0 : Hid (Zx ≠ 0) := fun h => hx0 (HZX.out.2 h)
    clear hx0
    go_wp2_with fail
    refine (rlength_any aA lA cA zsA _ HLA.out (by have h1 := HLA.out; have := (HNA.out.len_le (k := 64)).2 HLM0.out; omega) (own64.rd HOA.out).2 HNA.out.bd).mono ?_
    rintro e w5 ⟨kk, rfl, hkk, hb5⟩
    have HWS := Lib.hid HS.out.bel.size
    have HS := Lib.hid (HS.out.below hb5)
    have HOA := Lib.hid (own64.under HOA.out hb5)
    have HOB := Lib.hid (own64.under HOB.out hb5)
    have HKK := Lib.hid hkk
    clear hb5 hkk x0 x1 y0 y1
    have hBp : 0 < zsB.length := by have h1 := HLB.out; have h2 := HZY.out; have h3 := HZY0.out; omega
    obtain ⟨gb, cb2, hv, -, -⟩ := HOB.out.isAt hBp
    obtain ⟨rfl, rfl⟩ : aB = some ⟨gb, 0, none⟩ ∧ cB = cb2 := by
      simp only [Value.slice.injEq, true_and] at hv
      exact hv
    clear hv
    have HYC := Lib.hid (HOB.out.cell hBp)
    have HYV : Hid (at0 zsB 0 % 2 = Zy.natAbs % 2 ∧ at0 zsB 0 < 18446744073709551616 ∧ (lB = 1 → at0 zsB 0 = Zy.natAbs) ∧ (1 < lB → 18446744073709551616 ≤ Zy.natAbs)) := low_limb HNB.out HLB.out hBp
    generalize at0 zsB 0 = y at *
    have hlB : 0 < lB := by have := HLB.out; omega
    clear hBp
    by_cases hk1 : kk = 1
    · subst hk1
      have HA1 : Hid (Zx.natAbs = 1) := by
        show _ = _
        have hvl := HNA.out.vl
        rcases HKK.out with ⟨h, _⟩ | ⟨_, h1, h2⟩
        · exact absurd (by omega) HX0.out
        · simp at h1 h2; omega
      have HPO := Lib.hid (unit_pow (k := Zy.toNat) HA1.out)
      have HPZ : Hid (Zy.toNat % 2 = y % 2) := by show _ = _; have h1 := HYV.out.1; have h2 := HN0.out; omega
      obtain ⟨x0, x1, -, -⟩ := HS.out.cells (g := gA) (n := nA) (a := aA) (l := lA) (c := cA) (by repeat first | exact List.mem_cons_self | apply List.mem_cons_of_mem)
      obtain ⟨y0, y1, -, -⟩ := HS.out.cells (g := gB) (n := false) (a := (some ⟨gb, 0, none⟩)) (l := lB) (c := cB) (by repeat first | exact List.mem_cons_self | apply List.mem_cons_of_mem)
      have hcy := HYC.out
      have HR : Hid (RBlk w5 (w.heap.size + 1 + 1)) := rblk (HS.out.boxes (w.heap.size + 1 + 1, false, none, 0, 0) (by repeat first | exact List.mem_cons_self | apply List.mem_cons_of_mem))
      obtain ⟨_, d0, d1, e0, e1⟩ := HR.out
      rcases Bool.eq_false_or_eq_true nA with hnA | hnA
      · subst hnA
        have hyb := HYV.out.2.1
        rcases Nat.mod_two_eq_zero_or_one y with hy | hy
        · have hq : ((y : Int) % 2 == 1) = false := by rw [show (y : Int) % 2 = 0 by omega]; rfl
          have HP := Lib.hid (show WTold (PowTells (Go.Proofs.YtfjhmnbbjknflaaGreatDoor.val xsx < LIM ∧ Go.Proofs.YtfjhmnbbjknflaaGreatDoor.val xsy < LIM) Zx Zy) w (.returned (.tuple #[.agg #[.bool false, .slice aA lA cA], .int .i64 0])) w5 from ⟨HS.out.bel, false, aA, cA, 0, zsA, by rw [HLA.out], HOA.out, .inr (.inr (.inr ⟨⟨H1.out, H2.out⟩, HN0.out, by rw [HPO.out.1]; exact lim_one (by decide), rfl, by rw [HPO.out.2, ← HSA.out, HPZ.out, hy]; first | rfl | decide | simp, by have h := HNA.out; rw [HA1.out] at h; rw [HPO.out.1]; exact h⟩))⟩)
          clear hy
          go_wp2
          go_region
          go_wp2
          rw [drew_set2]
          refine bodyPost_ret (results_WOset rfl rfl rfl (HR.out.below (Below.refl _ _).drew)) rfl ?_
          exact HP.out.drew.set (HR.out.below (Below.refl _ _).drew) (by omega) _ _
        · have hq : ((y : Int) % 2 == 1) = true := by rw [show (y : Int) % 2 = 1 by omega]; rfl
          have HP := Lib.hid (show WTold (PowTells (Go.Proofs.YtfjhmnbbjknflaaGreatDoor.val xsx < LIM ∧ Go.Proofs.YtfjhmnbbjknflaaGreatDoor.val xsy < LIM) Zx Zy) w (.returned (.tuple #[.agg #[.bool true, .slice aA lA cA], .int .i64 0])) w5 from ⟨HS.out.bel, true, aA, cA, 0, zsA, by rw [HLA.out], HOA.out, .inr (.inr (.inr ⟨⟨H1.out, H2.out⟩, HN0.out, by rw [HPO.out.1]; exact lim_one (by decide), rfl, by rw [HPO.out.2, ← HSA.out, HPZ.out, hy]; first | rfl | decide | simp, by have h := HNA.out; rw [HA1.out] at h; rw [HPO.out.1]; exact h⟩))⟩)
          clear hy
          go_wp2
          go_region
          go_wp2
          rw [drew_set2]
          refine bodyPost_ret (results_WOset rfl rfl rfl (HR.out.below (Below.refl _ _).drew)) rfl ?_
          exact HP.out.drew.set (HR.out.below (Below.refl _ _).drew) (by omega) _ _
      · subst hnA
        have HP := Lib.hid (show WTold (PowTells (Go.Proofs.YtfjhmnbbjknflaaGreatDoor.val xsx < LIM ∧ Go.Proofs.YtfjhmnbbjknflaaGreatDoor.val xsy < LIM) Zx Zy) w (.returned (.tuple #[.agg #[.bool false, .slice aA lA cA], .int .i64 0])) w5 from ⟨HS.out.bel, false, aA, cA, 0, zsA, by rw [HLA.out], HOA.out, .inr (.inr (.inr ⟨⟨H1.out, H2.out⟩, HN0.out, by rw [HPO.out.1]; exact lim_one (by decide), rfl, by rw [HPO.out.2, ← HSA.out]; first | rfl | decide | simp, by have h := HNA.out; rw [HA1.out] at h; rw [HPO.out.1]; exact h⟩))⟩)
        have hyb := HYV.out.2.1
        go_wp2
        go_region
        go_wp2
        rw [drew_set2]
        refine bodyPost_ret (results_WOset rfl rfl rfl (HR.out.below (Below.refl _ _).drew)) rfl ?_
        exact HP.out.drew.set (HR.out.below (Below.refl _ _).drew) (by omega) _ _
    have HX2 : Hid (2 ≤ Zx.natAbs) := by
      show _ ≤ _
      have h1 := HX0.out
      have hvl := HNA.out.vl
      rcases Nat.lt_or_ge Zx.natAbs 2 with h2 | h2
      · exfalso
        have h3 := HKK.out
        rw [hvl, show Zx.natAbs = 1 by omega] at h3
        rcases h3 with ⟨h, _⟩ | ⟨h4, h5, _⟩
        · omega
        · have := pow_le_one_two h5; omega
      · exact h2
    have hqk : ((kk : Int) == 1) = false := by simp; omega
    clear hk1 HKK
    obtain ⟨y0, y1, -, -⟩ := HS.out.cells (g := gB) (n := false) (a := (some ⟨gb, 0, none⟩)) (l := lB) (c := cB) (by repeat first | exact List.mem_cons_self | apply List.mem_cons_of_mem)
    have hcy := HYC.out
    by_cases hl1 : 1 < lB
    · have hq : decide ((1 : Int) < (lB : Int)) = true := by rw [decide_eq_true_iff]; omega
      have HP := Lib.hid (show WTold (PowTells (Go.Proofs.YtfjhmnbbjknflaaGreatDoor.val xsx < LIM ∧ Go.Proofs.YtfjhmnbbjknflaaGreatDoor.val xsy < LIM) Zx Zy) w (.returned (.tuple #[.agg #[.bool false, .slice none 0 0], .int .i64 3])) w5 from ⟨HS.out.bel, false, none, 0, 3, [], rfl, own64_nil _ _, .inr (.inr (.inl ⟨⟨H1.out, H2.out⟩, HN0.out, pow_great HX2.out (by have h1 := HYV.out.2.2.2 hl1; have h2 := HN0.out; omega), rfl, rfl, rfl⟩))⟩)
      clear hl1
      have HR : Hid (RBlk w5 (w.heap.size + 1 + 1)) := rblk (HS.out.boxes (w.heap.size + 1 + 1, false, none, 0, 0) (by repeat first | exact List.mem_cons_self | apply List.mem_cons_of_mem))
      obtain ⟨_, d0, d1, e0, e1⟩ := HR.out
      go_wp2
      refine bodyPost_ret (results_WOset rfl rfl rfl HR.out) rfl ?_
      exact HP.out.set HR.out (by omega) _ _
    have hq : decide ((1 : Int) < (lB : Int)) = false := by rw [decide_eq_false_iff_not]; omega
    have HYE : Hid (y = Zy.natAbs ∧ Zy.toNat = y) := by
      have h1 := HYV.out.2.2.1 (by omega)
      have h2 := HN0.out
      exact ⟨h1, by omega⟩
    clear hl1
    have hyb := HYV.out.2.1
    by_cases hy4 : 4096 < y
    · have hq2 : decide ((4096 : Int) < (y : Int)) = true := by rw [decide_eq_true_iff]; omega
      have HP := Lib.hid (show WTold (PowTells (Go.Proofs.YtfjhmnbbjknflaaGreatDoor.val xsx < LIM ∧ Go.Proofs.YtfjhmnbbjknflaaGreatDoor.val xsy < LIM) Zx Zy) w (.returned (.tuple #[.agg #[.bool false, .slice none 0 0], .int .i64 3])) w5 from ⟨HS.out.bel, false, none, 0, 3, [], rfl, own64_nil _ _, .inr (.inr (.inl ⟨⟨H1.out, H2.out⟩, HN0.out, pow_great HX2.out (by have h1 := HYE.out.2; omega), rfl, rfl, rfl⟩))⟩)
      clear hy4
      have HR : Hid (RBlk w5 (w.heap.size + 1 + 1)) := rblk (HS.out.boxes (w.heap.size + 1 + 1, false, none, 0, 0) (by repeat first | exact List.mem_cons_self | apply List.mem_cons_of_mem))
      obtain ⟨_, d0, d1, e0, e1⟩ := HR.out
      go_wp2
      refine bodyPost_ret (results_WOset rfl rfl rfl HR.out) rfl ?_
      exact HP.out.set HR.out (by omega) _ _
    have hq2 : decide ((4096 : Int) < (y : Int)) = false := by rw [decide_eq_false_iff_not]; omega
    have hy5 : y ≤ 4096 := by omega
    have HB5 := Lib.hid HS.out.bel
    have HGG : Hid (gA < w5.heap.size ∧ gB < w5.heap.size ∧ w.heap.size + 1 + 1 < w5.heap.size) := ⟨lt_of_block (HS.out.boxes (gA, nA, aA, lA, cA) (by repeat first | exact List.mem_cons_self | apply List.mem_cons_of_mem)), lt_of_block (HS.out.boxes (gB, false, some ⟨gb, 0, none⟩, lB, cB) (by repeat first | exact List.mem_cons_self | apply List.mem_cons_of_mem)), lt_of_block (HS.out.boxes (w.heap.size + 1 + 1, false, none, 0, 0) (by repeat first | exact List.mem_cons_self | apply List.mem_cons_of_mem))⟩
    have HRA := Lib.hid (fun (W : World) (h : Below w5.heap.size w5 W) => (own64.rd HOA.out).2.below h)
    have HYC2 := Lib.hid (fun (W : World) (h : Below w5.heap.size w5 W) => below_cell h _ _ HYC.out)
    have HSN : Hid (St w5 [] [(gA, nA, aA, lA, cA), (gB, false, some ⟨gb, 0, none⟩, lB, cB), ((w.heap.size + 1 + 1), false, none, 0, 0)] w5) := ⟨fun _ h => (by cases h), HS.out.boxes, Below.refl _ _⟩
    have HLA2 : Hid (lA ≤ 500000) := by show _ ≤ _; have h1 := HLA.out; have := (HNA.out.len_le (k := 64)).2 HLM0.out; omega
    clear hy4
    go_wp2_with fail
    refine (r2int_any 1 _ (by decide) (by decide)).mono ?_
    rintro e w6 ⟨hb6, a6, c6, zs6, rfl, hO6, hN6⟩
    rw [show decide ((1 : Int) < 0) = false by decide]
    obtain ⟨l6, hl6⟩ : ∃ l6, zs6.length = l6 := ⟨_, rfl⟩
    rw [hl6] at hO6 ⊢
    have hN6 : Num zs6 (1 : Int).natAbs := hN6
    have HF : Hid (zs6.length = l6 ∧ own64 (w6.alloc (.cells #[.bool false, .slice a6 l6 c6] 24)) w5.heap.size (.slice a6 l6 c6) zs6 ∧ Num zs6 (Zx ^ 0).natAbs ∧ false = decide (Zx ^ 0 < 0) ∧ (Zx ^ 0).natAbs < LIM) := by
      refine ⟨hl6, own64.under hO6 ((Below.refl _ _).alloc (Nat.le_refl _) _), ?_, ?_, ?_⟩
      · rw [Int.pow_zero]; exact hN6
      · rw [Int.pow_zero]; decide
      · rw [Int.pow_zero]; exact lim_one (by decide)
    have HSN := Lib.hid ((HSN.out.below hb6).new w6.heap.size rfl false a6 l6 c6)
    have HG8 : Hid (w5.heap.size ≤ w6.heap.size) := hb6.size
    clear hO6 hN6 hb6 HS y0 y1 hcy HYC hl6
    go_wp2
    generalize w6.heap.size = g8 at *
    go_loopw [9] (fun i wr => ∃ (j : Nat) (zo : List Nat) (no : Bool) (ao : Option Addr) (lo co : Nat), i = .int .u64 (j : Nat) ∧ j ≤ y ∧ Hid (St w5 [] [(g8, no, ao, lo, co), (gA, nA, aA, lA, cA), (gB, false, some ⟨gb, 0, none⟩, lB, cB), ((w.heap.size + 1 + 1), false, none, 0, 0)] wr) ∧ Hid (zo.length = lo ∧ own64 wr w5.heap.size (.slice ao lo co) zo ∧ Num zo (Zx ^ j).natAbs ∧ no = decide (Zx ^ j < 0) ∧ (Zx ^ j).natAbs < LIM)) (fun i _ => y - (intOf i).toNat)
    case atStart => exact ⟨0, zs6, false, a6, l6, c6, rfl, Nat.zero_le _, HSN.out, HF.out⟩
    case round =>
      clear HSN HF
      obtain ⟨j, zo, no, ao, lo, co, rfl, hjy, HS, HF⟩ := hrel
      obtain ⟨o0, o1, o2, o3⟩ := HS.out.cells (g := g8) (n := no) (a := ao) (l := lo) (c := co) (by repeat first | exact List.mem_cons_self | apply List.mem_cons_of_mem)
      have hcy := HYC2.out _ HS.out.bel
      by_cases hjl : j < y
      · have hqj : decide (j < y) = true := decide_eq_true hjl
        have HJL := Lib.hid hjl
        obtain ⟨x0, x1, -, -⟩ := HS.out.cells (g := gA) (n := nA) (a := aA) (l := lA) (c := cA) (by repeat first | exact List.mem_cons_self | apply List.mem_cons_of_mem)
        obtain ⟨y0, y1, -, -⟩ := HS.out.cells (g := gB) (n := false) (a := (some ⟨gb, 0, none⟩)) (l := lB) (c := cB) (by repeat first | exact List.mem_cons_self | apply List.mem_cons_of_mem)
        have hC := r2times_any no nA ao aA lo co lA cA zo zsA wr HF.out.1 HLA.out (by have h1 := HF.out.1; have := (HF.out.2.2.1.len_le (k := 64)).2 HF.out.2.2.2.2; omega) HLA2.out (own64_len' HF.out.1 HF.out.2.1) (HRA.out _ HS.out.bel) HF.out.2.2.1.bd HNA.out.bd
        rw [HF.out.2.2.2.1, wv_int HF.out.2.2.1, HSA.out, wv_int HNA.out] at hC
        rw [← HF.out.2.2.2.1, ← HSA.out] at hC
        have HC := Lib.hid hC
        clear hC hjl
        go_wp2_with fail
        refine HC.out.mono ?_
        rintro e w7 ⟨hb7, a7, c7, z7, rfl, hO7, hN7⟩
        obtain ⟨l7, hl7⟩ : ∃ l7, z7.length = l7 := ⟨_, rfl⟩
        rw [hl7] at hO7 ⊢
        have HL7 := Lib.hid hl7
        have HN7 := Lib.hid hN7
        have HLEN : Hid (l7 ≤ 1048576) := by show _ ≤ _; rw [← hl7]; exact num_len2 hN7 HF.out.2.2.2.2 HLM0.out
        obtain ⟨s7, hs7⟩ : ∃ s7, decide (Zx ^ j * Zx < 0) = s7 := ⟨_, rfl⟩
        rw [hs7]
        have HS7 := Lib.hid hs7
        have hSb := HS.out.below hb7
        obtain ⟨p0, p1, p2, p3⟩ := hSb.cells (g := g8) (n := no) (a := ao) (l := lo) (c := co) (by repeat first | exact List.mem_cons_self | apply List.mem_cons_of_mem)
        have HO3 := Lib.hid (own_set (u0 := .bool s7) (u1 := .slice a7 l7 c7) (owns_base hO7 HS.out.bel.size) (hSb.boxes (g8, no, ao, lo, co) (by repeat first | exact List.mem_cons_self | apply List.mem_cons_of_mem)))
        have HS3 := Lib.hid (hSb.set (fun p hp => by have := HG8.out; have := HGG.out; simp only [List.mem_cons, List.mem_nil_iff, or_false] at hp; rcases hp with rfl | rfl | rfl <;> simp <;> omega) HG8.out s7 a7 l7 c7)
        clear hO7 hN7 hs7 hl7 hSb hb7 o0 o1 o2 o3 x0 x1 y0 y1 hcy HS HC
        go_wp2_with fail
        refine (r2fits_any s7 a7 l7 c7 z7 _ HL7.out HLEN.out (own64_len' HL7.out HO3.out) HN7.out.bd).mono ?_
        rintro e w8 ⟨rfl, hb8⟩
        have HS := Lib.hid (HS3.out.below hb8)
        have HO4 := Lib.hid (own64.under HO3.out hb8)
        rw [HN7.out.vl]
        clear hb8 p0 p1 p2 p3 HS3 HO3
        by_cases hfit : (Zx ^ j * Zx).natAbs < LIM
        · rw [decide_eq_true hfit]
          have HFIT := Lib.hid hfit
          clear hfit
          go_wp2
          go_roundw
          case rel =>
            exact ⟨j + 1, z7, s7, a7, l7, c7, by go_num, HJL.out, HS.out, HL7.out, HO4.out, by rw [Int.pow_succ]; exact HN7.out, by rw [Int.pow_succ]; exact HS7.out.symm, by rw [Int.pow_succ]; exact HFIT.out⟩
          case measure => have := HJL.out; simp [intOf]; omega
        · rw [decide_eq_false hfit]
          have HP := Lib.hid (show WTold (PowTells (Go.Proofs.YtfjhmnbbjknflaaGreatDoor.val xsx < LIM ∧ Go.Proofs.YtfjhmnbbjknflaaGreatDoor.val xsy < LIM) Zx Zy) w (.returned (.tuple #[.agg #[.bool false, .slice none 0 0], .int .i64 3])) w8 from ⟨HB5.out.trans (HS.out.bel.mono HB5.out.size), false, none, 0, 3, [], rfl, own64_nil _ _, .inr (.inr (.inl ⟨⟨H1.out, H2.out⟩, HN0.out, pow_mono' (j := j + 1) HX2.out (by have h1 := HYE.out.2; have h2 := HJL.out; omega) (by rw [Int.pow_succ]; exact Nat.le_of_not_lt hfit), rfl, rfl, rfl⟩))⟩)
          clear hfit
          have HR : Hid (RBlk w8 (w.heap.size + 1 + 1)) := rblk (HS.out.boxes (w.heap.size + 1 + 1, false, none, 0, 0) (by repeat first | exact List.mem_cons_self | apply List.mem_cons_of_mem))
          obtain ⟨_, d0, d1, e0, e1⟩ := HR.out
          go_wp2
          refine bodyPost_ret (results_WOset rfl rfl rfl HR.out) rfl ?_
          exact HP.out.set HR.out (by omega) _ _
      · have hqj : decide (j < y) = false := decide_eq_false hjl
        have HJY : Hid (Zy.toNat = j) := by show _ = _; have := HYE.out.2; omega
        have HP := Lib.hid (show WTold (PowTells (Go.Proofs.YtfjhmnbbjknflaaGreatDoor.val xsx < LIM ∧ Go.Proofs.YtfjhmnbbjknflaaGreatDoor.val xsy < LIM) Zx Zy) w (.returned (.tuple #[.agg #[.bool no, .slice ao lo co], .int .i64 0])) wr from ⟨HB5.out.trans (HS.out.bel.mono HB5.out.size), no, ao, co, 0, zo, by rw [HF.out.1], by have h := HF.out.2.1; rw [← HF.out.1] at h; exact owns_base h HB5.out.size, .inr (.inr (.inr ⟨⟨H1.out, H2.out⟩, HN0.out, by rw [HJY.out]; exact HF.out.2.2.2.2, rfl, by rw [HJY.out]; exact HF.out.2.2.2.1, by rw [HJY.out]; exact HF.out.2.2.1⟩))⟩)
        clear hjl
        obtain ⟨x0, x1, -, -⟩ := HS.out.cells (g := gA) (n := nA) (a := aA) (l := lA) (c := cA) (by repeat first | exact List.mem_cons_self | apply List.mem_cons_of_mem)
        obtain ⟨y0, y1, -, -⟩ := HS.out.cells (g := gB) (n := false) (a := (some ⟨gb, 0, none⟩)) (l := lB) (c := cB) (by repeat first | exact List.mem_cons_self | apply List.mem_cons_of_mem)
        have HR : Hid (RBlk wr (w.heap.size + 1 + 1)) := rblk (HS.out.boxes (w.heap.size + 1 + 1, false, none, 0, 0) (by repeat first | exact List.mem_cons_self | apply List.mem_cons_of_mem))
        obtain ⟨_, d0, d1, e0, e1⟩ := HR.out
        go_wp2
        refine bodyPost_ret (results_WOset rfl rfl rfl HR.out) rfl ?_
        exact HP.out.set HR.out (by omega) _ _
end Go.Proofs.YtfjhmnbbjknflaaGreatDoor
