import Derived.Test.YtfjhmnbbjknflaaGreatDoorQh
import Derived.Test.YtfjhmnbbjknflaaGreatDoorBo
import Derived.Test.YtfjhmnbbjknflaaGreatDoorBkW
namespace Go.Proofs.YtfjhmnbbjknflaaGreatDoor
open Go.RowKit

set_option maxHeartbeats 2000000 in
theorem z_gcd {w : World} {va vb : Value} {A C : Nat} (h1 : Raw w va A) (h2 : Raw w vb C) (hA : A < 18446744073709551616 ^ 400) (hC : C < 18446744073709551616 ^ 400) :
    Calls Tryz.prog 55 #[va, vb] w (MPost (GcTells (A < 18446744073709551616 ^ 128 ∧ C < 18446744073709551616 ^ 128) (Nat.gcd A C)) w) := by
  have HX := Lib.hid (fun (W : World) (h : Below w.heap.size w W) => And.intro (h1.below h) (h2.below h))
  have HL := Lib.hid (lims_z hA hC)
  have HC2 : Hid (C < 18446744073709551616 ^ 1000) := (lims_z hC hA).1
  have HB0 := Lib.hid (Below.refl w.heap.size w)
  have HAC := Lib.hid (And.intro hA hC)
  clear h1 h2 hA hC
  go_enter Tryz.func55, Tryz.ntmps55
  go_wp2_with fail
  refine (z_fits (HX.out _ HB0.out).1 HL.out.1).mono ?_
  rintro e w2 ⟨rfl, hb⟩
  have HB := Lib.hid hb
  clear hb
  by_cases hA : A < 18446744073709551616 ^ 128
  · rw [decide_eq_true hA]
    have HFA := Lib.hid hA
    clear hA
    go_wp2_with fail
    refine (z_fits (HX.out _ HB.out).2 HC2.out).mono ?_
    rintro e w3 ⟨rfl, hb⟩
    have HB := Lib.hid (HB.out.trans (hb.mono HB.out.size))
    clear hb
    by_cases hC : C < 18446744073709551616 ^ 128
    · rw [decide_eq_true hC]
      have HFC := Lib.hid hC
      clear hC
      go_wp2_with fail
      refine (divisor_any (HX.out _ HB.out).1 (HX.out _ HB.out).2 HAC.out.1 HAC.out.2).mono ?_
      rintro e w4 ⟨u, rfl, hE, hb⟩
      have HQ : Hid (QEnv w.heap.size w4 [(u, Nat.gcd A C)]) := ⟨Nat.le_trans HB.out.size hb.size, fun p hp => by
        obtain ⟨zs, h1, h2⟩ := hE.2 p hp
        exact ⟨zs, owns_base h1 HB.out.size, h2⟩⟩
      have HB4 := Lib.hid (HB.out.trans (hb.mono HB.out.size))
      clear hE hb
      go_wp2
      go_ret2
      exact MPost.of_q (v := u) HB4.out HQ.out List.mem_cons_self (fun zs h => .inr ⟨⟨HFA.out, HFC.out⟩, rfl, h⟩)
    · rw [decide_eq_false hC]
      have HFC := Lib.hid hC
      clear hC
      go_wp2
      go_ret2
      exact MPost.none HB.out (.inl ⟨fun h => HFC.out h.2, rfl, rfl⟩)
  · rw [decide_eq_false hA]
    have HFA := Lib.hid hA
    clear hA
    go_wp2
    go_ret2
    exact MPost.none HB.out (.inl ⟨fun h => HFA.out h.1, rfl, rfl⟩)
theorem rdw_of {w : World} {B g n c : Nat} {xs : List Nat} {L : List Value} (h : w.ownsRow B 61 1 (.slice (some ⟨g, 0, none⟩) n c) n L) (hL : L.take xs.length = u64s xs) (hn : xs.length ≤ n) : Rd .u64 w (some ⟨g, 0, none⟩) xs := by
  intro j hj
  refine ⟨g, 0, rfl, fun i hi => ?_⟩
  rw [Nat.zero_add, World.ownsRow.cellAt h i (by omega)]
  have h1 := u64s_get xs i hi
  rw [← hL, List.getElem?_take, if_pos hi] at h1
  exact h1
/-- What the law knows: answers' lists, those of them that are to be apart. -/
structure Wl (w0 : World) (O : List (Value × List Nat)) (R : List Rw) (W : World) : Prop where
  own : ∀ p ∈ O, own64 W w0.heap.size p.1 p.2
  sep : Sep W w0.heap.size R
  bel : Below w0.heap.size w0 W
theorem Wl.below {w0 W W' : World} {O : List (Value × List Nat)} {R : List Rw} (h : Wl w0 O R W) (hb : Below W.heap.size W W') : Wl w0 O R W' :=
  ⟨fun p hp => own64.keep (h.own p hp) hb, h.sep.chg (Chg.of_below hb) (fun r hr k hk => by have := World.ownsRow.lt (h.sep.1 r hr) k hk; omega), h.bel.trans (hb.mono h.bel.size)⟩
theorem Wl.rd {w0 W : World} {O : List (Value × List Nat)} {R : List Rw} (h : Wl w0 O R W) {a : Option Addr} {l c : Nat} {zs : List Nat} (hm : (.slice a l c, zs) ∈ O) : Rd .u64 W a zs := (own64.rd (h.own _ hm)).2
theorem Wl.told2 {w0 W W' : World} {O : List (Value × List Nat)} {R : List Rw} (h : Wl w0 O R W) {Q : Int → List Nat → Prop} {e : Ending} (hp : MPost Q W e W') :
    ∃ a l c k zs, e = .returned (.tuple #[.slice a l c, .int .i64 k]) ∧ zs.length = l ∧ Q k zs ∧ Wl w0 ((.slice a l c, zs) :: O) R W' := by
  obtain ⟨hb, a, c, k, zs, rfl, ho, hQ⟩ := hp
  have h2 := h.below hb
  exact ⟨a, _, c, k, zs, rfl, rfl, hQ, fun p hp => by
    rcases List.mem_cons.1 hp with rfl | hp
    · exact owns_base ho h.bel.size
    · exact h2.own p hp, h2.sep, h2.bel⟩
theorem Wl.told1 {w0 W W' : World} {O : List (Value × List Nat)} {R : List Rw} (h : Wl w0 O R W) {Q : Int → List Nat → Prop} {e : Ending} (hp : MPost Q W e W') :
    ∃ a l c k zs, e = .returned (.tuple #[.slice a l c, .int .i64 k]) ∧ zs.length = l ∧ Q k zs ∧ Wl w0 ((.slice a l c, zs) :: O) (rw64 (.slice a l c) zs :: R) W' := by
  obtain ⟨hb, a, c, k, zs, rfl, ho, hQ⟩ := hp
  have h2 := h.below hb
  refine ⟨a, _, c, k, zs, rfl, rfl, hQ, fun p hp => ?_, ⟨fun r hr => ?_, List.pairwise_cons.2 ⟨fun r hr k hk hk2 => ?_, h.sep.2⟩⟩, h2.bel⟩
  · rcases List.mem_cons.1 hp with rfl | hp
    · exact owns_base ho h.bel.size
    · exact h2.own p hp
  · rcases List.mem_cons.1 hr with rfl | hr
    · exact owns_base ho h.bel.size
    · exact h2.sep.1 r hr
  · have h3 := (World.ownsRow.lt ho k hk).1
    have h4 := (World.ownsRow.lt (h.sep.1 r hr) k hk2).2
    omega
theorem Wl.toldD2 {w0 W W' : World} {O : List (Value × List Nat)} {R : List Rw} (h : Wl w0 O R W) {P : Prop} {A C : Nat} {e : Ending} (hp : DvPost P A C W e W') :
    ∃ a1 l1 c1 a2 l2 c2 k z1 z2, e = .returned (.tuple #[.slice a1 l1 c1, .slice a2 l2 c2, .int .i64 k]) ∧ (z1.length = l1 ∧ z2.length = l2) ∧ DvTells P A C k z1 z2 ∧ Wl w0 ((.slice a1 l1 c1, z1) :: (.slice a2 l2 c2, z2) :: O) R W' := by
  obtain ⟨hb, a1, c1, a2, c2, k, z1, z2, rfl, o1, o2, hQ⟩ := hp
  have h2 := h.below hb
  exact ⟨a1, _, c1, a2, _, c2, k, z1, z2, rfl, ⟨rfl, rfl⟩, hQ, fun p hp => by
    rcases List.mem_cons.1 hp with rfl | hp
    · exact owns_base o1 h.bel.size
    · rcases List.mem_cons.1 hp with rfl | hp
      · exact owns_base o2 h.bel.size
      · exact h2.own p hp, h2.sep, h2.bel⟩
theorem Wl.toldD1 {w0 W W' : World} {O : List (Value × List Nat)} {R : List Rw} (h : Wl w0 O R W) {P : Prop} {A C : Nat} {e : Ending}
    (hp : DvPost P A C W e W' ∧ ∀ v1 v2 k, e = .returned (.tuple #[v1, v2, .int .i64 k]) → ∀ q, v1.ownBlock = some q → v2.ownBlock ≠ some q) :
    ∃ a1 l1 c1 a2 l2 c2 k z1 z2, e = .returned (.tuple #[.slice a1 l1 c1, .slice a2 l2 c2, .int .i64 k]) ∧ (z1.length = l1 ∧ z2.length = l2) ∧ DvTells P A C k z1 z2 ∧ Wl w0 ((.slice a1 l1 c1, z1) :: (.slice a2 l2 c2, z2) :: O) (rw64 (.slice a2 l2 c2) z2 :: rw64 (.slice a1 l1 c1) z1 :: R) W' := by
  obtain ⟨⟨hb, a1, c1, a2, c2, k, z1, z2, rfl, o1, o2, hQ⟩, hap⟩ := hp
  have h2 := h.below hb
  have hap := hap _ _ _ rfl
  refine ⟨a1, _, c1, a2, _, c2, k, z1, z2, rfl, ⟨rfl, rfl⟩, hQ, fun p hp => ?_, ⟨fun r hr => ?_, List.pairwise_cons.2 ⟨fun r hr k hk hk2 => ?_, List.pairwise_cons.2 ⟨fun r hr k hk hk2 => ?_, h.sep.2⟩⟩⟩, h2.bel⟩
  · rcases List.mem_cons.1 hp with rfl | hp
    · exact owns_base o1 h.bel.size
    · rcases List.mem_cons.1 hp with rfl | hp
      · exact owns_base o2 h.bel.size
      · exact h2.own p hp
  · rcases List.mem_cons.1 hr with rfl | hr
    · exact owns_base o2 h.bel.size
    · rcases List.mem_cons.1 hr with rfl | hr
      · exact owns_base o1 h.bel.size
      · exact h2.sep.1 r hr
  · rcases List.mem_cons.1 hr with rfl | hr
    · exact hap k hk2 hk
    · have h3 := (World.ownsRow.lt o2 k hk).1
      have h4 := (World.ownsRow.lt (h.sep.1 r hr) k hk2).2
      omega
  · have h3 := (World.ownsRow.lt o1 k hk).1
    have h4 := (World.ownsRow.lt (h.sep.1 r hr) k hk2).2
    omega
theorem Bok.perm {w : World} {B bk T : Nat} {WV BV : List Value} {R R' : List Rw} {vw vb : Value} (h : Bok w B bk T WV BV R vw vb) (hp : R.Perm R') : Bok w B bk T WV BV R' vw vb :=
  ⟨h.book, h.sep.perm ((hp.cons _).cons _), fun s hs => h.off s (hp.mem_iff.2 hs), h.offw, h.offb, h.base⟩
theorem Bok.grow {w W : World} {B bk T : Nat} {WV BV : List Value} {R R7 : List Rw} {vw vb : Value} (h : Bok w B bk T WV BV R vw vb) (hb : Below w.heap.size w W) (hs : Sep W w.heap.size R7) : Bok W B bk T WV BV (R7 ++ R) vw vb := by
  have h2 := h.below hb
  have hlt := h.lt
  have hbs := h.base
  refine ⟨h2.book, ?_, fun s hs' hk => ?_, h.offw, h.offb, h.base⟩
  · refine Sep.perm (R := R7 ++ (⟨vw, 22, WV.length, WV⟩ :: ⟨vb, 65, BV.length, BV⟩ :: R)) ⟨fun r hr => ?_, ?_⟩ (List.perm_middle.trans (List.Perm.cons _ List.perm_middle))
    · rcases List.mem_append.1 hr with hr | hr
      · exact owns_base (hs.1 r hr) (by omega)
      · exact h2.sep.1 r hr
    · refine List.pairwise_append.2 ⟨hs.2, h2.sep.2, fun r hr s hs2 k hk hk2 => ?_⟩
      have h3 := (World.ownsRow.lt (hs.1 r hr) k hk).1
      have h4 := (World.ownsRow.lt (h.sep.1 s hs2) k hk2).2
      omega
  · rcases List.mem_append.1 hs' with hr | hr
    · have h3 := (World.ownsRow.lt (hs.1 s hr) bk hk).1
      omega
    · exact h.off s hr hk
theorem perm_grow (F L : List Rw) : (F.reverse ++ (rwNo :: rwNo8 :: (L ++ []))).Perm (rwNo :: rwNo8 :: ((L ++ F) ++ [])) := by
  rw [List.append_nil, List.append_nil]
  exact List.perm_middle.trans (List.Perm.cons _ (List.perm_middle.trans (List.Perm.cons _ (List.perm_append_comm.trans ((List.reverse_perm F).append_left L)))))
theorem ZTells.len {P : Prop} {n : Nat} {k : Int} {zs : List Nat} (h : ZTells P n k zs) : zs.length ≤ 128 := by
  rcases h with ⟨_, _, rfl⟩ | ⟨_, h, _, t⟩
  · exact Nat.zero_le _
  · exact (t.len_le (k := 128)).2 h
theorem SbTells.len {P : Prop} {A C : Nat} {k : Int} {zs : List Nat} (h : SbTells P A C k zs) (hA : P → A < 18446744073709551616 ^ 128) : zs.length ≤ 128 := by
  rcases h with ⟨_, _, rfl⟩ | ⟨_, _, _, rfl⟩ | ⟨p, _, _, t⟩
  · exact Nat.zero_le _
  · exact Nat.zero_le _
  · exact (t.len_le (k := 128)).2 (Nat.lt_of_le_of_lt (Nat.sub_le _ _) (hA p))
theorem GcTells.len {P : Prop} {n : Nat} {k : Int} {zs : List Nat} (h : GcTells P n k zs) (hn : P → n < 18446744073709551616 ^ 128) : zs.length ≤ 128 := by
  rcases h with ⟨_, _, rfl⟩ | ⟨p, _, t⟩
  · exact Nat.zero_le _
  · exact (t.len_le (k := 128)).2 (hn p)
theorem gcd_lim {A C M : Nat} (hA : A < M) (hC : C < M) : Nat.gcd A C < M := by
  rcases Nat.eq_zero_or_pos A with rfl | h
  · rw [Nat.gcd_zero_left]; exact hC
  · exact Nat.lt_of_le_of_lt (Nat.gcd_le_left _ h) hA
theorem DvTells.len {P : Prop} {A C : Nat} {k : Int} {z1 z2 : List Nat} (h : DvTells P A C k z1 z2) (hA : P → A < 18446744073709551616 ^ 128) : z1.length ≤ 128 ∧ z2.length ≤ 128 := by
  rcases h with ⟨_, _, rfl, rfl⟩ | ⟨_, _, _, rfl, rfl⟩ | ⟨p, _, _, t, u⟩
  · exact ⟨Nat.zero_le _, Nat.zero_le _⟩
  · exact ⟨Nat.zero_le _, Nat.zero_le _⟩
  · exact ⟨(t.len_le (k := 128)).2 (Nat.lt_of_le_of_lt (Nat.div_le_self _ _) (hA p)), (u.len_le (k := 128)).2 (Nat.lt_of_le_of_lt (Nat.mod_le _ _) (hA p))⟩
theorem l1same_any (a b : Option Addr) (n ca cb : Nat) (k : Int) (xs : List Nat) (w : World) (hla : xs.length = n) (hba : n ≤ 1099511627776)
    (hra : Rd .u64 w a xs) (hrb : Rd .u64 w b xs) :
    Calls Tryz.prog 56 #[.slice a n ca, .int .i64 k, .slice b n cb, .int .i64 k] w fun e w' => e = .returned (.bool true) ∧ Below w.heap.size w w' := by
  refine (lsame_any a b n ca cb k xs w hla hba hra hrb).mono ?_
  rintro e w' ⟨rfl, nd, rfl⟩
  exact ⟨rfl, Below.drewM (Below.refl _ _) nd⟩
theorem p_cmp {w : World} {va vb : Value} {A C : Nat} (h1 : Raw w va A) (h2 : Raw w vb C) :
    Calls Tryz.prog 58 #[va, vb] w fun e w' => e = .returned (.int .i64 (cmpI A C)) ∧ Below w.heap.size w w' := by
  obtain ⟨a, ca, xs, rfl, hca, _, hr1, hb1, rfl, hl1⟩ := h1
  obtain ⟨b, cb, ys, rfl, hcb, _, hr2, hb2, rfl, hl2⟩ := h2
  refine (cmp_any a b _ _ ca cb xs ys w rfl rfl (Nat.le_trans hl1 (by decide)) (Nat.le_trans hl2 (by decide)) hca hcb hr1 hr2 hb1 hb2).mono ?_
  rintro e w' ⟨rfl, nd, rfl⟩
  exact ⟨rfl, Below.drewM (Below.refl _ _) nd⟩
theorem p_bits {w : World} {va : Value} {A : Nat} (h1 : Raw w va A) :
    Calls Tryz.prog 60 #[va] w fun e w' => ∃ k : Nat, e = .returned (.int .i64 (k : Nat)) ∧ BitsIs A k ∧ Below w.heap.size w w' := by
  obtain ⟨a, ca, xs, rfl, hca, _, hr1, hb1, rfl, hl1⟩ := h1
  refine (bits_any a _ ca xs w rfl (Nat.le_trans hl1 (by decide)) hca hr1 hb1).mono ?_
  rintro e w' ⟨⟨k, rfl, hk, _⟩, rfl⟩
  exact ⟨k, rfl, hk, Below.refl _ _⟩
theorem bits_uniq {n k j : Nat} (h : BitsIs n k) (h' : BitsIs n j) : k = j := by
  rcases h with ⟨h1, h2⟩ | ⟨h0, h1, h2⟩ <;> rcases h' with ⟨h3, h4⟩ | ⟨h3, h4, h5⟩
  · omega
  · have := Nat.two_pow_pos (j - 1); omega
  · have := Nat.two_pow_pos (k - 1); omega
  · have h6 := (Nat.pow_lt_pow_iff_right (by decide : 1 < 2)).1 (Nat.lt_of_le_of_lt h1 h5)
    have h7 := (Nat.pow_lt_pow_iff_right (by decide : 1 < 2)).1 (Nat.lt_of_le_of_lt h4 h2)
    omega
end Go.Proofs.YtfjhmnbbjknflaaGreatDoor
