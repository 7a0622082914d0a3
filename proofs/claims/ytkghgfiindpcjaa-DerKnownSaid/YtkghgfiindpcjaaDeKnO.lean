import Derived.Test.YtkghgfiindpcjaaDeKn
namespace Go.Proofs.Ytkghgfiindpcjaa
open Go.RowKit
/-! DerKnown: one. -/
/-- A list that a law may be asked of. -/
def Lst (w : World) (v : Value) : Prop := ∃ a l c xs, v = .slice a l c ∧ xs.length = l ∧ l ≤ c ∧ (a = none → c = 0) ∧ l ≤ 1048576 ∧ Rd .u64 w a xs ∧ Bd xs
theorem Lst.below {w w' : World} {v : Value} (h : Lst w v) (hb : Below w.heap.size w w') : Lst w' v := by
  obtain ⟨a, l, c, xs, h1, h2, h3, h4, h5, h6, h7⟩ := h
  exact ⟨a, l, c, xs, h1, h2, h3, h4, h5, h6.below hb, h7⟩
theorem lst_nil (w : World) : Lst w (.slice none 0 0) := ⟨none, 0, 0, [], rfl, rfl, Nat.le_refl _, fun _ => rfl, by decide, Rd.nil _ _ _, Bd.nil⟩
theorem lst_own {w : World} {B l c : Nat} {a : Option Addr} {zs : List Nat} (ho : own64 w B (.slice a l c) zs) (hb : Bd zs) (hl : l ≤ 1048576) : Lst w (.slice a l c) :=
  ⟨a, l, c, zs, rfl, (own64.rd ho).1.symm, (own64.room ho).1, (own64.room ho).2, hl, (own64.rd ho).2, hb⟩
theorem lst_1 (w : World) (X : Int) (x g : Nat) (hX : X = (x : Nat)) (hx : x < 18446744073709551616) (hg : w.heap.size = g) : Lst (w.alloc (.cells #[.int .u64 X] 56)) (.slice (some ⟨g, 0, none⟩) 1 1) := by
  subst hX hg
  have hown : own64 (w.alloc (.cells #[.int .u64 (x : Nat)] 56)) w.heap.size (.slice (some ⟨w.heap.size, 0, none⟩) 1 1) [x] :=
    own64_of_blk (zs := [x]) (c := 1) (heap_new w _) (Nat.le_refl _) (by simp) (by decide) rfl ⟨by simp, fun i hi => by
      obtain rfl : i = 0 := by simp at hi; omega
      rfl⟩
  exact lst_own hown (Bd.nil.cons hx) (by decide)
theorem lst_2 (w : World) (X Y : Int) (x y g : Nat) (hX : X = (x : Nat)) (hY : Y = (y : Nat)) (hx : x < 18446744073709551616) (hy : y < 18446744073709551616) (hg : w.heap.size = g) : Lst (w.alloc (.cells #[.int .u64 X, .int .u64 Y] 56)) (.slice (some ⟨g, 0, none⟩) 2 2) := by
  subst hX hY hg
  have hown : own64 (w.alloc (.cells #[.int .u64 (x : Nat), .int .u64 (y : Nat)] 56)) w.heap.size (.slice (some ⟨w.heap.size, 0, none⟩) 2 2) [x, y] :=
    own64_of_blk (zs := [x, y]) (c := 2) (heap_new w _) (Nat.le_refl _) (by simp) (by decide) rfl ⟨by simp, fun i hi => by
      rcases Nat.lt_or_ge i 1 with h1 | h1
      · obtain rfl : i = 0 := by omega
        rfl
      · obtain rfl : i = 1 := by simp at hi; omega
        rfl⟩
  exact lst_own hown ((Bd.nil.cons hy).cons hx) (by decide)
set_option maxHeartbeats 1000000 in
set_option maxRecDepth 100000 in
theorem one7_any (N : Int) (n : Nat) (less : Bool) (w : World) (hN : N = (n : Nat)) (hn : n ≤ 1048576) :
    Calls Try.prog 60 #[.int .i64 N, .bool less] w fun e w' => ∃ a l c, e = .returned (.slice a l c) ∧ l = n / 64 + 1 ∧ Lst w' (.slice a l c) ∧ Below w.heap.size w w' := by
  subst hN
  obtain ⟨q, hq⟩ : ∃ q, q = n / 64 := ⟨_, rfl⟩
  obtain ⟨r, hr⟩ : ∃ r, r = n % 64 := ⟨_, rfl⟩
  obtain ⟨m, hm⟩ : ∃ m, m = q + 1 := ⟨_, rfl⟩
  have rq : (n : Int).tdiv 64 = (q : Int) := by rw [Int.tdiv_eq_ediv_of_nonneg (by omega)]; omega
  have rr : (n : Int).tmod 64 = (r : Int) := by rw [Int.tmod_eq_emod_of_nonneg (by omega)]; omega
  have rm : (q : Int) + 1 = (m : Int) := by omega
  have hr64 : r < 64 := by omega
  have hqm : q < m := by omega
  have hmb : m ≤ 1048576 := by omega
  have hpow : 2 ^ r < 18446744073709551616 := by
    have h : 2 ^ r ≤ 2 ^ 63 := Nat.pow_le_pow_right (by decide) (by omega)
    omega
  obtain ⟨p, hp⟩ : ∃ p, p = 2 ^ r := ⟨_, rfl⟩
  have rp : IntKind.u64.wrap (2 ^ r : Int) = (p : Int) := by
    rw [IntKind.wrap_u64, show (2 : Int) ^ r = ((2 ^ r : Nat) : Int) by simp, ← hp]; omega
  have HPW : Hid (p < 18446744073709551616) := by show _ < _; rw [hp]; exact hpow
  have HLM : Hid (m = n / 64 + 1) := by show _ = _; rw [hm, hq]
  clear hq hr hm hp hpow
  go_enter Try.func60, Try.ntmps60
  go_wp2_with (at_make; refine wpl_make64 rfl _ _ rfl w.heap.size _ _ _ _ m rfl rfl rfl rfl (by omega) (Nat.le_refl _) ?_)
  intro w1 hown hbl hsz
  have hc1 := hown.cell (j := q) (by simp; omega)
  have hf1 := hown.free q
  have HO := Lib.hid (hown.set q p)
  have HB := Lib.hid (hbl.setCell (p := ⟨w.heap.size, q, none⟩) (Nat.le_refl _) (.int .u64 (p : Nat)))
  have HLB : Hid (((List.replicate m 0).set q p).length = m ∧ Bd ((List.replicate m 0).set q p)) := ⟨by rw [List.length_set, List.length_replicate], Bd.set (fun x hx => by rw [List.eq_of_mem_replicate hx]; decide) HPW.out⟩
  clear hown hbl hsz
  generalize (List.replicate m 0).set q p = zs0 at *
  go_wp2
  clear hc1 hf1
  go_loopw [1, 6] (fun b i wr => ∃ (bb : Bool) (k : Nat) (zs : List Nat), b = .bool bb ∧ i = .int .i64 k ∧ k ≤ m ∧ Hid (own64 wr w.heap.size (.slice (some ⟨w.heap.size, 0, none⟩) m m) zs) ∧ Hid (zs.length = m ∧ Bd zs) ∧ Hid (Below w.heap.size w wr)) (fun _ i _ => m - (intOf i).toNat)
  case atStart => exact ⟨less, 0, zs0, rfl, rfl, Nat.zero_le _, HO.out, HLB.out, HB.out⟩
  case round =>
    clear HO HB HLB
    obtain ⟨bb, k, zs, rfl, rfl, hk, HO, HL, HB⟩ := hrel
    rcases Bool.eq_false_or_eq_true bb with hbb | hbb
    · subst hbb
      by_cases hlt : k < m
      · have hqk : decide (k < m) = true := decide_eq_true hlt
        have hc := HO.out.cell (j := k) (by have := HL.out.1; omega)
        have hf := HO.out.free k
        have hx := HL.out.2.at0 k
        generalize at0 zs k = x at *
        by_cases hx0 : x = 0
        · subst hx0
          have HO2 := Lib.hid (HO.out.set k 18446744073709551615)
          have HL2 : Hid ((zs.set k 18446744073709551615).length = m ∧ Bd (zs.set k 18446744073709551615)) := ⟨by rw [List.length_set]; exact HL.out.1, Bd.set HL.out.2 (by decide)⟩
          have HB2 := Lib.hid (HB.out.setCell (p := ⟨w.heap.size, k, none⟩) (Nat.le_refl _) (.int .u64 (18446744073709551615 : Nat)))
          have e1 : IntKind.u64.wrap (-1) = ((18446744073709551615 : Nat) : Int) := by decide
          go_wp2
          go_roundw
          case rel =>
            refine ⟨_, k + 1, zs.set k 18446744073709551615, rfl, by go_num, hlt, ?_, HL2.out, ?_⟩
            · exact HO2.out
            · exact HB2.out
          case measure => simp [intOf]; omega
        · obtain ⟨x', rfl⟩ : ∃ x', x = x' + 1 := ⟨x - 1, by omega⟩
          have hxx : ((x' + 1 : Nat) : Int) - 1 = (x' : Int) := by omega
          have HO2 := Lib.hid (HO.out.set k x')
          have HL2 : Hid ((zs.set k x').length = m ∧ Bd (zs.set k x')) := ⟨by rw [List.length_set]; exact HL.out.1, Bd.set HL.out.2 (by omega)⟩
          have HB2 := Lib.hid (HB.out.setCell (p := ⟨w.heap.size, k, none⟩) (Nat.le_refl _) (.int .u64 (x' : Nat)))
          clear hx0
          go_wp2
          go_roundw
          case rel => exact ⟨_, k + 1, zs.set k x', rfl, by go_num, hlt, HO2.out, HL2.out, HB2.out⟩
          case measure => simp [intOf]; omega
      · have hqk : decide (k < m) = false := decide_eq_false hlt
        go_wp2
        go_ret
        exact ⟨_, _, _, rfl, HLM.out, lst_own HO.out HL.out.2 (by omega), HB.out⟩
    · subst hbb
      go_wp2
      go_ret
      exact ⟨_, _, _, rfl, HLM.out, lst_own HO.out HL.out.2 (by omega), HB.out⟩
theorem k_tells {w : World} {a1 a2 : Option Addr} {l1 c1 l2 c2 : Nat} (h1 : Lst w (.slice a1 l1 c1)) (h2 : Lst w (.slice a2 l2 c2)) :
    Calls Try.prog 5 #[.agg #[.slice a1 l1 c1, .slice a2 l2 c2]] w fun e w' => e = .returned (.bool true) ∧ Below w.heap.size w w' := by
  obtain ⟨b1, m1, d1, xs1, e, p2, p3, p4, p5, p6, p7⟩ := h1
  injection e with e1 e2 e3
  subst e1 e2 e3
  obtain ⟨b2, m2, d2, xs2, e, q2, q3, q4, q5, q6, q7⟩ := h2
  injection e with e1 e2 e3
  subst e1 e2 e3
  exact derTells_any _ _ _ xs1 _ _ _ xs2 w p2 (by omega) p6 p7 q2 (by omega) q6 q7
theorem k_back {w : World} {a1 a2 : Option Addr} {l1 c1 l2 c2 : Nat} (h1 : Lst w (.slice a1 l1 c1)) (h2 : Lst w (.slice a2 l2 c2)) (z : Int) (y : Nat) (hz1 : -9223372036854775808 ≤ z) (hz2 : z ≤ 9223372036854775807) (hy : y < 256) :
    Calls Try.prog 6 #[.agg #[.slice a1 l1 c1, .slice a2 l2 c2], .int .i64 z, .int .u8 (y : Nat)] w fun e w' => e = .returned (.bool true) ∧ Below w.heap.size w w' := by
  obtain ⟨b1, m1, d1, xs1, e, p2, p3, p4, p5, p6, p7⟩ := h1
  injection e with e1 e2 e3
  subst e1 e2 e3
  obtain ⟨b2, m2, d2, xs2, e, q2, q3, q4, q5, q6, q7⟩ := h2
  injection e with e1 e2 e3
  subst e1 e2 e3
  exact derBack_any _ _ _ xs1 _ _ _ xs2 z y w p2 (by omega) p6 p7 q2 (by omega) q6 q7 hz1 hz2 hy
end Go.Proofs.Ytkghgfiindpcjaa
