import Derived.Test.YticncpeeeiobfaaDoorModReckons
import Derived.Test.YticncpeeeiobfaaDoorModPowers
import Derived.Deep.RegionHeld3
namespace Go.Proofs.YticncpeeeiobfaaDoor
open Go.RowKit

/-- A list that a law may be asked of. -/
def Lst (w : World) (v : Value) : Prop := ∃ a l c xs, v = .slice a l c ∧ xs.length = l ∧ l ≤ c ∧ (a = none → c = 0) ∧ l ≤ 9223372036854775807 ∧ Rd .u64 w a xs ∧ Bd xs
theorem Lst.below {w w' : World} {v : Value} (h : Lst w v) (hb : Below w.heap.size w w') : Lst w' v := by
  obtain ⟨a, l, c, xs, h1, h2, h3, h4, h5, h6, h7⟩ := h
  exact ⟨a, l, c, xs, h1, h2, h3, h4, h5, h6.below hb, h7⟩
theorem lst_nil (w : World) : Lst w (.slice none 0 0) := ⟨none, 0, 0, [], rfl, rfl, Nat.le_refl _, fun _ => rfl, by decide, Rd.nil _ _ _, Bd.nil⟩
theorem lst_own {w : World} {B l c : Nat} {a : Option Addr} {zs : List Nat} (ho : own64 w B (.slice a l c) zs) (hb : Bd zs) (hl : l ≤ 9223372036854775807) : Lst w (.slice a l c) :=
  ⟨a, l, c, zs, rfl, (own64.rd ho).1.symm, (own64.room ho).1, (own64.room ho).2, hl, (own64.rd ho).2, hb⟩
theorem lst_1 (w : World) (X : Int) (x g : Nat) (hX : X = (x : Nat)) (hx : x < 18446744073709551616) (hg : w.heap.size = g) : Lst (w.alloc (.cells #[.int .u64 X] 23)) (.slice (some ⟨g, 0, none⟩) 1 1) := by
  subst hX hg
  have hown : own64 (w.alloc (.cells #[.int .u64 (x : Nat)] 23)) w.heap.size (.slice (some ⟨w.heap.size, 0, none⟩) 1 1) [x] :=
    own64_of_blk (zs := [x]) (c := 1) (heap_new w _) (Nat.le_refl _) (by simp) (by decide) rfl ⟨by simp, fun i hi => by
      obtain rfl : i = 0 := by simp at hi; omega
      rfl⟩
  exact lst_own hown (Bd.nil.cons hx) (by decide)
theorem lst_2 (w : World) (X Y : Int) (x y g : Nat) (hX : X = (x : Nat)) (hY : Y = (y : Nat)) (hx : x < 18446744073709551616) (hy : y < 18446744073709551616) (hg : w.heap.size = g) : Lst (w.alloc (.cells #[.int .u64 X, .int .u64 Y] 23)) (.slice (some ⟨g, 0, none⟩) 2 2) := by
  subst hX hY hg
  have hown : own64 (w.alloc (.cells #[.int .u64 (x : Nat), .int .u64 (y : Nat)] 23)) w.heap.size (.slice (some ⟨w.heap.size, 0, none⟩) 2 2) [x, y] :=
    own64_of_blk (zs := [x, y]) (c := 2) (heap_new w _) (Nat.le_refl _) (by simp) (by decide) rfl ⟨by simp, fun i hi => by
      rcases Nat.lt_or_ge i 1 with h1 | h1
      · obtain rfl : i = 0 := by omega
        rfl
      · obtain rfl : i = 1 := by simp at hi; omega
        rfl⟩
  exact lst_own hown ((Bd.nil.cons hy).cons hx) (by decide)
theorem k_reckons {w : World} {v1 v2 v3 : Value} (h1 : Lst w v1) (h2 : Lst w v2) (h3 : Lst w v3) (hT : Trig w) :
    Calls Tryd.prog 6 #[v1, v2, v3] w fun e w' => e = .returned (.bool true) ∧ Below w.heap.size w w' := by
  obtain ⟨a1, l1, c1, xs1, rfl, p1, p2, p3, p4, p5, p6⟩ := h1
  obtain ⟨a2, l2, c2, xs2, rfl, q1, q2, q3, q4, q5, q6⟩ := h2
  obtain ⟨a3, l3, c3, xs3, rfl, r1, r2, r3, r4, r5, r6⟩ := h3
  exact mreckons_any a1 l1 c1 xs1 a2 l2 c2 xs2 a3 l3 c3 xs3 w p1 p2 p3 p4 p5 p6 q1 q2 q3 q4 q5 q6 r1 r2 r3 r4 r5 r6 hT
theorem k_powers {w : World} {v1 v2 v3 : Value} (h1 : Lst w v1) (h2 : Lst w v2) (h3 : Lst w v3) (hT : Trig w) :
    Calls Tryd.prog 7 #[v1, v2, v3] w fun e w' => e = .returned (.bool true) ∧ Below w.heap.size w w' := by
  obtain ⟨a1, l1, c1, xs1, rfl, p1, p2, p3, p4, p5, p6⟩ := h1
  obtain ⟨a2, l2, c2, xs2, rfl, q1, q2, q3, q4, q5, q6⟩ := h2
  obtain ⟨a3, l3, c3, xs3, rfl, r1, r2, r3, r4, r5, r6⟩ := h3
  exact mpowers_any a1 l1 c1 xs1 a2 l2 c2 xs2 a3 l3 c3 xs3 w p1 p2 p3 p4 p5 p6 q1 q2 q3 q4 q5 q6 r1 r2 r3 r4 r5 r6 hT
set_option maxHeartbeats 1000000 in
set_option maxRecDepth 100000 in
theorem one4_any (N : Int) (n : Nat) (less : Bool) (w : World) (hN : N = (n : Nat)) (hn : n ≤ 1048576) :
    Calls Tryd.prog 9 #[.int .i64 N, .bool less] w fun e w' => ∃ a l c, e = .returned (.slice a l c) ∧ Lst w' (.slice a l c) ∧ Below w.heap.size w w' := by
  subst hN
  obtain ⟨q, hq⟩ : ∃ q, q = n / 64 := ⟨_, rfl⟩
  obtain ⟨r, hr⟩ : ∃ r, r = n % 64 := ⟨_, rfl⟩
  obtain ⟨m, hm⟩ : ∃ m, m = q + 1 := ⟨_, rfl⟩
  have rq : (n : Int).tdiv 64 = (q : Int) := by rw [Int.tdiv_eq_ediv_of_nonneg (by omega)]; omega
  have rr : (n : Int).tmod 64 = (r : Int) := by rw [Int.tmod_eq_emod_of_nonneg (by omega)]; omega
  have rm : (q : Int) + 1 = (m : Int) := by omega
  have hr64 : r < 64 := by omega
  have hqm : q < m := by omega
  have hmb : m ≤ 1048577 := by omega
  have hpow : 2 ^ r < 18446744073709551616 := by
    have h : 2 ^ r ≤ 2 ^ 63 := Nat.pow_le_pow_right (by decide) (by omega)
    omega
  obtain ⟨p, hp⟩ : ∃ p, p = 2 ^ r := ⟨_, rfl⟩
  have rp : IntKind.u64.wrap (2 ^ r : Int) = (p : Int) := by
    rw [IntKind.wrap_u64, show (2 : Int) ^ r = ((2 ^ r : Nat) : Int) by simp, ← hp]; omega
  have HPW : Hid (p < 18446744073709551616) := by show _ < _; rw [hp]; exact hpow
  clear hq hr hm hp hpow
  go_enter Tryd.func9, Tryd.ntmps9
  go_wp2_with (at_make; refine wpl_make64 rfl _ _ rfl w.heap.size _ _ _ _ m rfl rfl rfl rfl (by omega) (Nat.le_refl _) ?_)
  intro w1 hown hbl hsz
  have hc1 := hown.cell (j := q) (by simp; omega)
  have hf1 := hown.free q
  have HO := Lib.hid (hown.set q p)
  have HB := Lib.hid (hbl.setCell (p := ⟨w.heap.size, q, none⟩) (Nat.le_refl _) (.int .u64 (p : Nat)))
  have HLB : Hid (((List.replicate m 0).set q p).length = m ∧ Bd ((List.replicate m 0).set q p)) := ⟨by rw [List.length_set, List.length_replicate], Bd.set (fun x hx => by rw [List.eq_of_mem_replicate hx]; decide) HPW.out⟩
  clear hown hbl hsz
  generalize (List.replicate m 0).set q p = zs0 at *
  go_wp2
  clear hc1 hf1
  go_loopw [1, 6] (fun b i wr => ∃ (bb : Bool) (k : Nat) (zs : List Nat), b = .bool bb ∧ i = .int .i64 k ∧ k ≤ m ∧ Hid (own64 wr w.heap.size (.slice (some ⟨w.heap.size, 0, none⟩) m m) zs) ∧ Hid (zs.length = m ∧ Bd zs) ∧ Hid (Below w.heap.size w wr)) (fun _ i _ => m - (intOf i).toNat)
  case atStart => exact ⟨less, 0, zs0, rfl, rfl, Nat.zero_le _, HO.out, HLB.out, HB.out⟩
  case round =>
    clear HO HB HLB
    obtain ⟨bb, k, zs, rfl, rfl, hk, HO, HL, HB⟩ := hrel
    rcases Bool.eq_false_or_eq_true bb with hbb | hbb
    · subst hbb
      by_cases hlt : k < m
      · have hqk : decide (k < m) = true := decide_eq_true hlt
        have hc := HO.out.cell (j := k) (by have := HL.out.1; omega)
        have hf := HO.out.free k
        have hx := HL.out.2.at0 k
        generalize at0 zs k = x at *
        by_cases hx0 : x = 0
        · subst hx0
          have HO2 := Lib.hid (HO.out.set k 18446744073709551615)
          have HL2 : Hid ((zs.set k 18446744073709551615).length = m ∧ Bd (zs.set k 18446744073709551615)) := ⟨by rw [List.length_set]; exact HL.out.1, Bd.set HL.out.2 (by decide)⟩
          have HB2 := Lib.hid (HB.out.setCell (p := ⟨w.heap.size, k, none⟩) (Nat.le_refl _) (.int .u64 (18446744073709551615 : Nat)))
          have e1 : IntKind.u64.wrap (-1) = ((18446744073709551615 : Nat) : Int) := by decide
          go_wp2
          go_roundw
          case rel =>
            refine ⟨_, k + 1, zs.set k 18446744073709551615, rfl, by go_num, hlt, ?_, HL2.out, ?_⟩
            · exact HO2.out
            · exact HB2.out
          case measure => simp [intOf]; omega
        · obtain ⟨x', rfl⟩ : ∃ x', x = x' + 1 := ⟨x - 1, by omega⟩
          have hxx : ((x' + 1 : Nat) : Int) - 1 = (x' : Int) := by omega
          have HO2 := Lib.hid (HO.out.set k x')
          have HL2 : Hid ((zs.set k x').length = m ∧ Bd (zs.set k x')) := ⟨by rw [List.length_set]; exact HL.out.1, Bd.set HL.out.2 (by omega)⟩
          have HB2 := Lib.hid (HB.out.setCell (p := ⟨w.heap.size, k, none⟩) (Nat.le_refl _) (.int .u64 (x' : Nat)))
          clear hx0
          go_wp2
          go_roundw
          case rel => exact ⟨_, k + 1, zs.set k x', rfl, by go_num, hlt, HO2.out, HL2.out, HB2.out⟩
          case measure => simp [intOf]; omega
      · have hqk : decide (k < m) = false := decide_eq_false hlt
        go_wp2
        go_ret
        exact ⟨_, _, _, rfl, lst_own HO.out HL.out.2 (by omega), HB.out⟩
    · subst hbb
      go_wp2
      go_ret
      exact ⟨_, _, _, rfl, lst_own HO.out HL.out.2 (by omega), HB.out⟩
theorem lits3 (w : World) (x y z : Nat) (hx : x < 18446744073709551616) (hy : y < 18446744073709551616) (hz : z < 18446744073709551616) :
    Lst (((w.alloc (.cells #[.int .u64 (x : Nat)] 23)).alloc (.cells #[.int .u64 (y : Nat), .int .u64 0] 23)).alloc (.cells #[.int .u64 (z : Nat)] 23)) (.slice (some ⟨w.heap.size, 0, none⟩) 1 1) ∧ Lst (((w.alloc (.cells #[.int .u64 (x : Nat)] 23)).alloc (.cells #[.int .u64 (y : Nat), .int .u64 0] 23)).alloc (.cells #[.int .u64 (z : Nat)] 23)) (.slice (some ⟨w.heap.size + 1, 0, none⟩) 2 2) ∧ Lst (((w.alloc (.cells #[.int .u64 (x : Nat)] 23)).alloc (.cells #[.int .u64 (y : Nat), .int .u64 0] 23)).alloc (.cells #[.int .u64 (z : Nat)] 23)) (.slice (some ⟨w.heap.size + 2, 0, none⟩) 1 1) ∧ Below w.heap.size w (((w.alloc (.cells #[.int .u64 (x : Nat)] 23)).alloc (.cells #[.int .u64 (y : Nat), .int .u64 0] 23)).alloc (.cells #[.int .u64 (z : Nat)] 23)) := by
  have h1 := lst_1 w _ x _ rfl hx rfl
  have h2 := lst_2 (w.alloc (.cells #[.int .u64 (x : Nat)] 23)) _ 0 y 0 (w.heap.size + 1) rfl rfl hy (by decide) (by simp)
  have h3 := lst_1 ((w.alloc (.cells #[.int .u64 (x : Nat)] 23)).alloc (.cells #[.int .u64 (y : Nat), .int .u64 0] 23)) _ z (w.heap.size + 2) rfl hz (by simp)
  have b2 : Below (w.alloc (.cells #[.int .u64 (x : Nat)] 23)).heap.size (w.alloc (.cells #[.int .u64 (x : Nat)] 23)) ((w.alloc (.cells #[.int .u64 (x : Nat)] 23)).alloc (.cells #[.int .u64 (y : Nat), .int .u64 0] 23)) := (Below.refl _ _).alloc (Nat.le_refl _) _
  have b3 : Below ((w.alloc (.cells #[.int .u64 (x : Nat)] 23)).alloc (.cells #[.int .u64 (y : Nat), .int .u64 0] 23)).heap.size ((w.alloc (.cells #[.int .u64 (x : Nat)] 23)).alloc (.cells #[.int .u64 (y : Nat), .int .u64 0] 23)) (((w.alloc (.cells #[.int .u64 (x : Nat)] 23)).alloc (.cells #[.int .u64 (y : Nat), .int .u64 0] 23)).alloc (.cells #[.int .u64 (z : Nat)] 23)) := (Below.refl _ _).alloc (Nat.le_refl _) _
  exact ⟨(h1.below b2).below b3, h2.below b3, h3, (((Below.refl _ _).alloc (Nat.le_refl _) _).alloc (by simp) _).alloc (by simp; omega) _⟩
theorem lits3b (w : World) (x y z : Nat) (hx : x < 18446744073709551616) (hy : y < 18446744073709551616) (hz : z < 18446744073709551616) :
    Lst (((w.alloc (.cells #[.int .u64 (x : Nat)] 23)).alloc (.cells #[.int .u64 (y : Nat)] 23)).alloc (.cells #[.int .u64 (z : Nat)] 23)) (.slice (some ⟨w.heap.size, 0, none⟩) 1 1) ∧ Lst (((w.alloc (.cells #[.int .u64 (x : Nat)] 23)).alloc (.cells #[.int .u64 (y : Nat)] 23)).alloc (.cells #[.int .u64 (z : Nat)] 23)) (.slice (some ⟨w.heap.size + 1, 0, none⟩) 1 1) ∧ Lst (((w.alloc (.cells #[.int .u64 (x : Nat)] 23)).alloc (.cells #[.int .u64 (y : Nat)] 23)).alloc (.cells #[.int .u64 (z : Nat)] 23)) (.slice (some ⟨w.heap.size + 2, 0, none⟩) 1 1) ∧ Below w.heap.size w (((w.alloc (.cells #[.int .u64 (x : Nat)] 23)).alloc (.cells #[.int .u64 (y : Nat)] 23)).alloc (.cells #[.int .u64 (z : Nat)] 23)) := by
  have h1 := lst_1 w _ x _ rfl hx rfl
  have h2 := lst_1 (w.alloc (.cells #[.int .u64 (x : Nat)] 23)) _ y (w.heap.size + 1) rfl hy (by simp)
  have h3 := lst_1 ((w.alloc (.cells #[.int .u64 (x : Nat)] 23)).alloc (.cells #[.int .u64 (y : Nat)] 23)) _ z (w.heap.size + 2) rfl hz (by simp)
  have b2 : Below (w.alloc (.cells #[.int .u64 (x : Nat)] 23)).heap.size (w.alloc (.cells #[.int .u64 (x : Nat)] 23)) ((w.alloc (.cells #[.int .u64 (x : Nat)] 23)).alloc (.cells #[.int .u64 (y : Nat)] 23)) := (Below.refl _ _).alloc (Nat.le_refl _) _
  have b3 : Below ((w.alloc (.cells #[.int .u64 (x : Nat)] 23)).alloc (.cells #[.int .u64 (y : Nat)] 23)).heap.size ((w.alloc (.cells #[.int .u64 (x : Nat)] 23)).alloc (.cells #[.int .u64 (y : Nat)] 23)) (((w.alloc (.cells #[.int .u64 (x : Nat)] 23)).alloc (.cells #[.int .u64 (y : Nat)] 23)).alloc (.cells #[.int .u64 (z : Nat)] 23)) := (Below.refl _ _).alloc (Nat.le_refl _) _
  exact ⟨(h1.below b2).below b3, h2.below b3, h3, (((Below.refl _ _).alloc (Nat.le_refl _) _).alloc (by simp) _).alloc (by simp; omega) _⟩
set_option maxHeartbeats 4000000 in
set_option maxRecDepth 100000 in
theorem small4_any (w : World) (hT : Trig w) :
    Calls Tryd.prog 4 #[] w fun e w' => e = .returned (.bool true) ∧ Below w.heap.size w w' := by
  have HT := Lib.hid (fun (W : World) (h : Below w.heap.size w W) => hT.below h)
  clear hT
  go_enter Tryd.func4, Tryd.ntmps4
  go_wp2
  go_loopw [1] (fun a wr => ∃ x : Nat, x ≤ 12 ∧ a = .int .u64 (x : Nat) ∧ Hid (Below w.heap.size w wr)) (fun a _ => 12 - (intOf a).toNat)
  case atStart => exact ⟨0, by omega, rfl, Below.refl _ _⟩
  case round =>
    obtain ⟨x, hx, rfl, HB⟩ := hrel
    by_cases hxl : x < 12
    · have hq1 : decide ((x : Int) < 12) = true := by rw [decide_eq_true_iff]; omega
      have hx2 : (x : Int).tmod 2 = ((x % 2 : Nat) : Int) := rfl
      obtain ⟨xp, hxp⟩ : ∃ xp, xp = x % 2 := ⟨_, rfl⟩
      rw [← hxp] at hx2
      have hxp2 : xp ≤ 1 := by omega
      clear hxp
      go_wp2
      go_loopw [2] (fun b wr => ∃ y : Nat, y ≤ 13 ∧ b = .int .u64 (y : Nat) ∧ Hid (Below w.heap.size w wr)) (fun b _ => 13 - (intOf b).toNat)
      case atStart => exact ⟨0, by omega, rfl, HB.out⟩
      case round =>
        clear HB
        obtain ⟨y, hy, rfl, HB⟩ := hrel
        by_cases hyl : y < 12
        · have hq2 : decide ((y : Int) < 12) = true := by rw [decide_eq_true_iff]; omega
          go_wp2
          go_loopw [3] (fun c wr => ∃ z : Nat, z ≤ 12 ∧ c = .int .u64 (z : Nat) ∧ Hid (Below w.heap.size w wr)) (fun c _ => 12 - (intOf c).toNat)
          case atStart => exact ⟨0, by omega, rfl, HB.out⟩
          case round =>
            clear HB
            obtain ⟨z, hz, rfl, HB⟩ := hrel
            by_cases hzl : z < 12
            · have hq3 : decide ((z : Int) < 12) = true := by rw [decide_eq_true_iff]; omega
              have H1 := Lib.hid (lits3 wr x y z (by omega) (by omega) (by omega))
              go_wp2_with fail
              refine (k_reckons H1.out.1 H1.out.2.1 H1.out.2.2.1 (HT.out _ (HB.out.trans (H1.out.2.2.2.mono HB.out.size)))).mono ?_
              rintro e w2 ⟨rfl, hb⟩
              have HB2 := Lib.hid ((HB.out.trans (H1.out.2.2.2.mono HB.out.size)).trans (hb.mono (HB.out.trans (H1.out.2.2.2.mono HB.out.size)).size))
              clear hb H1
              have H2 := Lib.hid (lits3b w2 x y z (by omega) (by omega) (by omega))
              go_wp2_with fail
              refine (k_powers H2.out.1 H2.out.2.1 H2.out.2.2.1 (HT.out _ (HB2.out.trans (H2.out.2.2.2.mono HB2.out.size)))).mono ?_
              rintro e w3 ⟨rfl, hb⟩
              have HB3 := Lib.hid ((HB2.out.trans (H2.out.2.2.2.mono HB2.out.size)).trans (hb.mono (HB2.out.trans (H2.out.2.2.2.mono HB2.out.size)).size))
              clear hb H2
              go_wp2
              go_roundw
              case rel => exact ⟨z + 1, by omega, by go_num, HB3.out⟩
              case measure => simp [intOf]; omega
            · have hq3 : decide ((z : Int) < 12) = false := by rw [decide_eq_false_iff_not]; omega
              go_wp2
              go_roundw
              case rel => exact ⟨y + 1 + xp, by omega, by go_num, HB.out⟩
              case measure => simp [intOf]; omega
        · have hq2 : decide ((y : Int) < 12) = false := by rw [decide_eq_false_iff_not]; omega
          go_wp2
          go_roundw
          case rel => exact ⟨x + 1, by omega, by go_num, HB.out⟩
          case measure => simp [intOf]; omega
    · have hq1 : decide ((x : Int) < 12) = false := by rw [decide_eq_false_iff_not]; omega
      go_wp2_with fail
      refine (mworks_any _ (HT.out _ HB.out)).mono ?_
      rintro e wz ⟨rfl, hb⟩
      have HZ := Lib.hid (HB.out.trans (hb.mono HB.out.size))
      clear hb
      go_wp2
      go_ret
      exact ⟨rfl, HZ.out⟩
set_option maxHeartbeats 8000000 in
set_option maxRecDepth 100000 in
theorem limits4_any (w : World) (hT : Trig w) :
    Calls Tryd.prog 5 #[] w fun e w' => e = .returned (.bool true) ∧ Below w.heap.size w w' := by
  have HT := Lib.hid (fun (W : World) (h : Below w.heap.size w W) => hT.below h)
  have HB := Lib.hid (Below.refl w.heap.size w)
  clear hT
  go_enter Tryd.func5, Tryd.ntmps5
  go_wp2_with fail
  refine (one4_any 4096 4096 true _ rfl (by decide)).mono ?_
  rintro e w1 ⟨a1, l1, c1, rfl, hL, hb⟩
  have HB := Lib.hid (HB.out.trans (hb.mono HB.out.size))
  have HL1 := Lib.hid hL
  clear hL hb
  go_wp2_with fail
  refine (one4_any 4096 4096 false _ rfl (by decide)).mono ?_
  rintro e w2 ⟨a2, l2, c2, rfl, hL, hb⟩
  have HB := Lib.hid (HB.out.trans (hb.mono HB.out.size))
  have HL1 := Lib.hid (HL1.out.below hb)
  have HL2 := Lib.hid hL
  clear hL hb
  go_wp2_with fail
  refine (one4_any 4095 4095 false _ rfl (by decide)).mono ?_
  rintro e w3 ⟨a3, l3, c3, rfl, hL, hb⟩
  have HB := Lib.hid (HB.out.trans (hb.mono HB.out.size))
  have HL1 := Lib.hid (HL1.out.below hb)
  have HL2 := Lib.hid (HL2.out.below hb)
  have HL3 := Lib.hid hL
  clear hL hb
  go_wp2_with fail
  refine (one4_any 8192 8192 true _ rfl (by decide)).mono ?_
  rintro e w4 ⟨a4, l4, c4, rfl, hL, hb⟩
  have HB := Lib.hid (HB.out.trans (hb.mono HB.out.size))
  have HL1 := Lib.hid (HL1.out.below hb)
  have HL2 := Lib.hid (HL2.out.below hb)
  have HL3 := Lib.hid (HL3.out.below hb)
  have HL4 := Lib.hid hL
  clear hL hb
  go_wp2_with fail
  refine (one4_any 8192 8192 false _ rfl (by decide)).mono ?_
  rintro e w5 ⟨a5, l5, c5, rfl, hL, hb⟩
  have HB := Lib.hid (HB.out.trans (hb.mono HB.out.size))
  have HL1 := Lib.hid (HL1.out.below hb)
  have HL2 := Lib.hid (HL2.out.below hb)
  have HL3 := Lib.hid (HL3.out.below hb)
  have HL4 := Lib.hid (HL4.out.below hb)
  have HL5 := Lib.hid hL
  clear hL hb
  go_wp2_with fail
  refine (one4_any 64 64 true _ rfl (by decide)).mono ?_
  rintro e w6 ⟨a6, l6, c6, rfl, hL, hb⟩
  have HB := Lib.hid (HB.out.trans (hb.mono HB.out.size))
  have HL1 := Lib.hid (HL1.out.below hb)
  have HL2 := Lib.hid (HL2.out.below hb)
  have HL3 := Lib.hid (HL3.out.below hb)
  have HL4 := Lib.hid (HL4.out.below hb)
  have HL5 := Lib.hid (HL5.out.below hb)
  have HL6 := Lib.hid hL
  clear hL hb
  go_wp2_with fail
  refine (one4_any 64 64 false _ rfl (by decide)).mono ?_
  rintro e w7 ⟨a7, l7, c7, rfl, hL, hb⟩
  have HB := Lib.hid (HB.out.trans (hb.mono HB.out.size))
  have HL1 := Lib.hid (HL1.out.below hb)
  have HL2 := Lib.hid (HL2.out.below hb)
  have HL3 := Lib.hid (HL3.out.below hb)
  have HL4 := Lib.hid (HL4.out.below hb)
  have HL5 := Lib.hid (HL5.out.below hb)
  have HL6 := Lib.hid (HL6.out.below hb)
  have HL7 := Lib.hid hL
  clear hL hb
  have b1 : Below w7.heap.size w7 (w7.alloc (.cells #[.int .u64 1] 23)) := (Below.refl _ _).alloc (Nat.le_refl _) _
  have b2 : Below (w7.alloc (.cells #[.int .u64 1] 23)).heap.size (w7.alloc (.cells #[.int .u64 1] 23)) ((w7.alloc (.cells #[.int .u64 1] 23)).alloc (.cells #[.int .u64 0, .int .u64 0] 23)) := (Below.refl _ _).alloc (Nat.le_refl _) _
  have b3 : Below ((w7.alloc (.cells #[.int .u64 1] 23)).alloc (.cells #[.int .u64 0, .int .u64 0] 23)).heap.size ((w7.alloc (.cells #[.int .u64 1] 23)).alloc (.cells #[.int .u64 0, .int .u64 0] 23)) (((w7.alloc (.cells #[.int .u64 1] 23)).alloc (.cells #[.int .u64 0, .int .u64 0] 23)).alloc (.cells #[.slice a1 l1 c1, .slice a2 l2 c2, .slice a3 l3 c3, .slice a4 l4 c4, .slice a5 l5 c5, .slice a6 l6 c6, .slice a7 l7 c7, .slice (some ⟨w7.heap.size, 0, none⟩) 1 1, .slice none 0 0, .slice (some ⟨w7.heap.size + 1, 0, none⟩) 2 2] 25)) := (Below.refl _ _).alloc (Nat.le_refl _) _
  have h8 := ((lst_1 w7 1 1 w7.heap.size rfl (by decide) rfl).below b2).below b3
  have h9 := (lst_2 (w7.alloc (.cells #[.int .u64 1] 23)) 0 0 0 0 (w7.heap.size + 1) rfl rfl (by decide) (by decide) (by simp)).below b3
  have HALL : Hid (Lst (((w7.alloc (.cells #[.int .u64 1] 23)).alloc (.cells #[.int .u64 0, .int .u64 0] 23)).alloc (.cells #[.slice a1 l1 c1, .slice a2 l2 c2, .slice a3 l3 c3, .slice a4 l4 c4, .slice a5 l5 c5, .slice a6 l6 c6, .slice a7 l7 c7, .slice (some ⟨w7.heap.size, 0, none⟩) 1 1, .slice none 0 0, .slice (some ⟨w7.heap.size + 1, 0, none⟩) 2 2] 25)) (.slice a1 l1 c1) ∧ Lst (((w7.alloc (.cells #[.int .u64 1] 23)).alloc (.cells #[.int .u64 0, .int .u64 0] 23)).alloc (.cells #[.slice a1 l1 c1, .slice a2 l2 c2, .slice a3 l3 c3, .slice a4 l4 c4, .slice a5 l5 c5, .slice a6 l6 c6, .slice a7 l7 c7, .slice (some ⟨w7.heap.size, 0, none⟩) 1 1, .slice none 0 0, .slice (some ⟨w7.heap.size + 1, 0, none⟩) 2 2] 25)) (.slice a2 l2 c2) ∧ Lst (((w7.alloc (.cells #[.int .u64 1] 23)).alloc (.cells #[.int .u64 0, .int .u64 0] 23)).alloc (.cells #[.slice a1 l1 c1, .slice a2 l2 c2, .slice a3 l3 c3, .slice a4 l4 c4, .slice a5 l5 c5, .slice a6 l6 c6, .slice a7 l7 c7, .slice (some ⟨w7.heap.size, 0, none⟩) 1 1, .slice none 0 0, .slice (some ⟨w7.heap.size + 1, 0, none⟩) 2 2] 25)) (.slice a3 l3 c3) ∧ Lst (((w7.alloc (.cells #[.int .u64 1] 23)).alloc (.cells #[.int .u64 0, .int .u64 0] 23)).alloc (.cells #[.slice a1 l1 c1, .slice a2 l2 c2, .slice a3 l3 c3, .slice a4 l4 c4, .slice a5 l5 c5, .slice a6 l6 c6, .slice a7 l7 c7, .slice (some ⟨w7.heap.size, 0, none⟩) 1 1, .slice none 0 0, .slice (some ⟨w7.heap.size + 1, 0, none⟩) 2 2] 25)) (.slice a4 l4 c4) ∧ Lst (((w7.alloc (.cells #[.int .u64 1] 23)).alloc (.cells #[.int .u64 0, .int .u64 0] 23)).alloc (.cells #[.slice a1 l1 c1, .slice a2 l2 c2, .slice a3 l3 c3, .slice a4 l4 c4, .slice a5 l5 c5, .slice a6 l6 c6, .slice a7 l7 c7, .slice (some ⟨w7.heap.size, 0, none⟩) 1 1, .slice none 0 0, .slice (some ⟨w7.heap.size + 1, 0, none⟩) 2 2] 25)) (.slice a5 l5 c5) ∧ Lst (((w7.alloc (.cells #[.int .u64 1] 23)).alloc (.cells #[.int .u64 0, .int .u64 0] 23)).alloc (.cells #[.slice a1 l1 c1, .slice a2 l2 c2, .slice a3 l3 c3, .slice a4 l4 c4, .slice a5 l5 c5, .slice a6 l6 c6, .slice a7 l7 c7, .slice (some ⟨w7.heap.size, 0, none⟩) 1 1, .slice none 0 0, .slice (some ⟨w7.heap.size + 1, 0, none⟩) 2 2] 25)) (.slice a6 l6 c6) ∧ Lst (((w7.alloc (.cells #[.int .u64 1] 23)).alloc (.cells #[.int .u64 0, .int .u64 0] 23)).alloc (.cells #[.slice a1 l1 c1, .slice a2 l2 c2, .slice a3 l3 c3, .slice a4 l4 c4, .slice a5 l5 c5, .slice a6 l6 c6, .slice a7 l7 c7, .slice (some ⟨w7.heap.size, 0, none⟩) 1 1, .slice none 0 0, .slice (some ⟨w7.heap.size + 1, 0, none⟩) 2 2] 25)) (.slice a7 l7 c7) ∧ Lst (((w7.alloc (.cells #[.int .u64 1] 23)).alloc (.cells #[.int .u64 0, .int .u64 0] 23)).alloc (.cells #[.slice a1 l1 c1, .slice a2 l2 c2, .slice a3 l3 c3, .slice a4 l4 c4, .slice a5 l5 c5, .slice a6 l6 c6, .slice a7 l7 c7, .slice (some ⟨w7.heap.size, 0, none⟩) 1 1, .slice none 0 0, .slice (some ⟨w7.heap.size + 1, 0, none⟩) 2 2] 25)) (.slice (some ⟨w7.heap.size, 0, none⟩) 1 1) ∧ Lst (((w7.alloc (.cells #[.int .u64 1] 23)).alloc (.cells #[.int .u64 0, .int .u64 0] 23)).alloc (.cells #[.slice a1 l1 c1, .slice a2 l2 c2, .slice a3 l3 c3, .slice a4 l4 c4, .slice a5 l5 c5, .slice a6 l6 c6, .slice a7 l7 c7, .slice (some ⟨w7.heap.size, 0, none⟩) 1 1, .slice none 0 0, .slice (some ⟨w7.heap.size + 1, 0, none⟩) 2 2] 25)) (.slice none 0 0) ∧ Lst (((w7.alloc (.cells #[.int .u64 1] 23)).alloc (.cells #[.int .u64 0, .int .u64 0] 23)).alloc (.cells #[.slice a1 l1 c1, .slice a2 l2 c2, .slice a3 l3 c3, .slice a4 l4 c4, .slice a5 l5 c5, .slice a6 l6 c6, .slice a7 l7 c7, .slice (some ⟨w7.heap.size, 0, none⟩) 1 1, .slice none 0 0, .slice (some ⟨w7.heap.size + 1, 0, none⟩) 2 2] 25)) (.slice (some ⟨w7.heap.size + 1, 0, none⟩) 2 2)) := ⟨((HL1.out.below b1).below b2).below b3, ((HL2.out.below b1).below b2).below b3, ((HL3.out.below b1).below b2).below b3, ((HL4.out.below b1).below b2).below b3, ((HL5.out.below b1).below b2).below b3, ((HL6.out.below b1).below b2).below b3, ((HL7.out.below b1).below b2).below b3, h8, lst_nil _, h9⟩
  have HCL : Hid ((((w7.alloc (.cells #[.int .u64 1] 23)).alloc (.cells #[.int .u64 0, .int .u64 0] 23)).alloc (.cells #[.slice a1 l1 c1, .slice a2 l2 c2, .slice a3 l3 c3, .slice a4 l4 c4, .slice a5 l5 c5, .slice a6 l6 c6, .slice a7 l7 c7, .slice (some ⟨w7.heap.size, 0, none⟩) 1 1, .slice none 0 0, .slice (some ⟨w7.heap.size + 1, 0, none⟩) 2 2] 25)).cell? ⟨w7.heap.size + 2, 0, none⟩ = some (.slice a1 l1 c1) ∧ (((w7.alloc (.cells #[.int .u64 1] 23)).alloc (.cells #[.int .u64 0, .int .u64 0] 23)).alloc (.cells #[.slice a1 l1 c1, .slice a2 l2 c2, .slice a3 l3 c3, .slice a4 l4 c4, .slice a5 l5 c5, .slice a6 l6 c6, .slice a7 l7 c7, .slice (some ⟨w7.heap.size, 0, none⟩) 1 1, .slice none 0 0, .slice (some ⟨w7.heap.size + 1, 0, none⟩) 2 2] 25)).cell? ⟨w7.heap.size + 2, 1, none⟩ = some (.slice a2 l2 c2) ∧ (((w7.alloc (.cells #[.int .u64 1] 23)).alloc (.cells #[.int .u64 0, .int .u64 0] 23)).alloc (.cells #[.slice a1 l1 c1, .slice a2 l2 c2, .slice a3 l3 c3, .slice a4 l4 c4, .slice a5 l5 c5, .slice a6 l6 c6, .slice a7 l7 c7, .slice (some ⟨w7.heap.size, 0, none⟩) 1 1, .slice none 0 0, .slice (some ⟨w7.heap.size + 1, 0, none⟩) 2 2] 25)).cell? ⟨w7.heap.size + 2, 2, none⟩ = some (.slice a3 l3 c3) ∧ (((w7.alloc (.cells #[.int .u64 1] 23)).alloc (.cells #[.int .u64 0, .int .u64 0] 23)).alloc (.cells #[.slice a1 l1 c1, .slice a2 l2 c2, .slice a3 l3 c3, .slice a4 l4 c4, .slice a5 l5 c5, .slice a6 l6 c6, .slice a7 l7 c7, .slice (some ⟨w7.heap.size, 0, none⟩) 1 1, .slice none 0 0, .slice (some ⟨w7.heap.size + 1, 0, none⟩) 2 2] 25)).cell? ⟨w7.heap.size + 2, 3, none⟩ = some (.slice a4 l4 c4) ∧ (((w7.alloc (.cells #[.int .u64 1] 23)).alloc (.cells #[.int .u64 0, .int .u64 0] 23)).alloc (.cells #[.slice a1 l1 c1, .slice a2 l2 c2, .slice a3 l3 c3, .slice a4 l4 c4, .slice a5 l5 c5, .slice a6 l6 c6, .slice a7 l7 c7, .slice (some ⟨w7.heap.size, 0, none⟩) 1 1, .slice none 0 0, .slice (some ⟨w7.heap.size + 1, 0, none⟩) 2 2] 25)).cell? ⟨w7.heap.size + 2, 4, none⟩ = some (.slice a5 l5 c5) ∧ (((w7.alloc (.cells #[.int .u64 1] 23)).alloc (.cells #[.int .u64 0, .int .u64 0] 23)).alloc (.cells #[.slice a1 l1 c1, .slice a2 l2 c2, .slice a3 l3 c3, .slice a4 l4 c4, .slice a5 l5 c5, .slice a6 l6 c6, .slice a7 l7 c7, .slice (some ⟨w7.heap.size, 0, none⟩) 1 1, .slice none 0 0, .slice (some ⟨w7.heap.size + 1, 0, none⟩) 2 2] 25)).cell? ⟨w7.heap.size + 2, 5, none⟩ = some (.slice a6 l6 c6) ∧ (((w7.alloc (.cells #[.int .u64 1] 23)).alloc (.cells #[.int .u64 0, .int .u64 0] 23)).alloc (.cells #[.slice a1 l1 c1, .slice a2 l2 c2, .slice a3 l3 c3, .slice a4 l4 c4, .slice a5 l5 c5, .slice a6 l6 c6, .slice a7 l7 c7, .slice (some ⟨w7.heap.size, 0, none⟩) 1 1, .slice none 0 0, .slice (some ⟨w7.heap.size + 1, 0, none⟩) 2 2] 25)).cell? ⟨w7.heap.size + 2, 6, none⟩ = some (.slice a7 l7 c7) ∧ (((w7.alloc (.cells #[.int .u64 1] 23)).alloc (.cells #[.int .u64 0, .int .u64 0] 23)).alloc (.cells #[.slice a1 l1 c1, .slice a2 l2 c2, .slice a3 l3 c3, .slice a4 l4 c4, .slice a5 l5 c5, .slice a6 l6 c6, .slice a7 l7 c7, .slice (some ⟨w7.heap.size, 0, none⟩) 1 1, .slice none 0 0, .slice (some ⟨w7.heap.size + 1, 0, none⟩) 2 2] 25)).cell? ⟨w7.heap.size + 2, 7, none⟩ = some (.slice (some ⟨w7.heap.size, 0, none⟩) 1 1) ∧ (((w7.alloc (.cells #[.int .u64 1] 23)).alloc (.cells #[.int .u64 0, .int .u64 0] 23)).alloc (.cells #[.slice a1 l1 c1, .slice a2 l2 c2, .slice a3 l3 c3, .slice a4 l4 c4, .slice a5 l5 c5, .slice a6 l6 c6, .slice a7 l7 c7, .slice (some ⟨w7.heap.size, 0, none⟩) 1 1, .slice none 0 0, .slice (some ⟨w7.heap.size + 1, 0, none⟩) 2 2] 25)).cell? ⟨w7.heap.size + 2, 8, none⟩ = some (.slice none 0 0) ∧ (((w7.alloc (.cells #[.int .u64 1] 23)).alloc (.cells #[.int .u64 0, .int .u64 0] 23)).alloc (.cells #[.slice a1 l1 c1, .slice a2 l2 c2, .slice a3 l3 c3, .slice a4 l4 c4, .slice a5 l5 c5, .slice a6 l6 c6, .slice a7 l7 c7, .slice (some ⟨w7.heap.size, 0, none⟩) 1 1, .slice none 0 0, .slice (some ⟨w7.heap.size + 1, 0, none⟩) 2 2] 25)).cell? ⟨w7.heap.size + 2, 9, none⟩ = some (.slice (some ⟨w7.heap.size + 1, 0, none⟩) 2 2)) := by
    refine ⟨?_, ?_, ?_, ?_, ?_, ?_, ?_, ?_, ?_, ?_⟩ <;> exact World.cell?_alloc_at _ _ _ _ (by simp)
  have HB := Lib.hid (HB.out.trans ((b1.trans (b2.mono b1.size)).trans (b3.mono (b1.trans (b2.mono b1.size)).size) |>.mono HB.out.size))
  clear b1 b2 b3 h8 h9 HL1 HL2 HL3 HL4 HL5 HL6 HL7
  go_wp2
  generalize hWC : (((w7.alloc (.cells #[.int .u64 1] 23)).alloc (.cells #[.int .u64 0, .int .u64 0] 23)).alloc (.cells #[.slice a1 l1 c1, .slice a2 l2 c2, .slice a3 l3 c3, .slice a4 l4 c4, .slice a5 l5 c5, .slice a6 l6 c6, .slice a7 l7 c7, .slice (some ⟨w7.heap.size, 0, none⟩) 1 1, .slice none 0 0, .slice (some ⟨w7.heap.size + 1, 0, none⟩) 2 2] 25)) = WC at *
  clear hWC
  have HBC : Hid (∀ W, Below WC.heap.size WC W → ∀ i, i < 10 → ∃ v, W.cell? ⟨w7.heap.size + 2, i, none⟩ = some v ∧ Lst W v) := by
    intro W hb i hi
    obtain ⟨t0, t1, t2, t3, t4, t5, t6, t7, t8, t9⟩ := HALL.out
    obtain ⟨u0, u1, u2, u3, u4, u5, u6, u7, u8, u9⟩ := HCL.out
    rcases (show i = 0 ∨ i = 1 ∨ i = 2 ∨ i = 3 ∨ i = 4 ∨ i = 5 ∨ i = 6 ∨ i = 7 ∨ i = 8 ∨ i = 9 by omega) with rfl | rfl | rfl | rfl | rfl | rfl | rfl | rfl | rfl | rfl
    · exact ⟨_, below_cell hb _ _ u0, t0.below hb⟩
    · exact ⟨_, below_cell hb _ _ u1, t1.below hb⟩
    · exact ⟨_, below_cell hb _ _ u2, t2.below hb⟩
    · exact ⟨_, below_cell hb _ _ u3, t3.below hb⟩
    · exact ⟨_, below_cell hb _ _ u4, t4.below hb⟩
    · exact ⟨_, below_cell hb _ _ u5, t5.below hb⟩
    · exact ⟨_, below_cell hb _ _ u6, t6.below hb⟩
    · exact ⟨_, below_cell hb _ _ u7, t7.below hb⟩
    · exact ⟨_, below_cell hb _ _ u8, t8.below hb⟩
    · exact ⟨_, below_cell hb _ _ u9, t9.below hb⟩
  clear HALL HCL
  generalize w7.heap.size + 2 = g at *
  go_loopw [2] (fun i wr => ∃ k : Nat, k ≤ 10 ∧ i = .int .i64 k ∧ Hid (Below WC.heap.size WC wr)) (fun i _ => 10 - (intOf i).toNat)
  case atStart => exact ⟨0, by omega, rfl, Below.refl _ _⟩
  case round =>
    obtain ⟨i, hi, rfl, HW⟩ := hrel
    by_cases hil : i < 10
    · have hq1 : decide ((i : Int) < 10) = true := by rw [decide_eq_true_iff]; omega
      have hi2 : (i : Int).tmod 2 = ((i % 2 : Nat) : Int) := rfl
      obtain ⟨ip, hip⟩ : ∃ ip, ip = i % 2 := ⟨_, rfl⟩
      rw [← hip] at hi2
      have hip2 : ip ≤ 1 := by omega
      clear hip
      go_wp2
      clear hi2
      go_loopw [3] (fun c wr => ∃ k : Nat, k ≤ 11 ∧ c = .int .i64 k ∧ Hid (Below WC.heap.size WC wr)) (fun c _ => 11 - (intOf c).toNat)
      case atStart => exact ⟨ip, by omega, rfl, HW.out⟩
      case round =>
        clear HW
        obtain ⟨k, hk, rfl, HW⟩ := hrel
        by_cases hkl : k < 10
        · have hq2 : decide ((k : Int) < 10) = true := by rw [decide_eq_true_iff]; omega
          obtain ⟨j, hj⟩ : ∃ j, (i + k + 1) % 10 = j := ⟨_, rfl⟩
          have hjl : j < 10 := by omega
          have hjd : decide ((j : Int) < 10) = true := by rw [decide_eq_true_iff]; omega
          have hje : ((i : Int) + (k : Int) + 1) % 10 = (j : Int) := by omega
          have hjt : ((i : Int) + (k : Int) + 1).tmod 10 = (j : Int) := by
            rw [← hj]
            exact (rfl : (((i + k + 1 : Nat) : Int)).tmod 10 = _)
          have hw1 : IntKind.i64.wrap ((i : Int) + (k : Int)) = (i : Int) + (k : Int) := IntWalk.i64_in _ (by omega)
          have hw2 : IntKind.i64.wrap ((i : Int) + (k : Int) + 1) = (i : Int) + (k : Int) + 1 := IntWalk.i64_in _ (by omega)
          have hw3 : IntKind.i64.wrap (j : Int) = (j : Int) := IntWalk.i64_in _ (by omega)
          clear hj
          have ti0 : (0 : Int) ≤ (i : Int) := by omega
          have ti1 : (i : Int) < 10 := by omega
          have tj0 : (0 : Int) ≤ (j : Int) := by omega
          have tj1 : (j : Int) < 10 := by omega
          have tk0 : (0 : Int) ≤ (k : Int) := by omega
          have tk1 : (k : Int) < 10 := by omega
          obtain ⟨vi, ci, Li⟩ := HBC.out WC (Below.refl _ _) i hil
          obtain ⟨vj, cj, Lj⟩ := HBC.out WC (Below.refl _ _) j hjl
          obtain ⟨vk, ck, Lk⟩ := HBC.out WC (Below.refl _ _) k hkl
          have HKS : Hid (∀ W, Below WC.heap.size WC W → W.cell? ⟨g, i, none⟩ = some vi ∧ W.cell? ⟨g, j, none⟩ = some vj ∧ W.cell? ⟨g, k, none⟩ = some vk) := fun W hb => ⟨below_cell hb _ _ ci, below_cell hb _ _ cj, below_cell hb _ _ ck⟩
          have HLS : Hid (∀ W, Below WC.heap.size WC W → Lst W vi ∧ Lst W vj ∧ Lst W vk ∧ Trig W) := fun W hb => ⟨Li.below hb, Lj.below hb, Lk.below hb, HT.out _ (HB.out.trans (hb.mono HB.out.size))⟩
          clear ci Li cj Lj ck Lk
          have HW := Lib.hid HW.out.drew
          go_wp2_with fail
          go_region_held3 (fun W => W.cell? ⟨g, i, none⟩ = some vi ∧ W.cell? ⟨g, j, none⟩ = some vj ∧ W.cell? ⟨g, k, none⟩ = some vk)
            (first | exact HKS.out _ HW.out | exact HKS.out _ (HW.out.alloc HW.out.size _))
            (first
            | (go_at_call 6; (refine (k_reckons (HLS.out _ HW.out).1 (HLS.out _ HW.out).2.1 (HLS.out _ HW.out).2.2.1 (HLS.out _ HW.out).2.2.2).mono ?_); rintro e wY ⟨rfl, hb⟩
               have HW := Lib.hid (HW.out.trans (hb.mono HW.out.size))
               clear hb)
            | (go_at_call 7; (refine (k_powers (HLS.out _ (HW.out.alloc HW.out.size _)).1 (lst_1 _ 5 5 _ rfl (by decide) rfl) (HLS.out _ (HW.out.alloc HW.out.size _)).2.2.1 (HLS.out _ (HW.out.alloc HW.out.size _)).2.2.2).mono ?_); rintro e wZ ⟨rfl, hb⟩
               have HW := Lib.hid ((HW.out.alloc HW.out.size _).trans (hb.mono (HW.out.alloc HW.out.size _).size))
               clear hb))
          go_wp2
          go_roundw
          case rel => exact ⟨k + 2, by omega, by go_num, HW.out⟩
          case measure => simp [intOf]; omega
        · have hq2 : decide ((k : Int) < 10) = false := by rw [decide_eq_false_iff_not]; omega
          go_wp2
          go_roundw
          case rel => exact ⟨i + 1, by omega, by go_num, HW.out⟩
          case measure => simp [intOf]; omega
    · have hq1 : decide ((i : Int) < 10) = false := by rw [decide_eq_false_iff_not]; omega
      have HB := Lib.hid (HB.out.trans (HW.out.mono HB.out.size))
      clear HW
      go_wp2_with fail
      refine (one4_any 8191 8191 true _ rfl (by decide)).mono ?_
      rintro e w21 ⟨a21, l21, c21, rfl, hL, hb⟩
      have HB := Lib.hid (HB.out.trans (hb.mono HB.out.size))
      have HL21 := Lib.hid hL
      clear hL hb
      go_wp2_with fail
      refine (one4_any 63 63 true _ rfl (by decide)).mono ?_
      rintro e w22 ⟨a22, l22, c22, rfl, hL, hb⟩
      have HB := Lib.hid (HB.out.trans (hb.mono HB.out.size))
      have HL21 := Lib.hid (HL21.out.below hb)
      have HL22 := Lib.hid hL
      clear hL hb
      go_wp2_with fail
      refine (one4_any 128 128 true _ rfl (by decide)).mono ?_
      rintro e w23 ⟨a23, l23, c23, rfl, hL, hb⟩
      have HB := Lib.hid (HB.out.trans (hb.mono HB.out.size))
      have HL21 := Lib.hid (HL21.out.below hb)
      have HL22 := Lib.hid (HL22.out.below hb)
      have HL23 := Lib.hid hL
      clear hL hb
      go_wp2_with fail
      refine (k_powers HL21.out HL22.out HL23.out (HT.out _ HB.out)).mono ?_
      rintro e w24 ⟨rfl, hb⟩
      have HB := Lib.hid (HB.out.trans (hb.mono HB.out.size))
      clear hb
      clear HL21 HL22 HL23
      go_wp2_with fail
      refine (one4_any 99 99 true _ rfl (by decide)).mono ?_
      rintro e w25 ⟨a25, l25, c25, rfl, hL, hb⟩
      have HB := Lib.hid (HB.out.trans (hb.mono HB.out.size))
      have HL25 := Lib.hid hL
      clear hL hb
      go_wp2_with fail
      refine (one4_any 8192 8192 true _ rfl (by decide)).mono ?_
      rintro e w26 ⟨a26, l26, c26, rfl, hL, hb⟩
      have HB := Lib.hid (HB.out.trans (hb.mono HB.out.size))
      have HL25 := Lib.hid (HL25.out.below hb)
      have HL26 := Lib.hid hL
      clear hL hb
      have hal : Below w26.heap.size w26 (w26.alloc (.cells #[.int .u64 7, .int .u64 1] 23)) := (Below.refl _ _).alloc (Nat.le_refl _) _
      have HL25 := Lib.hid (HL25.out.below hal)
      have HL26 := Lib.hid (HL26.out.below hal)
      have HL27 := Lib.hid (lst_2 w26 7 1 7 1 w26.heap.size rfl rfl (by decide) (by decide) rfl)
      have HB := Lib.hid (HB.out.trans (hal.mono HB.out.size))
      clear hal
      go_wp2_with fail
      refine (k_powers HL25.out HL26.out HL27.out (HT.out _ HB.out)).mono ?_
      rintro e w28 ⟨rfl, hb⟩
      have HB := Lib.hid (HB.out.trans (hb.mono HB.out.size))
      clear hb
      clear HL25 HL26 HL27
      have HL29 := Lib.hid (lst_1 w28 3 3 w28.heap.size rfl (by decide) rfl)
      have HB := Lib.hid (HB.out.alloc HB.out.size (.cells #[.int .u64 3] 23))
      go_wp2_with fail
      refine (one4_any 8192 8192 false _ rfl (by decide)).mono ?_
      rintro e w30 ⟨a30, l30, c30, rfl, hL, hb⟩
      have HB := Lib.hid (HB.out.trans (hb.mono HB.out.size))
      have HL29 := Lib.hid (HL29.out.below hb)
      have HL30 := Lib.hid hL
      clear hL hb
      have hal : Below w30.heap.size w30 (w30.alloc (.cells #[.int .u64 5] 23)) := (Below.refl _ _).alloc (Nat.le_refl _) _
      have HL29 := Lib.hid (HL29.out.below hal)
      have HL30 := Lib.hid (HL30.out.below hal)
      have HL31 := Lib.hid (lst_1 w30 5 5 w30.heap.size rfl (by decide) rfl)
      have HB := Lib.hid (HB.out.trans (hal.mono HB.out.size))
      clear hal
      go_wp2_with fail
      refine (k_powers HL29.out HL30.out HL31.out (HT.out _ HB.out)).mono ?_
      rintro e w32 ⟨rfl, hb⟩
      have HB := Lib.hid (HB.out.trans (hb.mono HB.out.size))
      clear hb
      go_wp2_with fail
      refine (mworks_any _ (HT.out _ HB.out)).mono ?_
      rintro e wz ⟨rfl, hb⟩
      have HZ := Lib.hid (HB.out.trans (hb.mono HB.out.size))
      clear hb
      go_wp2
      go_ret
      exact ⟨rfl, HZ.out⟩
set_option maxHeartbeats 1000000 in
theorem mknown_any (w : World) (hT : Trig w) :
    Calls Tryd.prog 3 #[] w fun e w' => e = .returned (.bool true) ∧ Below w.heap.size w w' := by
  have HT := Lib.hid (fun (W : World) (h : Below w.heap.size w W) => hT.below h)
  clear hT
  go_enter Tryd.func3, Tryd.ntmps3
  go_wp2_with fail
  refine (small4_any _ (HT.out _ (Below.refl _ _))).mono ?_
  rintro e w1 ⟨rfl, hb⟩
  have HB := Lib.hid hb
  clear hb
  go_wp2_with fail
  refine (limits4_any _ (HT.out _ HB.out)).mono ?_
  rintro e w2 ⟨rfl, hb⟩
  have HB := Lib.hid (HB.out.trans (hb.mono HB.out.size))
  clear hb
  go_wp2
  go_ret
  exact ⟨rfl, HB.out⟩
end Go.Proofs.YticncpeeeiobfaaDoor
