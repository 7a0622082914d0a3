import Derived.Test.YtaookoejdnkkoaaGreatDoorKMv
import Derived.Test.YtaookoejdnkkoaaGreatDoorKRsZ
namespace Go.Proofs.YtaookoejdnkkoaaGreatDoor
open Go.RowKit

/-! The laws: what they share. -/
theorem ext_below8 {xs ys : List Nat} {n : Nat} (h1 : xs.length = n) (h2 : ys.length = n) (h : ∀ j, j < n → at0 xs j = at0 ys j) : xs = ys :=
  ext_at0 (by omega) fun i hi => h i (by omega)
set_option maxHeartbeats 1000000 in
/-- Two lists of limbs, whatever they hold. -/
theorem words8_any (a b : Option Addr) (la lb ca cb : Nat) (xs ys : List Nat) (w : World) (hla : xs.length = la) (hlb : ys.length = lb) (hba : la ≤ 1099511627776) (hra : Rd .u64 w a xs) (hrb : Rd .u64 w b ys) :
    Calls Tryz.prog 74 #[.slice a la ca, .slice b lb cb] w fun e w' => e = .returned (.bool (decide (xs = ys))) ∧ ∃ n, w' = w.drewN n := by
  by_cases hll : la = lb
  · subst hll
    have HXY : Hid (xs.length = la ∧ ys.length = la) := ⟨hla, hlb⟩
    go_enter Tryz.func74, Tryz.ntmps74
    have hne : ((la : Int) != (la : Int)) = false := by simp
    go_wp2
    go_loopw [5] (fun v wr => ∃ i n' : Nat, i ≤ la ∧ v = .int .i64 (i : Nat) ∧ wr = w.drewN n' ∧ Hid (∀ j, j < i → at0 xs j = at0 ys j)) (fun v _ => la - (intOf v).toNat)
    case atStart => exact ⟨0, 0, Nat.zero_le _, rfl, rfl, fun j hj => absurd hj (Nat.not_lt_zero _)⟩
    case round =>
      obtain ⟨i, n', hi, rfl, rfl, HS⟩ := hrel
      by_cases h0 : i < la
      · obtain ⟨ba, oa, rfl⟩ := hra.isAt (by omega)
        obtain ⟨bb, ob, rfl⟩ := hrb.isAt (by omega)
        have hc1 := hra.cell (i := i) (by omega)
        have hc2 := hrb.cell (i := i) (by omega)
        have h00 : (0 : Int) ≤ (i : Int) := by omega
        clear hra hrb hla hlb
        by_cases hxy : at0 xs i = at0 ys i
        · have HXE := Lib.hid hxy
          rw [← hxy] at hc2
          clear hxy
          generalize at0 xs i = x at hc1 hc2
          have hxx : ((x : Int) != (x : Int)) = false := by simp
          go_wp2
          go_quiet (fail)
          go_wp2
          go_roundw
          case rel =>
            refine ⟨i + 1, n' + nq, by omega, by go_num, by first | rfl | exact World.drewN_drewN _ _ _, fun j hj => ?_⟩
            rcases Nat.lt_or_ge j i with h | h
            · exact HS.out j h
            · obtain rfl : j = i := by omega
              exact HXE.out
          case measure => simp [intOf]; omega
        · have HNE : Hid (xs ≠ ys) := fun h => hxy (by rw [h])
          generalize at0 xs i = x at hc1 hxy
          generalize at0 ys i = y at hc2 hxy
          have hxx : ((x : Int) != (y : Int)) = true := by simp; omega
          clear hxy
          go_wp2
          go_quiet (fail)
          go_wp2
          go_ret
          exact ⟨by rw [decide_eq_false HNE.out]; rfl, n' + nq, by first | rfl | exact World.drewN_drewN _ _ _⟩
      · obtain rfl : i = la := by omega
        have hq : decide (i < i) = false := by simp
        go_wp2
        go_ret
        exact ⟨by rw [decide_eq_true (ext_below8 HXY.out.1 HXY.out.2 HS.out)]; rfl, n', rfl⟩
  · have HNE : Hid (xs ≠ ys) := fun h => hll (by rw [← hla, ← hlb, h])
    have hne : ((la : Int) != (lb : Int)) = true := by simp; omega
    clear hll
    go_enter Tryz.func74, Tryz.ntmps74
    go_wp2
    go_ret
    exact ⟨by rw [decide_eq_false HNE.out]; rfl, 0, rfl⟩

set_option maxHeartbeats 1000000 in
/-- Two rows of bytes, whatever they hold. -/
theorem bytes8_any (a b : Option Addr) (la lb ca cb : Nat) (xs ys : List Nat) (w : World) (hla : xs.length = la) (hlb : ys.length = lb) (hba : la ≤ 1099511627776) (hra : Rd .u8 w a xs) (hrb : Rd .u8 w b ys) :
    Calls Tryz.prog 22 #[.slice a la ca, .slice b lb cb] w fun e w' => e = .returned (.bool (decide (xs = ys))) ∧ ∃ n, w' = w.drewN n := by
  by_cases hll : la = lb
  · subst hll
    have HXY : Hid (xs.length = la ∧ ys.length = la) := ⟨hla, hlb⟩
    go_enter Tryz.func22, Tryz.ntmps22
    have hne : ((la : Int) != (la : Int)) = false := by simp
    go_wp2
    go_loopw [5] (fun v wr => ∃ i n' : Nat, i ≤ la ∧ v = .int .i64 (i : Nat) ∧ wr = w.drewN n' ∧ Hid (∀ j, j < i → at0 xs j = at0 ys j)) (fun v _ => la - (intOf v).toNat)
    case atStart => exact ⟨0, 0, Nat.zero_le _, rfl, rfl, fun j hj => absurd hj (Nat.not_lt_zero _)⟩
    case round =>
      obtain ⟨i, n', hi, rfl, rfl, HS⟩ := hrel
      by_cases h0 : i < la
      · obtain ⟨ba, oa, rfl⟩ := hra.isAt (by omega)
        obtain ⟨bb, ob, rfl⟩ := hrb.isAt (by omega)
        have hc1 := hra.cell (i := i) (by omega)
        have hc2 := hrb.cell (i := i) (by omega)
        have h00 : (0 : Int) ≤ (i : Int) := by omega
        clear hra hrb hla hlb
        by_cases hxy : at0 xs i = at0 ys i
        · have HXE := Lib.hid hxy
          rw [← hxy] at hc2
          clear hxy
          generalize at0 xs i = x at hc1 hc2
          have hxx : ((x : Int) != (x : Int)) = false := by simp
          go_wp2
          go_quiet (fail)
          go_wp2
          go_roundw
          case rel =>
            refine ⟨i + 1, n' + nq, by omega, by go_num, by first | rfl | exact World.drewN_drewN _ _ _, fun j hj => ?_⟩
            rcases Nat.lt_or_ge j i with h | h
            · exact HS.out j h
            · obtain rfl : j = i := by omega
              exact HXE.out
          case measure => simp [intOf]; omega
        · have HNE : Hid (xs ≠ ys) := fun h => hxy (by rw [h])
          generalize at0 xs i = x at hc1 hxy
          generalize at0 ys i = y at hc2 hxy
          have hxx : ((x : Int) != (y : Int)) = true := by simp; omega
          clear hxy
          go_wp2
          go_quiet (fail)
          go_wp2
          go_ret
          exact ⟨by rw [decide_eq_false HNE.out]; rfl, n' + nq, by first | rfl | exact World.drewN_drewN _ _ _⟩
      · obtain rfl : i = la := by omega
        have hq : decide (i < i) = false := by simp
        go_wp2
        go_ret
        exact ⟨by rw [decide_eq_true (ext_below8 HXY.out.1 HXY.out.2 HS.out)]; rfl, n', rfl⟩
  · have HNE : Hid (xs ≠ ys) := fun h => hll (by rw [← hla, ← hlb, h])
    have hne : ((la : Int) != (lb : Int)) = true := by simp; omega
    clear hll
    go_enter Tryz.func22, Tryz.ntmps22
    go_wp2
    go_ret
    exact ⟨by rw [decide_eq_false HNE.out]; rfl, 0, rfl⟩

theorem p_sameb {w : World} {v1 v2 : Value} {l1 l2 : List Nat} (h1 : Raw8 w v1 l1) (h2 : Raw8 w v2 l2) (hb : l1.length ≤ 1099511627776) :
    Calls Tryz.prog 22 #[v1, v2] w fun e w' => Below w.heap.size w w' ∧ ((l1 = l2 ∧ e = .returned (.bool true)) ∨ (l1 ≠ l2 ∧ e = .returned (.bool false))) := by
  obtain ⟨a, c, rfl, _, _, r1, _⟩ := h1
  obtain ⟨b, d, rfl, _, _, r2, _⟩ := h2
  refine (bytes8_any a b _ _ c d l1 l2 w rfl rfl hb r1 r2).mono ?_
  rintro e w' ⟨rfl, n, rfl⟩
  refine ⟨⟨rfl, rfl, rfl, Nat.le_refl _, fun _ _ => rfl⟩, ?_⟩
  by_cases h : l1 = l2
  · exact .inl ⟨h, by rw [decide_eq_true h]⟩
  · exact .inr ⟨h, by rw [decide_eq_false h]⟩
theorem p_samew {w : World} {v1 v2 : Value} {l1 l2 : List Nat} {B1 B2 : Nat} (h1 : own64 w B1 v1 l1) (h2 : own64 w B2 v2 l2) (hb : l1.length ≤ 1099511627776) :
    Calls Tryz.prog 74 #[v1, v2] w fun e w' => Below w.heap.size w w' ∧ ((l1 = l2 ∧ e = .returned (.bool true)) ∨ (l1 ≠ l2 ∧ e = .returned (.bool false))) := by
  obtain ⟨a, c, rfl, r1⟩ := own64.form h1
  obtain ⟨b, d, rfl, r2⟩ := own64.form h2
  refine (words8_any a b _ _ c d l1 l2 w rfl rfl hb r1 r2).mono ?_
  rintro e w' ⟨rfl, n, rfl⟩
  refine ⟨⟨rfl, rfl, rfl, Nat.le_refl _, fun _ _ => rfl⟩, ?_⟩
  by_cases h : l1 = l2
  · exact .inl ⟨h, by rw [decide_eq_true h]⟩
  · exact .inr ⟨h, by rw [decide_eq_false h]⟩
theorem short8_any (aN : Option Addr) (lN cN : Nat) (aE : Option Addr) (lE cE : Nat) (w : World) :
    Calls Tryz.prog 65 #[.agg #[.slice aN lN cN, .slice aE lE cE]] w fun e w' => Below w.heap.size w w' ∧ ∃ b : Bool, e = .returned (.bool b) ∧ (b = true → lN ≤ 150 ∧ lE ≤ 150) := by
  have HB := Lib.hid ((Below.refl w.heap.size w).alloc (Nat.le_refl _) (KB (.slice aN lN cN) (.slice aE lE cE)))
  by_cases h1 : lN ≤ 150
  · by_cases h2 : lE ≤ 150
    · have q1 : decide ((lN : Int) ≤ 150) = true := decide_eq_true (by omega)
      have q2 : decide ((lE : Int) ≤ 150) = true := decide_eq_true (by omega)
      have HH := Lib.hid (And.intro h1 h2)
      clear h1 h2
      have q3 : decide ((lE : Int) ≤ 4) = true ∨ decide ((lE : Int) ≤ 4) = false := by cases decide ((lE : Int) ≤ 4) <;> simp
      have q4 : decide ((lN : Int) ≤ 8) = true ∨ decide ((lN : Int) ≤ 8) = false := by cases decide ((lN : Int) ≤ 8) <;> simp
      rcases q3 with q3 | q3 <;> rcases q4 with q4 | q4
      all_goals
        go_enter Tryz.func65, Tryz.ntmps65
        go_wp2
        go_ret
        exact ⟨HB.out, _, rfl, fun _ => HH.out⟩
    · have q1 : decide ((lN : Int) ≤ 150) = true := decide_eq_true (by omega)
      have q2 : decide ((lE : Int) ≤ 150) = false := decide_eq_false (by omega)
      clear h1 h2
      go_enter Tryz.func65, Tryz.ntmps65
      go_wp2
      go_ret
      exact ⟨HB.out, _, rfl, fun h => by cases h⟩
  · have q1 : decide ((lN : Int) ≤ 150) = false := decide_eq_false (by omega)
    clear h1
    go_enter Tryz.func65, Tryz.ntmps65
    go_wp2
    go_ret
    exact ⟨HB.out, _, rfl, fun h => by cases h⟩

/-! RsaEquation. -/
theorem VerTells.bad {N E : Nat} {m s : List Nat} {v : Int} (h : VerTells N E m s v) (hk : ¬ KeyOk N E) : v = 80 := by
  obtain ⟨k, b, h1, rfl⟩ := h
  rcases h1 with ⟨_, rfl, _⟩ | ⟨h, _⟩ | ⟨h, _⟩
  · rfl
  · exact absurd h hk
  · exact absurd h hk
theorem num_iff {a b : List Nat} {n m : Nat} (ha : Num a n) (hb : Num b m) : a = b ↔ n = m := by
  constructor
  · intro h; rw [← ha.vl, ← hb.vl, h]
  · intro h; subst h; exact ha.unique hb
theorem p_sum {w : World} {v : Value} {l : List Nat} (hF : Five w) (h : Raw8 w v l) (hb : l.length ≤ 4096) :
    Calls Tryz.prog 73 #[v] w fun e w' => e = .returned (.agg (u8s (shaN l)).toArray) ∧ Below w.heap.size w w' := by
  obtain ⟨a, c, rfl, h1, _, h3, h4⟩ := h
  rw [← shaC_u8s]
  exact ssum_any a _ c l w rfl (by omega) h1 h4 h3 hF
theorem p_from {w : World} {v : Value} {l : List Nat} (h : Raw8 w v l) (hb : l.length ≤ 1099511627776) : Calls Tryz.prog 70 #[v] w (FromPost l w) := by
  obtain ⟨a, c, rfl, h1, _, h3, h4⟩ := h
  exact from_any a _ c l w rfl hb h1 h4 h3
theorem p_pow {w : World} {vN vX vE : Value} {N X E : Nat} (hT : Trig w) (gN : Raw w vN N) (gX : Raw w vX X) (gE : Raw w vE E) (hk : KeyOk N E) (hX : X < N) :
    Calls Tryz.prog 72 #[vX, vE, vN] w fun e w' => Below w.heap.size w w' ∧ ∃ v zs, e = .returned (.tuple #[v, .int .i64 0]) ∧ own64 w' w.heap.size v zs ∧ Num zs (X ^ E % N) := by
  refine (g_pow hT gN gX gE).mono ?_
  rintro e w' ⟨hb, a, c, k, zs, rfl, ho, hT⟩
  have hlim := hk.lim
  rcases hT with ⟨h, _⟩ | ⟨_, h, _⟩ | ⟨_, _, rfl, h'⟩
  · exact absurd ⟨⟨lim_128 hlim hX, lim_128 hlim hk.2.2.2.2.2⟩, hlim⟩ h
  · have := hk.pos; omega
  · exact ⟨hb, _, zs, rfl, ho, h'⟩
theorem own64_below {w w' : World} {B : Nat} {v : Value} {l : List Nat} (h : own64 w B v l) (hb : Below w.heap.size w w') : own64 w' B v l := own64.keep h hb
set_option exponentiation.threshold 100000 in
set_option maxHeartbeats 1600000 in
set_option maxRecDepth 100000 in
theorem rsaEquation_any {w : World} {aN : Option Addr} {lN cN : Nat} {Ns : List Nat} {aE : Option Addr} {lE cE : Nat} {Es : List Nat} {vm vs : Value} {m s : List Nat} (hT : Trig w) (hF : Five w)
    (hlN : Ns.length = lN) (hbN : lN ≤ 9223372036854775807) (hcN : lN ≤ cN) (hnN : aN = none → cN = 0) (hrN : Rd .u64 w aN Ns) (bxN : Bd Ns)
    (hlE : Es.length = lE) (hbE : lE ≤ 9223372036854775807) (hcE : lE ≤ cE) (hnE : aE = none → cE = 0) (hrE : Rd .u64 w aE Es) (bxE : Bd Es) (gm : Raw8 w vm m) (gs : Raw8 w vs s) (hbm : m.length ≤ 9223372036854775807) (hbs : s.length ≤ 9223372036854775807) :
    Calls Tryz.prog 33 #[.agg #[.slice aN lN cN, .slice aE lE cE], vm, vs] w fun e w' => e = .returned (.bool true) ∧ Below w.heap.size w w' := by
  have HTF := Lib.hid (fun (W : World) (h : Below w.heap.size w W) => And.intro (hT.below h) (hF.below h))
  have HM := Lib.hid (fun (W : World) (h : Below w.heap.size w W) => And.intro (gm.below h) (gs.below h))
  have HRN : Hid (lN ≤ 150 → Raw w (.slice aN lN cN) (val Ns)) := fun h => ⟨aN, cN, Ns, by rw [hlN], by omega, hnN, hrN, bxN, rfl, by omega⟩
  have HRE : Hid (lE ≤ 150 → Raw w (.slice aE lE cE) (val Es)) := fun h => ⟨aE, cE, Es, by rw [hlE], by omega, hnE, hrE, bxE, rfl, by omega⟩
  obtain ⟨aM, cM, rfl, -⟩ := gm
  obtain ⟨aS, cS, rfl, -⟩ := gs
  obtain ⟨lm, hlm⟩ : ∃ lm, lm = m.length := ⟨_, rfl⟩
  obtain ⟨ls, hls⟩ : ∃ ls, ls = s.length := ⟨_, rfl⟩
  rw [← hlm, ← hls] at HM
  rw [← hlm, ← hls]
  rw [← hlm] at hbm
  rw [← hls] at hbs
  have HLM := Lib.hid hlm
  have HLS := Lib.hid hls
  obtain ⟨W0, hW0⟩ : ∃ W0, W0 = w.alloc (KB (.slice aN lN cN) (.slice aE lE cE)) := ⟨_, rfl⟩
  have hB : Below w.heap.size w W0 := by rw [hW0]; exact (Below.refl _ _).alloc (Nat.le_refl _) _
  have hc0 : W0.cell? ⟨w.heap.size, 0, none⟩ = some (.slice aN lN cN) := by rw [hW0]; exact World.cell?_alloc_at _ _ _ _ rfl
  have hc1 : W0.cell? ⟨w.heap.size, 1, none⟩ = some (.slice aE lE cE) := by rw [hW0]; exact World.cell?_alloc_at _ _ _ _ rfl
  have HC := Lib.hid (And.intro hc0 hc1)
  have HB := Lib.hid hB
  have HW := Lib.hid hW0
  clear hB hT hF hlN hcN hnN hrN bxN hlE hcE hnE hrE bxE hlm hls hW0
  go_enter Tryz.func33, Tryz.ntmps33
  go_wp2_with fail
  rw [← HW.out]
  clear HW
  refine (short8_any aN lN cN aE lE cE _).mono ?_
  rintro e w1 ⟨hb, bb, rfl, hsh⟩
  have HC := Lib.hid (And.intro (below_cell hb _ _ HC.out.1) (below_cell hb _ _ HC.out.2))
  have HB := Lib.hid (HB.out.trans (hb.mono HB.out.size))
  clear hb hc0 hc1
  cases bb with
  | false =>
    clear hsh
    go_wp2
    go_ret
    exact ⟨rfl, HB.out⟩
  | true =>
    obtain ⟨h150N, h150E⟩ := hsh rfl
    clear hsh
    by_cases hm4 : lm ≤ 4096
    · by_cases hs4 : ls ≤ 4096
      · have q1 : decide ((4096 : Int) < (lm : Int)) = false := decide_eq_false (by omega)
        have q2 : decide ((4096 : Int) < (ls : Int)) = false := decide_eq_false (by omega)
        have hbase : Below w.heap.size w w1 := HB.out
        have hk : KeyAt w1 w.heap.size (.slice aN lN cN) (.slice aE lE cE) (val Ns) (val Es) := ⟨HC.out.1, HC.out.2, (HRN.out h150N).below hbase, (HRE.out h150E).below hbase⟩
        have HK := Lib.hid hk
        have HB4 := Lib.hid (And.intro (show m.length ≤ 4096 by rw [← HLM.out]; exact hm4) (show s.length ≤ 4096 by rw [← HLS.out]; exact hs4))
        generalize val Ns = N at *
        generalize val Es = E at *
        have hc0 := HK.out.c0
        have hc1 := HK.out.c1
        clear hk hbase h150N h150E hm4 hs4 HC HRN HRE
        go_wp2_with fail
        refine (p_verify (HTF.out _ HB.out).1 (HTF.out _ HB.out).2 HK.out.rN HK.out.rE (HM.out _ HB.out).1 (HM.out _ HB.out).2 (Nat.le_trans HB4.out.1 (by decide)) (Nat.le_trans HB4.out.2 (by decide))).mono ?_
        rintro e w2 ⟨hb, v, rfl, hV⟩
        have HV := Lib.hid hV
        have HK := Lib.hid (HK.out.below hb)
        have HB := Lib.hid (HB.out.trans (hb.mono HB.out.size))
        clear hb hV hc0 hc1
        have hc0 := HK.out.c0
        have hc1 := HK.out.c1
        go_wp2_with fail
        refine (p_check HK.out.rN HK.out.rE).mono ?_
        rintro e w3 ⟨hb, hor⟩
        have HK := Lib.hid (HK.out.below hb)
        have HB := Lib.hid (HB.out.trans (hb.mono HB.out.size))
        clear hb hc0 hc1
        have hc0 := HK.out.c0
        have hc1 := HK.out.c1
        rcases hor with ⟨hko, rfl⟩ | ⟨hko, rfl⟩
        · have HKO := Lib.hid hko
          clear hko
          have hsz := HKO.out.size
          have HSZ := Lib.hid hsz
          have HLB : Hid (ls = szN N → bval s < 18446744073709551616 ^ 128) := fun h => by
            obtain ⟨_, _, _, _, _, _, h8⟩ := (HM.out _ HB.out).2
            refine Nat.lt_of_lt_of_le (bval_lt h8) ?_
            rw [show (18446744073709551616 : Nat) = 256 ^ 8 by decide, ← Nat.pow_mul]
            exact Nat.pow_le_pow_right (by decide) (by have := HLS.out; have := HSZ.out; omega)
          clear hsz
          go_wp2_with fail
          refine (p_from (HM.out _ HB.out).2 (by have := HB4.out; have := HLS.out; omega)).mono ?_
          rintro e w4 ⟨hb, hor⟩
          have HK := Lib.hid (HK.out.below hb)
          have HB0 := Lib.hid HB.out.size
          have HB := Lib.hid (HB.out.trans (hb.mono HB.out.size))
          clear hc0 hc1
          have hc0 := HK.out.c0
          have hc1 := HK.out.c1
          rcases hor with ⟨hbig, rfl⟩ | ⟨hsm, vx, zx, rfl, hox, hnx⟩
          · have HNE : Hid (ls ≠ szN N) := fun h => by have := HLB.out h; omega
            clear hbig hb
            go_wp2_with fail
            refine (p_size HK.out.rN ⟨_, _, _, rfl⟩).mono ?_
            rintro e w5 ⟨hb, rfl⟩
            have HB := Lib.hid (HB.out.trans (hb.mono HB.out.size))
            obtain ⟨z, hz⟩ : ∃ z, z = szN N := ⟨_, rfl⟩
            rw [← hz]
            have hnz : ((ls : Int) != (z : Int)) = true := by have := HNE.out; rw [← hz] at this; simpa using fun h => this (by omega)
            clear hz hb hc0 hc1
            obtain rfl := HV.out.off HKO.out (fun h => HNE.out (by rw [HLS.out]; exact h.1))
            go_wp2_with fail
            refine (works8_any _ (HTF.out _ HB.out).1 (HTF.out _ HB.out).2).mono ?_
            rintro e w9 ⟨rfl, hb⟩
            have HB := Lib.hid (HB.out.trans (hb.mono HB.out.size))
            clear hb
            go_wp2
            go_ret
            exact ⟨rfl, HB.out⟩
          · have HX : Hid (Raw w4 vx (bval s)) := raw_of_own hox hnx (Nat.lt_of_lt_of_le hsm (Nat.pow_le_pow_right (by decide) (by decide)))
            obtain ⟨aX, lX, cX, rfl⟩ := HX.out.sl
            clear hsm hox hnx hb
            go_wp2_with fail
            refine (p_size HK.out.rN ⟨_, _, _, rfl⟩).mono ?_
            rintro e w5 ⟨hb, rfl⟩
            have HK := Lib.hid (HK.out.below hb)
            have HX := Lib.hid (HX.out.below hb)
            have HB := Lib.hid (HB.out.trans (hb.mono HB.out.size))
            clear hb hc0 hc1
            have hc0 := HK.out.c0
            have hc1 := HK.out.c1
            obtain ⟨z, hz⟩ : ∃ z, z = szN N := ⟨_, rfl⟩
            rw [← hz]
            have HZ := Lib.hid hz
            clear hz
            by_cases hnz : ls = z
            · have HE := Lib.hid hnz
              have q3 : ((ls : Int) != (z : Int)) = false := by subst hnz; simp
              clear hnz
              go_wp2_with fail
              refine (r_cmp HX.out HK.out.rN).mono ?_
              rintro e w6 ⟨hb, hor⟩
              have HK := Lib.hid (HK.out.below hb)
              have HX := Lib.hid (HX.out.below hb)
              have HB := Lib.hid (HB.out.trans (hb.mono HB.out.size))
              have key : (bval s < N ∧ e = .returned (.int .i64 (-1))) ∨ (N ≤ bval s ∧ ∃ k : Int, (k = 0 ∨ k = 1) ∧ e = .returned (.int .i64 k)) := by
                rcases hor with ⟨h, rfl⟩ | ⟨h, rfl⟩ | ⟨h, rfl⟩
                · exact .inl ⟨h, rfl⟩
                · exact .inr ⟨by omega, 0, .inl rfl, rfl⟩
                · exact .inr ⟨by omega, 1, .inr rfl, rfl⟩
              clear hor hb hc0 hc1
              have hc0 := HK.out.c0
              have hc1 := HK.out.c1
              rcases key with ⟨h3, rfl⟩ | ⟨h3, k2, hk, rfl⟩
              · have HSO : Hid (SigOk N s) := ⟨by rw [← HLS.out, HE.out, HZ.out], h3⟩
                clear h3
                go_wp2_with fail
                refine (p_pow (HTF.out _ HB.out).1 HK.out.rN HX.out HK.out.rE HKO.out HSO.out.2).mono ?_
                rintro e w7 ⟨hb, vp, zp, rfl, hop, hnp⟩
                obtain ⟨aP, cP, rfl, -⟩ := own64.form hop
                have HP := Lib.hid hop
                have HNP := Lib.hid hnp
                have HLP := Lib.hid (show zp.length ≤ 64 from (hnp.len_le (k := 64)).2 (Nat.lt_trans (Nat.mod_lt _ HKO.out.pos) HKO.out.lim))
                have HK := Lib.hid (HK.out.below hb)
                have HB := Lib.hid (HB.out.trans (hb.mono HB.out.size))
                obtain ⟨lp, hlp⟩ : ∃ lp, lp = zp.length := ⟨_, rfl⟩
                rw [← hlp] at HP HLP ⊢
                have HLQ := Lib.hid hlp
                clear hb hc0 hc1 hop hnp hlp
                go_upto_region 10 with fail
                have HK := Lib.hid (HK.out.below (Below.refl _ _).drew)
                have HB := Lib.hid HB.out.drew
                have HP := Lib.hid (own64_below HP.out (Below.refl _ _).drew)
                have HSU := Lib.hid (fun (W : World) (hW : Below w.heap.size w W) => p_sum (hF := (HTF.out _ hW).2) (HM.out _ hW).1 HB4.out.1)
                go_region_held3 (fun W => W.cell? ⟨w.heap.size, 0, none⟩ = some (.slice aN lN cN) ∧ W.cell? ⟨w.heap.size, 1, none⟩ = some (.slice aE lE cE))
                  (first | exact ⟨HK.out.c0, HK.out.c1⟩)
                  (first
                    | (go_at_call 73; (with_reducible refine (HSU.out _ HB.out).mono ?_)
                       rintro e w8 ⟨rfl, hb⟩
                       have HK := Lib.hid (HK.out.below hb)
                       have HP := Lib.hid (own64_below HP.out hb)
                       have HB := Lib.hid (HB.out.trans (hb.mono HB.out.size))
                       clear hb)
                    | (go_at_call 59; (with_reducible refine (p_size HK.out.rN ⟨_, _, _, rfl⟩).mono ?_)
                       rintro e w9 ⟨hb, rfl⟩
                       have HK := Lib.hid (HK.out.below hb)
                       have HP := Lib.hid (own64_below HP.out hb)
                       have HB := Lib.hid (HB.out.trans (hb.mono HB.out.size))
                       clear hb)
                    | (go_at_call 56; (with_reducible refine (p_encoded (shaN m) (szN N : Nat) _ (shaN_len m) (shaN_8 m) (by omega) (by have := HSZ.out; omega)).mono ?_)
                       rintro e w10 ⟨hb, v4, k4, b4, rfl, hE, ho4⟩
                       have HK := Lib.hid (HK.out.below hb)
                       have HP := Lib.hid (own64_below HP.out hb)
                       have HB := Lib.hid (HB.out.trans (hb.mono HB.out.size))
                       clear hb))
                obtain ⟨rfl, rfl⟩ : k4 = 0 ∧ b4 = encL (shaN m) (szN N) := by
                  rcases hE with ⟨h, _⟩ | ⟨_, _, h1, h2⟩
                  · have := HSZ.out; omega
                  · exact ⟨h1, by rw [h2, Int.toNat_natCast]⟩
                have HR4 := Lib.hid (own8_raw ho4 (encL_8 (shaN_8 m)))
                have HL4 : Hid ((encL (shaN m) (szN N)).length = szN N) := encL_len (shaN_len m) (by have := HSZ.out; omega)
                obtain ⟨a4, c4, rfl, -⟩ := own8_form ho4
                obtain ⟨l4, hl4⟩ : ∃ l4, l4 = (encL (shaN m) (szN N)).length := ⟨_, rfl⟩
                rw [← hl4] at HR4 HL4 ⊢
                have HLL := Lib.hid hl4
                clear ho4 hE hl4
                go_wp2_with fail
                refine (p_from HR4.out (by rw [← HLL.out, HL4.out]; have := HSZ.out; omega)).mono ?_
                rintro e w11 ⟨hb, hor⟩
                have HP := Lib.hid (own64_below HP.out hb)
                have HB := Lib.hid (HB.out.trans (hb.mono HB.out.size))
                have hyb : bval (encL (shaN m) (szN N)) < 18446744073709551616 ^ 128 := by
                  refine Nat.lt_of_lt_of_le (bval_lt (encL_8 (shaN_8 m))) ?_
                  rw [show (18446744073709551616 : Nat) = 256 ^ 8 by decide, ← Nat.pow_mul]
                  exact Nat.pow_le_pow_right (by decide) (by rw [← HLL.out, HL4.out]; have := HSZ.out; omega)
                rcases hor with ⟨h, _⟩ | ⟨_, vy, zy, rfl, hoy, hny⟩
                · omega
                · obtain ⟨aY, cY, rfl, -⟩ := own64.form hoy
                  have HY := Lib.hid hoy
                  have HIFF := Lib.hid (num_iff HNP.out hny)
                  obtain ⟨ly, hly⟩ : ∃ ly, ly = zy.length := ⟨_, rfl⟩
                  rw [← hly] at HY ⊢
                  have heqn := HV.out.eqn HKO.out HSO.out
                  clear hb hoy hny hyb hly
                  have key : (v = 0 ∧ zp = zy) ∨ (v = 82 ∧ zp ≠ zy) := by
                    rcases heqn with ⟨h1, h2⟩ | ⟨h1, h2⟩
                    · exact .inl ⟨h1, HIFF.out.2 h2⟩
                    · exact .inr ⟨h1, fun h => h2 (HIFF.out.1 h)⟩
                  clear heqn
                  have HLZ := Lib.hid (show zp.length ≤ 1099511627776 by rw [← HLQ.out]; exact Nat.le_trans HLP.out (by decide))
                  rcases key with ⟨rfl, hzz⟩ | ⟨rfl, hzz⟩
                  · have HZZ := Lib.hid hzz
                    clear hzz
                    go_wp2_with fail
                    refine (p_samew HP.out HY.out HLZ.out).mono ?_
                    rintro e w12 ⟨hb, hor⟩
                    obtain rfl : e = .returned (.bool true) := by
                      rcases hor with ⟨_, h⟩ | ⟨h, _⟩
                      · exact h
                      · exact absurd HZZ.out h
                    have HB := Lib.hid (HB.out.trans (hb.mono HB.out.size))
                    clear hb hor
                    go_wp2_with fail
                    refine (works8_any _ (HTF.out _ HB.out).1 (HTF.out _ HB.out).2).mono ?_
                    rintro e w13 ⟨rfl, hb⟩
                    have HB := Lib.hid (HB.out.trans (hb.mono HB.out.size))
                    clear hb
                    go_wp2
                    go_ret
                    exact ⟨rfl, HB.out⟩
                  · have HZZ := Lib.hid hzz
                    clear hzz
                    go_wp2_with fail
                    refine (p_samew HP.out HY.out HLZ.out).mono ?_
                    rintro e w12 ⟨hb, hor⟩
                    obtain rfl : e = .returned (.bool false) := by
                      rcases hor with ⟨h, _⟩ | ⟨_, h⟩
                      · exact absurd h HZZ.out
                      · exact h
                    have HB := Lib.hid (HB.out.trans (hb.mono HB.out.size))
                    clear hb hor
                    go_wp2_with fail
                    refine (works8_any _ (HTF.out _ HB.out).1 (HTF.out _ HB.out).2).mono ?_
                    rintro e w13 ⟨rfl, hb⟩
                    have HB := Lib.hid (HB.out.trans (hb.mono HB.out.size))
                    clear hb
                    go_wp2
                    go_ret
                    exact ⟨rfl, HB.out⟩
              · have HSO : Hid (¬ SigOk N s) := fun h => by have := h.2; omega
                have p2 : decide ((0 : Int) ≤ k2) = true := decide_eq_true (by omega)
                have p3 : (0 : Int) ≤ k2 := by omega
                clear h3 hk hc0 hc1
                obtain rfl := HV.out.off HKO.out HSO.out
                go_wp2_with fail
                refine (works8_any _ (HTF.out _ HB.out).1 (HTF.out _ HB.out).2).mono ?_
                rintro e w9 ⟨rfl, hb⟩
                have HB := Lib.hid (HB.out.trans (hb.mono HB.out.size))
                clear hb
                go_wp2
                go_ret
                exact ⟨rfl, HB.out⟩
            · have HSO : Hid (¬ SigOk N s) := fun h => hnz (by rw [HLS.out, HZ.out]; exact h.1)
              have q3 : ((ls : Int) != (z : Int)) = true := by simpa using fun h => hnz (by omega)
              clear hnz hc0 hc1
              obtain rfl := HV.out.off HKO.out HSO.out
              go_wp2_with fail
              refine (works8_any _ (HTF.out _ HB.out).1 (HTF.out _ HB.out).2).mono ?_
              rintro e w9 ⟨rfl, hb⟩
              have HB := Lib.hid (HB.out.trans (hb.mono HB.out.size))
              clear hb
              go_wp2
              go_ret
              exact ⟨rfl, HB.out⟩
        · obtain rfl := HV.out.bad hko
          clear hko hc0 hc1
          go_wp2_with fail
          refine (works8_any _ (HTF.out _ HB.out).1 (HTF.out _ HB.out).2).mono ?_
          rintro e w4 ⟨rfl, hb⟩
          have HB := Lib.hid (HB.out.trans (hb.mono HB.out.size))
          clear hb
          go_wp2
          go_ret
          exact ⟨rfl, HB.out⟩
      · have q1 : decide ((4096 : Int) < (lm : Int)) = false := decide_eq_false (by omega)
        have q2 : decide ((4096 : Int) < (ls : Int)) = true := decide_eq_true (by omega)
        clear hm4 hs4
        go_wp2
        go_ret
        exact ⟨rfl, HB.out⟩
    · have q1 : decide ((4096 : Int) < (lm : Int)) = true := decide_eq_true (by omega)
      clear hm4
      go_wp2
      go_ret
      exact ⟨rfl, HB.out⟩
end Go.Proofs.YtaookoejdnkkoaaGreatDoor
