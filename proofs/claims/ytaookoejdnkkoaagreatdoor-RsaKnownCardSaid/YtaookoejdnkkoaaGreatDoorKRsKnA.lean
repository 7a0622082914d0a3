import Derived.Test.YtaookoejdnkkoaaGreatDoorKRsTU
namespace Go.Proofs.YtaookoejdnkkoaaGreatDoor
open Go.RowKit

/-! RsaKnown: what its parts share. -/
def i64s (l : List Int) : List Value := l.map (Value.int .i64)
theorem i64s_at (l : List Int) (i : Nat) (h : i < l.length) : (i64s l)[i]? = some (.int .i64 l[i]) := by simp [i64s, h]
theorem u64s_at2 (l : List Nat) (i : Nat) (h : i < l.length) : (u64s l)[i]? = some (.int .u64 (l[i] : Nat)) := by simp [u64s, h]
theorem all_in {l : List Int} {a b : Int} (h : l.all (fun x => decide (a ≤ x) && decide (x ≤ b)) = true) (i : Nat) (hi : i < l.length) : a ≤ l[i] ∧ l[i] ≤ b := by
  have := List.all_eq_true.1 h l[i] (List.getElem_mem hi)
  simpa using this
/-- A list that a law may be asked of. -/
def Lst (w : World) (v : Value) : Prop := ∃ a l c xs, v = .slice a l c ∧ xs.length = l ∧ l ≤ c ∧ (a = none → c = 0) ∧ l ≤ 1048576 ∧ Rd .u64 w a xs ∧ Bd xs
theorem Lst.below {w w' : World} {v : Value} (h : Lst w v) (hb : Below w.heap.size w w') : Lst w' v := by
  obtain ⟨a, l, c, xs, h1, h2, h3, h4, h5, h6, h7⟩ := h
  exact ⟨a, l, c, xs, h1, h2, h3, h4, h5, h6.below hb, h7⟩
theorem lst_nil (w : World) : Lst w (.slice none 0 0) := ⟨none, 0, 0, [], rfl, rfl, Nat.le_refl _, fun _ => rfl, by decide, Rd.nil _ _ _, Bd.nil⟩
theorem lst_own {w : World} {B l c : Nat} {a : Option Addr} {zs : List Nat} (ho : own64 w B (.slice a l c) zs) (hb : Bd zs) (hl : l ≤ 1048576) : Lst w (.slice a l c) :=
  ⟨a, l, c, zs, rfl, (own64.rd ho).1.symm, (own64.room ho).1, (own64.room ho).2, hl, (own64.rd ho).2, hb⟩
theorem lst_1 (w : World) (X : Int) (x g : Nat) (hX : X = (x : Nat)) (hx : x < 18446744073709551616) (hg : w.heap.size = g) : Lst (w.alloc (.cells #[.int .u64 X] 47)) (.slice (some ⟨g, 0, none⟩) 1 1) := by
  subst hX hg
  have hown : own64 (w.alloc (.cells #[.int .u64 (x : Nat)] 47)) w.heap.size (.slice (some ⟨w.heap.size, 0, none⟩) 1 1) [x] :=
    own64_of_blk (zs := [x]) (c := 1) (heap_new w _) (Nat.le_refl _) (by simp) (by decide) rfl ⟨by simp, fun i hi => by
      obtain rfl : i = 0 := by simp at hi; omega
      rfl⟩
  exact lst_own hown (Bd.nil.cons hx) (by decide)
theorem lst_2 (w : World) (X Y : Int) (x y g : Nat) (hX : X = (x : Nat)) (hY : Y = (y : Nat)) (hx : x < 18446744073709551616) (hy : y < 18446744073709551616) (hg : w.heap.size = g) : Lst (w.alloc (.cells #[.int .u64 X, .int .u64 Y] 47)) (.slice (some ⟨g, 0, none⟩) 2 2) := by
  subst hX hY hg
  have hown : own64 (w.alloc (.cells #[.int .u64 (x : Nat), .int .u64 (y : Nat)] 47)) w.heap.size (.slice (some ⟨w.heap.size, 0, none⟩) 2 2) [x, y] :=
    own64_of_blk (zs := [x, y]) (c := 2) (heap_new w _) (Nat.le_refl _) (by simp) (by decide) rfl ⟨by simp, fun i hi => by
      rcases Nat.lt_or_ge i 1 with h1 | h1
      · obtain rfl : i = 0 := by omega
        rfl
      · obtain rfl : i = 1 := by simp at hi; omega
        rfl⟩
  exact lst_own hown ((Bd.nil.cons hy).cons hx) (by decide)
/-- A digest of two bytes and noughts. -/
def dgB (a b : Nat) : List Nat := [a, b, 0, 0, 0, 0, 0, 0, 0, 0, 0, 0, 0, 0, 0, 0, 0, 0, 0, 0]
theorem dgB_len (a b : Nat) : (dgB a b).length = 20 := rfl
theorem dgB_b8 {a b : Nat} (ha : a < 256) (hb : b < 256) : B8 (dgB a b) := by
  intro x hx
  simp [dgB] at hx
  omega
theorem k_checks {w : World} {v1 v2 ds : Value} (a b : Nat) (z : Int) (hT : Trig w ∧ Five w) (h1 : Lst w v1) (h2 : Lst w v2) (hds : ds = .agg (u8s (dgB a b)).toArray) (ha : a < 256) (hb : b < 256) (hz1 : -9223372036854775808 ≤ z) (hz2 : z ≤ 9223372036854775807) :
    Calls Tryz.prog 27 #[.agg #[v1, v2], ds, .int .i64 z] w fun e w' => e = .returned (.bool true) ∧ Below w.heap.size w w' := by
  obtain ⟨a1, l1, c1, xs1, rfl, p1, p2, p3, p4, p5, p6⟩ := h1
  obtain ⟨a2, l2, c2, xs2, rfl, q1, q2, q3, q4, q5, q6⟩ := h2
  subst hds
  exact rsaChecks_any (dgB a b) z w hT.1 hT.2 p1 (by omega) p2 p3 p5 p6 q1 (by omega) q2 q3 q5 q6 (dgB_len a b) (dgB_b8 ha hb) hz1 hz2
theorem k_forms {w : World} {d1 d2 : Value} (a b a' b' : Nat) (z : Int) (hT : Trig w ∧ Five w) (hd1 : d1 = .agg (u8s (dgB a b)).toArray) (hd2 : d2 = .agg (u8s (dgB a' b')).toArray) (ha : a < 256) (hb : b < 256) (ha' : a' < 256) (hb' : b' < 256) (hz1 : -9223372036854775808 ≤ z) (hz2 : z ≤ 9223372036854775807) :
    Calls Tryz.prog 31 #[d1, d2, .int .i64 z] w fun e w' => e = .returned (.bool true) ∧ Below w.heap.size w w' := by
  subst hd1 hd2
  exact rsaForms_any _ _ z w hT.1 hT.2 (dgB_len a b) (dgB_b8 ha hb) (dgB_len a' b') (dgB_b8 ha' hb') hz1 hz2
theorem k_raises {w : World} {v1 v2 vm vs : Value} {m s : List Nat} (hT : Trig w ∧ Five w) (h1 : Lst w v1) (h2 : Lst w v2) (gm : Raw8 w vm m) (gs : Raw8 w vs s) (hm : m.length ≤ 4096) (hs : s.length ≤ 4096) :
    Calls Tryz.prog 32 #[.agg #[v1, v2], vm, vs] w fun e w' => e = .returned (.bool true) ∧ Below w.heap.size w w' := by
  obtain ⟨a1, l1, c1, xs1, rfl, p1, p2, p3, p4, p5, p6⟩ := h1
  obtain ⟨a2, l2, c2, xs2, rfl, q1, q2, q3, q4, q5, q6⟩ := h2
  exact rsaRaises_any hT.1 hT.2 p1 (by omega) p2 p3 p5 p6 q1 (by omega) q2 q3 q5 q6 gm gs (by omega) (by omega)
theorem k_equation {w : World} {v1 v2 vm vs : Value} {m s : List Nat} (hT : Trig w ∧ Five w) (h1 : Lst w v1) (h2 : Lst w v2) (gm : Raw8 w vm m) (gs : Raw8 w vs s) (hm : m.length ≤ 4096) (hs : s.length ≤ 4096) :
    Calls Tryz.prog 33 #[.agg #[v1, v2], vm, vs] w fun e w' => e = .returned (.bool true) ∧ Below w.heap.size w w' := by
  obtain ⟨a1, l1, c1, xs1, rfl, p1, p2, p3, p4, p5, p6⟩ := h1
  obtain ⟨a2, l2, c2, xs2, rfl, q1, q2, q3, q4, q5, q6⟩ := h2
  exact rsaEquation_any hT.1 hT.2 p1 (by omega) p2 p3 p5 p6 q1 (by omega) q2 q3 q5 q6 gm gs (by omega) (by omega)
set_option maxHeartbeats 1000000 in
set_option maxRecDepth 100000 in
theorem one8_any (N : Int) (n : Nat) (w : World) (hN : N = (n : Nat)) (hn : n ≤ 9000) :
    Calls Tryz.prog 28 #[.int .i64 N] w fun e w' => ∃ g l zs, e = .returned (.slice (some ⟨g, 0, none⟩) l l) ∧ l = n / 64 + 1 ∧ w.heap.size ≤ g ∧ own64 w' g (.slice (some ⟨g, 0, none⟩) l l) zs ∧ zs.length = l ∧ Bd zs ∧ Below w.heap.size w w' := by
  subst hN
  obtain ⟨q, hq⟩ : ∃ q, q = n / 64 := ⟨_, rfl⟩
  obtain ⟨r, hr⟩ : ∃ r, r = n % 64 := ⟨_, rfl⟩
  obtain ⟨m, hm⟩ : ∃ m, m = q + 1 := ⟨_, rfl⟩
  have rq : (n : Int).tdiv 64 = (q : Int) := by rw [Int.tdiv_eq_ediv_of_nonneg (by omega)]; omega
  have rr : (n : Int).tmod 64 = (r : Int) := by rw [Int.tmod_eq_emod_of_nonneg (by omega)]; omega
  have rm : (q : Int) + 1 = (m : Int) := by omega
  have hr64 : r < 64 := by omega
  have hqm : q < m := by omega
  have hmb : m ≤ 1048576 := by omega
  have hm0 : 0 < m := by omega
  have hpow : 2 ^ r < 18446744073709551616 := by
    have h : 2 ^ r ≤ 2 ^ 63 := Nat.pow_le_pow_right (by decide) (by omega)
    omega
  obtain ⟨p, hp⟩ : ∃ p, p = 2 ^ r := ⟨_, rfl⟩
  have rp : IntKind.u64.wrap (2 ^ r : Int) = (p : Int) := by
    rw [IntKind.wrap_u64, show (2 : Int) ^ r = ((2 ^ r : Nat) : Int) by simp, ← hp]; omega
  have HPW : Hid (p < 18446744073709551616) := by show _ < _; rw [hp]; exact hpow
  have HLM : Hid (m = n / 64 + 1) := by show _ = _; rw [hm, hq]
  clear hq hr hm hp hpow
  go_enter Tryz.func28, Tryz.ntmps28
  go_wp2_with (at_make; refine wpl_make64 rfl _ _ rfl w.heap.size _ _ _ _ m rfl rfl rfl rfl (by omega) (Nat.le_refl _) ?_)
  intro w1 hown hbl hsz
  have hc1 := hown.cell (j := q) (by simp; omega)
  have hf1 := hown.free q
  have HO := Lib.hid (hown.set q p)
  have HB := Lib.hid (hbl.setCell (p := ⟨w.heap.size, q, none⟩) (Nat.le_refl _) (.int .u64 (p : Nat)))
  have HLB : Hid (((List.replicate m 0).set q p).length = m ∧ Bd ((List.replicate m 0).set q p)) := ⟨by rw [List.length_set, List.length_replicate], Bd.set (fun x hx => by rw [List.eq_of_mem_replicate hx]; decide) HPW.out⟩
  clear hown hbl hsz
  generalize (List.replicate m 0).set q p = zs0 at *
  go_upto_region 3 with fail
  have hc0 := HO.out.cell (j := 0) (by have := HLB.out.1; omega)
  have hf0 := HO.out.free 0
  have hx := HLB.out.2.at0 0
  generalize at0 zs0 0 = x at *
  obtain ⟨y, hy⟩ : ∃ y, y = x ||| 1 := ⟨_, rfl⟩
  have hor : bits BinOp.or IntKind.u64 (x : Int) 1 = (y : Int) := by rw [hy]; exact u64_or_nat x 1 hx (by decide)
  have hy64 : y < 18446744073709551616 := by rw [hy]; exact Nat.or_lt_two_pow (n := 64) hx (by decide)
  have HO2 := Lib.hid (HO.out.set 0 y)
  have HL2 : Hid ((zs0.set 0 y).length = m ∧ Bd (zs0.set 0 y)) := ⟨by rw [List.length_set]; exact HLB.out.1, Bd.set HLB.out.2 hy64⟩
  have HB2 := Lib.hid (HB.out.setCell (p := ⟨w.heap.size, 0, none⟩) (Nat.le_refl _) (.int .u64 (y : Nat)))
  clear hc1 hf1 hx hy hy64 HO HB HLB
  go_wp2
  go_ret
  exact ⟨w.heap.size, m, _, rfl, HLM.out, Nat.le_refl _, HO2.out, HL2.out.1, HL2.out.2, HB2.out⟩

/-! RsaKnown: keys. -/
def ns14 : List Int := [0, 1, 63, 64, 366, 367, 368, 511, 512, 4094, 4095, 4096, 5000, 9000]
def es7 : List Nat := [0, 1, 2, 3, 4, 5, 65537]
theorem es7_b (i : Nat) (h : i < es7.length) : es7[i] < 65538 := by
  have : es7.all (fun x => decide (x < 65538)) = true := by decide
  simpa using List.all_eq_true.1 this es7[i] (List.getElem_mem h)
/-- One more behind a row that is full. -/
theorem wpl_appFull {w : World} {ops : Array Oper} {rest : List Oper} {o : Oper} {a : Act} {Q : Exit → Act → World → Prop} (hgd : o.guard = none) (s x : Operand)
    (ho : o.op = .call { callee := .builtin .append, args := #[s, x], argTypes := #[23, 23] })
    (B g n : Nat) (xs : List Nat) (hn : n = xs.length) (hs : a.eval s = .slice (some ⟨g, 0, none⟩) n n) (hown : own64 w B (.slice (some ⟨g, 0, none⟩) n n) xs) (b : Nat) (hx : a.eval x = .slice (some ⟨b, 0, none⟩) 1 1)
    (hc : w.cell? ⟨b, 0, none⟩ = some (.int .u64 (0 : Nat))) (hl : n ≤ 1000) (hB : B ≤ w.heap.size)
    (h : ∀ cap w', own64 w' B (.slice (some ⟨w.heap.size, 0, none⟩) (n + 1) cap) (xs ++ [0]) → Below w.heap.size w w' →
      wpList Tryz.prog ops Q rest (a.put o.dst (.slice (some ⟨w.heap.size, 0, none⟩) (n + 1) cap)) w') :
    wpList Tryz.prog ops Q (o :: rest) a w := by
  subst hn
  refine wpList_plain hgd fun K hK => ?_
  obtain ⟨g1, cap, w', hr, hown', hg, hBg, hlt, hor⟩ := run_app (P := Tryz.prog) 23 o.type 47 Tryz.underlying23 info64 rfl (by decide) B _ xs.length (u64s xs) hown b _ hc rfl (by omega) hB
  obtain ⟨i, hi, hz, hsz, hb⟩ := info_parts info64
  have hr1 := run_append_grow (P := Tryz.prog) w 23 o.type 47 i (.int .u64 0) Tryz.underlying23 hi hz ⟨g, 0, none⟩ xs.length xs.length (u64s xs) (by rw [hsz, Nat.mul_one]; exact hown.1.trans (Nat.mul_one _)) (World.ownsRow.cells hown (g := g) rfl) ⟨b, 0, none⟩ 1 1 [.int .u64 (0 : Nat)] (by simp [hsz]) (by
      intro j u hj
      rcases j with _ | j
      · simpa [Addr.add] using (by simpa using hj : Value.int .u64 ((0 : Nat) : Int) = u) ▸ hc
      · simp at hj) (by omega) (by omega) (growslice_fits (by omega) (by rw [hb]; omega))
  rw [hr1] at hr
  injection hr with e1 e2
  injection e1 with e3 e4 e5
  have e6 : w.heap.size = g1 := by simpa using e3
  subst e6 e2
  unfold Oper.wp execOp
  simp only [ho, resolve, invoke, builtin, Sem.run_bind, Sem.run_pure, Result.andThen_ok, List.map_toArray, List.map_cons, List.map_nil, hs, hx, hr1]
  rw [← e5] at hown'
  refine hK _ _ (h _ _ ?_ ?_)
  · show World.ownsRow _ _ _ _ _ _ _
    rw [List.length_append, show u64s (xs ++ [0]) = u64s xs ++ [.int .u64 (0 : Nat)] by simp [u64s]]
    exact hown'
  · exact ((Below.refl w.heap.size w).drew).alloc (Nat.le_refl _) _
set_option maxHeartbeats 8000000 in
set_option maxRecDepth 100000 in
theorem keys8_any (w : World) (hT : Trig w) (hF : Five w) : Calls Tryz.prog 7 #[] w fun e w' => e = .returned (.bool true) ∧ Below w.heap.size w w' := by
  have HT := Lib.hid (fun (W : World) (h : Below w.heap.size w W) => And.intro (hT.below h) (hF.below h))
  clear hT hF
  go_enter Tryz.func7, Tryz.ntmps7
  go_wp2
  have HC : Hid (CB (w.alloc (.cells (i64s ns14).toArray 3)) 3 w.heap.size (i64s ns14)) := CB.new w _ _
  have HB1 : Hid (Below w.heap.size w (w.alloc (.cells (i64s ns14).toArray 3))) := (Below.refl _ _).alloc (Nat.le_refl _) _
  go_loopw [13] (fun iv wr => ∃ i : Nat, i ≤ 14 ∧ iv = .int .i64 (i : Nat) ∧ Hid (CB wr 3 w.heap.size (i64s ns14)) ∧ Hid (Below w.heap.size w wr)) (fun iv _ => 14 - (intOf iv).toNat)
  case atStart => exact ⟨0, Nat.zero_le _, rfl, HC.out, HB1.out⟩
  case round =>
    clear HC HB1
    obtain ⟨i, hi, rfl, HC, HB⟩ := hrel
    by_cases hin : i < 14
    · have hq1 : decide ((i : Int) < 14) = true := decide_eq_true (by omega)
      have hcl : wr.cell? ⟨w.heap.size, i, none⟩ = some (.int .i64 ns14[i]) := by rw [HC.out.cell]; exact i64s_at _ _ hin
      have hnr := all_in (l := ns14) (a := 0) (b := 9000) (by decide) i hin
      obtain ⟨n, hn⟩ : ∃ n : Nat, ns14[i] = (n : Int) := ⟨ns14[i].toNat, by omega⟩
      rw [hn] at hcl hnr
      have hnb : n ≤ 9000 := by omega
      have HNB := Lib.hid hnb
      obtain ⟨q8, hq8⟩ : ∃ q, q = n / 8 := ⟨_, rfl⟩
      have rq8 : (n : Int).tdiv 8 = (q8 : Int) := by rw [Int.tdiv_eq_ediv_of_nonneg (by omega)]; omega
      have hw8 : IntKind.i64.wrap (q8 : Int) = (q8 : Int) := wrap_i64_nat _ (by omega)
      have HQ8 : Hid (q8 ≤ 9000) := by show _ ≤ _; omega
      clear hn hnr hq8
      have HC2 : Hid (CB (wr.alloc (.cells (u64s es7).toArray 47)) 47 wr.heap.size (u64s es7)) := CB.new wr _ _
      have hal : Below wr.heap.size wr (wr.alloc (.cells (u64s es7).toArray 47)) := (Below.refl _ _).alloc (Nat.le_refl _) _
      have HC := Lib.hid (HC.out.below hal)
      have HB := Lib.hid (HB.out.trans (hal.mono HB.out.size))
      clear hal hnb
      go_wp2
      generalize hg2 : wr.heap.size = g2 at *
      clear hg2
      go_loopw [19] (fun jv wr2 => ∃ j : Nat, j ≤ 7 ∧ jv = .int .i64 (j : Nat) ∧ Hid (CB wr2 47 g2 (u64s es7)) ∧ Hid (CB wr2 3 w.heap.size (i64s ns14)) ∧ Hid (Below w.heap.size w wr2)) (fun jv _ => 7 - (intOf jv).toNat)
      case atStart => exact ⟨0, Nat.zero_le _, rfl, HC2.out, HC.out, HB.out⟩
      case round =>
        clear HC HB HC2
        obtain ⟨j, hj, rfl, HC2, HC, HB⟩ := hrel
        obtain ⟨wr2, hwr2⟩ : ∃ W, W = wr := ⟨_, rfl⟩
        rw [← hwr2] at HC2 HC HB ⊢
        clear hwr2
        by_cases hjn : j < 7
        · have hcl2 : wr2.cell? ⟨g2, j, none⟩ = some (.int .u64 (es7[j] : Nat)) := by rw [HC2.out.cell]; exact u64s_at2 _ _ hjn
          have hxb := es7_b j hjn
          generalize es7[j] = x at hcl2 hxb
          have HX : Hid (x < 18446744073709551616) := by show _ < _; omega
          have HXI : Hid (x < 65538) := hxb
          have hwx : IntKind.i64.wrap (x : Int) = (x : Int) := wrap_i64_nat _ (by omega)
          clear hxb
          go_wp2_with fail
          refine (one8_any _ n _ rfl HNB.out).mono ?_
          rintro e w3 ⟨g3, l3, z3, rfl, hl3, -, hL, hz3, hb3, hb⟩
          have HL3 := Lib.hid (lst_own hL hb3 (by have := HNB.out; omega))
          have HC2 := Lib.hid (HC2.out.below hb)
          have HC := Lib.hid (HC.out.below hb)
          have HB := Lib.hid (HB.out.trans (hb.mono HB.out.size))
          clear hb hl3 hz3 hb3
          clear hL hcl2
          have hal : Below w3.heap.size w3 (w3.alloc (.cells #[.int .u64 (x : Nat), .int .u64 0] 47)) := (Below.refl _ _).alloc (Nat.le_refl _) _
          have HE3 := Lib.hid (lst_2 w3 x 0 x 0 _ rfl rfl HX.out (by decide) rfl)
          have HL3 := Lib.hid (HL3.out.below hal)
          have HC2 := Lib.hid (HC2.out.below hal)
          have HC := Lib.hid (HC.out.below hal)
          have HB := Lib.hid (HB.out.trans (hal.mono HB.out.size))
          clear hal
          go_wp2_with fail
          refine (k_checks 0 0 _ (HT.out _ HB.out) HL3.out HE3.out rfl (by decide) (by decide) (by have := HQ8.out; omega) (by have := HQ8.out; omega)).mono ?_
          rintro e w4 ⟨rfl, hb⟩
          have HC2 := Lib.hid (HC2.out.below hb)
          have HC := Lib.hid (HC.out.below hb)
          have HB := Lib.hid (HB.out.trans (hb.mono HB.out.size))
          clear hb
          clear HL3 HE3
          have hal : Below w4.heap.size w4 (w4.alloc (.cells #[.int .u64 (x : Nat)] 47)) := (Below.refl _ _).alloc (Nat.le_refl _) _
          have HE4 := Lib.hid (lst_1 w4 x x _ rfl HX.out rfl)
          have HC2 := Lib.hid (HC2.out.below hal)
          have HC := Lib.hid (HC.out.below hal)
          have HB := Lib.hid (HB.out.trans (hal.mono HB.out.size))
          clear hal
          go_wp2_with fail
          refine (one8_any _ n _ rfl HNB.out).mono ?_
          rintro e w5 ⟨g5, l5, z5, rfl, hl5, -, hL, hz5, hb5, hb⟩
          have HL5 := Lib.hid (lst_own hL hb5 (by have := HNB.out; omega))
          have HC2 := Lib.hid (HC2.out.below hb)
          have HC := Lib.hid (HC.out.below hb)
          have HE4 := Lib.hid (HE4.out.below hb)
          have HB := Lib.hid (HB.out.trans (hb.mono HB.out.size))
          clear hb hl5 hz5 hb5
          clear hL
          go_wp2_with fail
          refine (k_checks 1 0 _ (HT.out _ HB.out) HE4.out HL5.out rfl (by decide) (by decide) (by have := HXI.out; omega) (by have := HXI.out; omega)).mono ?_
          rintro e w6 ⟨rfl, hb⟩
          have HC2 := Lib.hid (HC2.out.below hb)
          have HC := Lib.hid (HC.out.below hb)
          have HB := Lib.hid (HB.out.trans (hb.mono HB.out.size))
          clear hb
          clear HL5 HE4
          go_wp2
          go_roundw
          case rel => exact ⟨j + 1, by omega, by go_num, HC2.out, HC.out, HB.out⟩
          case measure => simp [intOf]; omega
        · clear HC2
          go_wp2
          go_roundw
          case rel => exact ⟨i + 1, by omega, by go_num, HC.out, HB.out⟩
          case measure => simp [intOf]; omega
    · have hq1 : decide ((i : Int) < 14) = false := decide_eq_false (by omega)
      clear HC
      go_wp2_with fail
      refine (one8_any _ 400 _ rfl (by decide)).mono ?_
      rintro e w3 ⟨gn, l3, zn, rfl, hl3, -, hon, hzn, hbn, hb⟩
      obtain rfl : l3 = 7 := hl3
      have HON := Lib.hid hon
      have HZN := Lib.hid (And.intro hzn hbn)
      have HB := Lib.hid (HB.out.trans (hb.mono HB.out.size))
      clear hb hon hzn hbn
      go_wp2_with fail
      refine (one8_any _ 400 _ rfl (by decide)).mono ?_
      rintro e w4 ⟨ge, l4, ze, rfl, hl4, hge, hoe, hze, hbe, hb⟩
      obtain rfl : l4 = 7 := hl4
      have HB0 := HB
      have HB := Lib.hid (HB.out.trans (hb.mono HB.out.size))
      have hc := hoe.cell (j := 0) (by omega)
      have hf := hoe.free 0
      generalize at0 ze 0 = x0 at *
      have h4 : Below w3.heap.size w3 (w4.setCell ⟨ge, 0, none⟩ (.int .u64 (0 : Nat))) := hb.setCell (p := ⟨ge, 0, none⟩) hge _
      have HN4 := Lib.hid (own64.keep HON.out h4)
      have HE4 : Hid (Lst (w4.setCell ⟨ge, 0, none⟩ (.int .u64 (0 : Nat))) (.slice (some ⟨ge, 0, none⟩) 7 7)) := lst_own (hoe.set 0 0) (Bd.set hbe (by decide)) (by decide)
      have HB := Lib.hid (HB0.out.trans (h4.mono HB0.out.size))
      have HZL := Lib.hid (And.intro h4.size h4.size)
      clear hb hoe hze hbe hge h4 HON HB0
      go_upto_region 14 with fail
      clear hc hf
      generalize w4.setCell ⟨ge, 0, none⟩ (.int .u64 (0 : Nat)) = w4' at *
      clear HZL
      go_wp2_with fail
      refine (one8_any _ 400 _ rfl (by decide)).mono ?_
      rintro e w5 ⟨gl, l5, zl, rfl, hl5, hgl, hol, hzl, hbl, hb⟩
      obtain rfl : l5 = 7 := hl5
      have hc := hol.cell (j := 0) (by omega)
      have hf := hol.free 0
      generalize at0 zl 0 = x1 at *
      have HGL := Lib.hid hgl
      have HO := Lib.hid (hol.set 0 0)
      have HLZ : Hid ((zl.set 0 0).length = 7 ∧ Bd (zl.set 0 0)) := ⟨by rw [List.length_set]; exact hzl, Bd.set hbl (by decide)⟩
      have HB4 := HB
      have HW := Lib.hid (hb.setCell (p := ⟨gl, 0, none⟩) hgl (.int .u64 (0 : Nat)))
      clear hb hol hzl hbl hgl
      go_upto_region 17 with fail
      clear hc hf
      generalize w5.setCell ⟨gl, 0, none⟩ (.int .u64 (0 : Nat)) = w5' at *
      generalize zl.set 0 0 = zl0 at *
      go_loopw [8] (fun kv wr2 => ∃ (k : Nat) (zs : List Nat), k ≤ 6 ∧ kv = .int .i64 (k : Nat) ∧ Hid (own64 wr2 gl (.slice (some ⟨gl, 0, none⟩) 7 7) zs) ∧ Hid (zs.length = 7 ∧ Bd zs) ∧ Hid (Below w4'.heap.size w4' wr2)) (fun kv _ => 6 - (intOf kv).toNat)
      case atStart => exact ⟨0, zl0, Nat.zero_le _, rfl, HO.out, HLZ.out, HW.out⟩
      case round =>
        clear HO HLZ HW
        obtain ⟨k, zs, hk, rfl, HO, HLZ, HW⟩ := hrel
        obtain ⟨wr2, hwr2⟩ : ∃ W, W = wr := ⟨_, rfl⟩
        rw [← hwr2] at HO HW ⊢
        clear hwr2
        by_cases hk6 : k < 6
        · have hq2 : decide ((k : Int) < 6) = true := decide_eq_true (by omega)
          have hc := HO.out.cell (j := k) (by have := HLZ.out.1; omega)
          have hf := HO.out.free k
          generalize at0 zs k = x2 at *
          have HO2 := Lib.hid (HO.out.set k 18446744073709551615)
          have HL2 : Hid ((zs.set k 18446744073709551615).length = 7 ∧ Bd (zs.set k 18446744073709551615)) := ⟨by rw [List.length_set]; exact HLZ.out.1, Bd.set HLZ.out.2 (by decide)⟩
          have HW2 := Lib.hid (HW.out.setCell (p := ⟨gl, k, none⟩) HGL.out (.int .u64 (18446744073709551615 : Nat)))
          clear HO HLZ HW
          go_wp2
          go_roundw
          case rel => exact ⟨k + 1, _, by omega, by go_num, HO2.out, HL2.out, HW2.out⟩
          case measure => simp [intOf]; omega
        · have hq2 : decide ((k : Int) < 6) = false := decide_eq_false (by omega)
          have hc := HO.out.cell (j := 6) (by have := HLZ.out.1; omega)
          have hf := HO.out.free 6
          generalize at0 zs 6 = x2 at *
          have HL6 : Hid (Lst (wr2.setCell ⟨gl, 6, none⟩ (.int .u64 (65535 : Nat))) (.slice (some ⟨gl, 0, none⟩) 7 7)) := lst_own (HO.out.set 6 65535) (Bd.set HLZ.out.2 (by decide)) (by decide)
          have hw6 := HW.out.setCell (p := ⟨gl, 6, none⟩) HGL.out (.int .u64 (65535 : Nat))
          have HN6 := Lib.hid (own64.keep HN4.out hw6)
          have HE6 := Lib.hid (HE4.out.below hw6)
          have HB := Lib.hid (HB4.out.trans (hw6.mono HB4.out.size))
          clear HO HLZ HW hw6 HN4 HE4 HB4 HGL
          go_upto_region 21 with fail
          clear hc hf
          generalize wr2.setCell ⟨gl, 6, none⟩ (.int .u64 (65535 : Nat)) = w6 at *
          have hal : Below w6.heap.size w6 (w6.alloc (.cells #[.int .u64 (0 : Nat)] 47)) := (Below.refl _ _).alloc (Nat.le_refl _) _
          have HN7 := Lib.hid (own64.keep HN6.out hal)
          have HE7 := Lib.hid (HE6.out.below hal)
          have HL7 := Lib.hid (HL6.out.below hal)
          have HB := Lib.hid (HB.out.trans (hal.mono HB.out.size))
          have hgnl := (HN7.out.lt gn rfl).2
          have hgnb : gn ≤ (w6.alloc (.cells #[.int .u64 (0 : Nat)] 47)).heap.size := Nat.le_of_lt hgnl
          clear hal HN6 HE6 HL6
          go_wp2_with (at_builtin; refine wpl_appFull rfl _ _ rfl gn gn 7 zn HZN.out.1.symm rfl HN7.out w6.heap.size rfl (World.cell?_alloc_at _ _ _ _ rfl) (by decide) hgnb ?_)
          intro cap w8 ho8 hb
          have hb : Below (w6.alloc (.cells #[.int .u64 (0 : Nat)] 47)).heap.size (w6.alloc (.cells #[.int .u64 (0 : Nat)] 47)) w8 := by
            rw [show (w6.alloc (.cells #[.int .u64 (0 : Nat)] 47)).heap.size = w6.heap.size + 1 by simp]; exact hb
          have HA := Lib.hid (lst_own ho8 (fun x hx => by
            rcases List.mem_append.1 hx with h | h
            · exact HZN.out.2 x h
            · simp at h; omega) (by decide))
          have HN := Lib.hid (lst_own (own64.keep HN7.out hb) HZN.out.2 (by decide))
          have HE := Lib.hid (HE7.out.below hb)
          have HL := Lib.hid (HL7.out.below hb)
          have HB := Lib.hid (HB.out.trans (hb.mono HB.out.size))
          clear hb hgnl hgnb HN7 HE7 HL7 HZN
          generalize w6.heap.size + 1 = ga at *
          clear ho8
          go_wp2_with fail
          refine (one8_any _ 399 _ rfl (by decide)).mono ?_
          rintro e w9 ⟨gt, l9, z9, rfl, hl9, -, hot, hzt, hbt, hb⟩
          obtain rfl : l9 = 7 := hl9
          have HS := Lib.hid (And.intro (HN.out.below hb) (And.intro (HE.out.below hb) (And.intro (HL.out.below hb) (And.intro (HA.out.below hb) (lst_own hot hbt (by decide))))))
          have HB := Lib.hid (HB.out.trans (hb.mono HB.out.size))
          clear hb hot hzt hbt HA HN HE HL
          have hal1 : Below w9.heap.size w9 (w9.alloc (.cells #[.int .u64 0, .int .u64 1] 47)) := (Below.refl _ _).alloc (Nat.le_refl _) _
          have hal2 : Below (w9.alloc (.cells #[.int .u64 0, .int .u64 1] 47)).heap.size (w9.alloc (.cells #[.int .u64 0, .int .u64 1] 47)) ((w9.alloc (.cells #[.int .u64 0, .int .u64 1] 47)).alloc (.cells #[.int .u64 1, .int .u64 1] 47)) := (Below.refl _ _).alloc (Nat.le_refl _) _
          have h1 := lst_2 w9 0 1 0 1 _ rfl rfl (by decide) (by decide) rfl
          have h2 := lst_2 (w9.alloc (.cells #[.int .u64 0, .int .u64 1] 47)) 1 1 1 1 (w9.heap.size + 1) rfl rfl (by decide) (by decide) (by simp)
          have HS2 := Lib.hid (And.intro ((HS.out.1.below hal1).below hal2) (And.intro ((HS.out.2.1.below hal1).below hal2) (And.intro ((HS.out.2.2.1.below hal1).below hal2) (And.intro ((HS.out.2.2.2.1.below hal1).below hal2) (And.intro ((HS.out.2.2.2.2.below hal1).below hal2) (And.intro (h1.below hal2) h2))))))
          have HB := Lib.hid ((HB.out.trans (hal1.mono HB.out.size)).trans (hal2.mono (Nat.le_trans HB.out.size hal1.size)))
          clear h1 h2 hal1 hal2 HS
          obtain ⟨vs, hvs⟩ : ∃ vs : List Value, vs = [.slice (some ⟨gn, 0, none⟩) 7 7, .slice (some ⟨ga, 0, none⟩) 8 cap, .slice (some ⟨ge, 0, none⟩) 7 7, .slice (some ⟨gl, 0, none⟩) 7 7, .slice (some ⟨gt, 0, none⟩) 7 7, .slice none 0 0, .slice (some ⟨w9.heap.size, 0, none⟩) 2 2, .slice (some ⟨w9.heap.size + 1, 0, none⟩) 2 2] := ⟨_, rfl⟩
          have HVL : Hid (vs.length = 8) := by show _ = _; rw [hvs]; rfl
          have hal3 : ∀ W : World, Below W.heap.size W (W.alloc (.cells vs.toArray 23)) := fun W => (Below.refl _ _).alloc (Nat.le_refl _) _
          obtain ⟨w10, hw10⟩ : ∃ W, W = (w9.alloc (.cells #[.int .u64 0, .int .u64 1] 47)).alloc (.cells #[.int .u64 1, .int .u64 1] 47) := ⟨_, rfl⟩
          have hg10 : w10.heap.size = w9.heap.size + 2 := by rw [hw10]; simp
          rw [← hw10] at HS2 HB
          have HC := Lib.hid (CB.new w10 23 vs)
          have HP : Hid ((∀ v ∈ vs, Lst (w10.alloc (.cells vs.toArray 23)) v) ∧ Lst (w10.alloc (.cells vs.toArray 23)) (.slice (some ⟨gn, 0, none⟩) 7 7) ∧ Lst (w10.alloc (.cells vs.toArray 23)) (.slice (some ⟨ge, 0, none⟩) 7 7)) := by
            refine ⟨fun v hv => ?_, HS2.out.1.below (hal3 _), HS2.out.2.1.below (hal3 _)⟩
            rw [hvs] at hv
            simp only [List.mem_cons, List.mem_nil_iff, or_false] at hv
            rcases hv with rfl | rfl | rfl | rfl | rfl | rfl | rfl | rfl
            · exact HS2.out.1.below (hal3 _)
            · exact HS2.out.2.2.2.1.below (hal3 _)
            · exact HS2.out.2.1.below (hal3 _)
            · exact HS2.out.2.2.1.below (hal3 _)
            · exact HS2.out.2.2.2.2.1.below (hal3 _)
            · exact lst_nil _
            · exact HS2.out.2.2.2.2.2.1.below (hal3 _)
            · exact HS2.out.2.2.2.2.2.2.below (hal3 _)
          have HB := Lib.hid (HB.out.trans ((hal3 w10).mono HB.out.size))
          rw [hg10] at HC
          have HW10 := Lib.hid (And.intro hw10 (And.intro hvs hg10))
          clear hal3 HS2 hw10 hvs hg10
          go_upto_region 22 with fail
          rw [← HW10.out.1]
          rw [show (#[Value.slice (some ⟨gn, 0, none⟩) 7 7, .slice (some ⟨ga, 0, none⟩) 8 cap, .slice (some ⟨ge, 0, none⟩) 7 7, .slice (some ⟨gl, 0, none⟩) 7 7, .slice (some ⟨gt, 0, none⟩) 7 7, .slice none 0 0, .slice (some ⟨w9.heap.size, 0, none⟩) 2 2, .slice (some ⟨w9.heap.size + 1, 0, none⟩) 2 2] : Array Value) = vs.toArray by rw [HW10.out.2.1]]
          generalize w10.alloc (.cells vs.toArray 23) = w11 at *
          clear HW10
          generalize w9.heap.size + 2 = gv at *
          go_loopw [74] (fun jv wr3 => ∃ j : Nat, j ≤ 8 ∧ jv = .int .i64 (j : Nat) ∧ Hid (CB wr3 23 gv vs) ∧ Hid ((∀ v ∈ vs, Lst wr3 v) ∧ Lst wr3 (.slice (some ⟨gn, 0, none⟩) 7 7) ∧ Lst wr3 (.slice (some ⟨ge, 0, none⟩) 7 7)) ∧ Hid (Below w.heap.size w wr3)) (fun jv _ => 8 - (intOf jv).toNat)
          case atStart => exact ⟨0, Nat.zero_le _, rfl, HC.out, HP.out, HB.out⟩
          case round =>
            clear HC HP HB
            obtain ⟨j, hj, rfl, HC, HP, HB⟩ := hrel
            obtain ⟨wr3, hwr3⟩ : ∃ W, W = wr := ⟨_, rfl⟩
            rw [← hwr3] at HC HP HB ⊢
            clear hwr3
            by_cases hj8 : j < 8
            · have hq3 : decide ((j : Int) < 8) = true := decide_eq_true (by omega)
              obtain ⟨v, hv, hvm⟩ : ∃ v, vs[j]? = some v ∧ v ∈ vs := ⟨vs[j]'(by have := HVL.out; omega), List.getElem?_eq_getElem _, List.getElem_mem _⟩
              have hcl : wr3.cell? ⟨gv, j, none⟩ = some v := by rw [HC.out.cell]; exact hv
              have HV := Lib.hid hvm
              obtain ⟨av, lv, cv, rfl⟩ : ∃ a l c, v = .slice a l c := by
                obtain ⟨a, l, c, xs, h, -⟩ := HP.out.1 v hvm
                exact ⟨a, l, c, h⟩
              clear hv hvm
              go_wp2_with fail
              refine (k_checks 0 0 _ (HT.out _ HB.out) HP.out.2.1 (HP.out.1 _ HV.out) rfl (by decide) (by decide) (by decide) (by decide)).mono ?_
              rintro e w12 ⟨rfl, hb⟩
              have HC := Lib.hid (HC.out.below hb)
              have HP := Lib.hid (And.intro (fun v hv => (HP.out.1 v hv).below hb) (And.intro (HP.out.2.1.below hb) (HP.out.2.2.below hb)))
              have HB := Lib.hid (HB.out.trans (hb.mono HB.out.size))
              clear hb hcl
              go_wp2_with fail
              refine (k_checks 0 0 _ (HT.out _ HB.out) HP.out.2.2 (HP.out.1 _ HV.out) rfl (by decide) (by decide) (by decide) (by decide)).mono ?_
              rintro e w13 ⟨rfl, hb⟩
              have HC := Lib.hid (HC.out.below hb)
              have HP := Lib.hid (And.intro (fun v hv => (HP.out.1 v hv).below hb) (And.intro (HP.out.2.1.below hb) (HP.out.2.2.below hb)))
              have HB := Lib.hid (HB.out.trans (hb.mono HB.out.size))
              clear hb
              go_wp2
              go_roundw
              case rel => exact ⟨j + 1, by omega, by go_num, HC.out, HP.out, HB.out⟩
              case measure => simp [intOf]; omega
            · have hq3 : decide ((j : Int) < 8) = false := decide_eq_false (by omega)
              clear HC HP
              go_wp2_with fail
              refine (works8_any _ (HT.out _ HB.out).1 (HT.out _ HB.out).2).mono ?_
              rintro e w14 ⟨rfl, hb⟩
              have HB := Lib.hid (HB.out.trans (hb.mono HB.out.size))
              clear hb
              go_wp2
              go_ret
              exact ⟨rfl, HB.out⟩

/-! RsaKnown: sizes. -/
def ns16 : List Int := [-9223372036854775808, -1, 0, 1, 37, 38, 45, 46, 47, 63, 64, 65, 511, 512, 513, 9223372036854775807]
/-- The second key, in a box. -/
structure KSt (g gN cN : Nat) (vE : Value) (W : World) : Prop where
  c0 : W.cell? ⟨g, 0, none⟩ = some (.slice (some ⟨gN, 0, none⟩) 8 cN)
  c1 : W.cell? ⟨g, 1, none⟩ = some vE
  oN : own64 W 0 (.slice (some ⟨gN, 0, none⟩) 8 cN) (knL 1)
  lE : Lst W vE
theorem KSt.below {g gN cN : Nat} {vE : Value} {W W' : World} (h : KSt g gN cN vE W) (hb : Below W.heap.size W W') : KSt g gN cN vE W' :=
  ⟨below_cell hb _ _ h.c0, below_cell hb _ _ h.c1, own64.keep h.oN hb, h.lE.below hb⟩
theorem KSt.lN {g gN cN : Nat} {vE : Value} {W : World} (h : KSt g gN cN vE W) : Lst W (.slice (some ⟨gN, 0, none⟩) 8 cN) := lst_own h.oN (kn_bd 1 (by decide)).1.1 (by decide)
theorem b8_set {l : List Nat} {i y : Nat} (h : B8 l) (hy : y < 256) : B8 (l.set i y) := fun x hx => by
  rcases List.mem_or_eq_of_mem_set hx with h1 | h1
  · exact h x h1
  · omega
theorem zeros_b8 (n : Nat) : B8 (zeros n) := fun x hx => by rw [List.eq_of_mem_replicate hx]; decide
theorem zeros_raw (W : World) (n : Nat) : Raw8 (W.alloc (.cells (u8s (zeros n)).toArray 5)) (.slice (some ⟨W.heap.size, 0, none⟩) n n) (zeros n) :=
  ⟨_, n, by rw [zeros, List.length_replicate], by rw [zeros, List.length_replicate]; exact Nat.le_refl _, (fun h => by cases h), rd_cb8 (CB.new W _ _), zeros_b8 n⟩
/-- The three worlds in which a row may be made and an order drawn. -/
theorem made_three (W : World) (n : Nat) : (Below W.heap.size W (W.alloc (.cells (u8s (zeros n)).toArray 5)).drew ∧ Raw8 (W.alloc (.cells (u8s (zeros n)).toArray 5)).drew (.slice (some ⟨W.heap.size, 0, none⟩) n n) (zeros n)) ∧
    (Below W.heap.size W (W.drew.alloc (.cells (u8s (zeros n)).toArray 5)) ∧ Raw8 (W.drew.alloc (.cells (u8s (zeros n)).toArray 5)) (.slice (some ⟨W.heap.size, 0, none⟩) n n) (zeros n)) :=
  ⟨⟨((Below.refl W.heap.size W).alloc (Nat.le_refl _) _).drew, (zeros_raw W n).below (Below.refl _ _).drew⟩, ⟨((Below.refl W.heap.size W).drew).alloc (Nat.le_refl _) _, zeros_raw W.drew n⟩⟩
set_option maxHeartbeats 8000000 in
set_option maxRecDepth 100000 in
theorem sizes8_any (w : World) (hT : Trig w) (hF : Five w) : Calls Tryz.prog 8 #[] w fun e w' => e = .returned (.bool true) ∧ Below w.heap.size w w' := by
  have HT := Lib.hid (fun (W : World) (h : Below w.heap.size w W) => And.intro (hT.below h) (hF.below h))
  clear hT hF
  go_enter Tryz.func8, Tryz.ntmps8
  go_wp2_with fail
  refine (r8keys _).mono ?_
  rintro e w1 ⟨hb, a, b, c, d, p, q, x, y, rfl, hks⟩
  obtain ⟨vN, vE, oN, oE, hix⟩ := pick4K hks 1 (by decide)
  have hix : ∀ W : World, (Instr.index 51 (.agg #[a, b, c, d, p, q, x, y]) (.int .i64 1)).run Tryz.prog W = .ok (.agg #[vN, vE]) W := hix
  obtain ⟨gN, cN, rfl⟩ : ∃ gN cN, vN = .slice (some ⟨gN, 0, none⟩) 8 cN := by
    rcases oN.2 with ⟨_, h0⟩ | ⟨g', c', cur, hv, _⟩
    · exact absurd h0 (by decide)
    · exact ⟨g', c', hv⟩
  obtain ⟨aE, lE, cE, rfl⟩ : ∃ a l c, vE = .slice a l c := by
    rcases oE.2 with ⟨h, _⟩ | ⟨g', c', cur, hv, _⟩
    · exact ⟨_, _, _, h⟩
    · exact ⟨_, _, _, hv⟩
  have hal : Below w1.heap.size w1 (w1.alloc (KB (.slice (some ⟨gN, 0, none⟩) 8 cN) (.slice aE lE cE))) := (Below.refl _ _).alloc (Nat.le_refl _) _
  have HK : Hid (KSt w1.heap.size gN cN (.slice aE lE cE) (w1.alloc (KB (.slice (some ⟨gN, 0, none⟩) 8 cN) (.slice aE lE cE)))) :=
    ⟨World.cell?_alloc_at _ _ _ _ rfl, World.cell?_alloc_at _ _ _ _ rfl, own64.keep (OwnL.base oN (Nat.zero_le _)) hal, (lst_own oE (kn_bd 1 (by decide)).2.1 (by have h := (own64.rd oE).1; rw [h]; decide)).below hal⟩
  have HB := Lib.hid (hb.trans (hal.mono hb.size))
  clear hb hks oN oE hal
  obtain ⟨g, hg⟩ : ∃ g, g = w1.heap.size := ⟨_, rfl⟩
  rw [← hg] at HK
  go_upto_region 2 with fail
  rw [← hg]
  generalize w1.alloc (KB (.slice (some ⟨gN, 0, none⟩) 8 cN) (.slice aE lE cE)) = w2 at *
  clear hg hix
  have HC : Hid (CB (w2.alloc (.cells (i64s ns16).toArray 3)) 3 w2.heap.size (i64s ns16)) := CB.new w2 _ _
  have hal : Below w2.heap.size w2 (w2.alloc (.cells (i64s ns16).toArray 3)) := (Below.refl _ _).alloc (Nat.le_refl _) _
  have HK := Lib.hid (HK.out.below hal)
  have HB := Lib.hid (HB.out.trans (hal.mono HB.out.size))
  clear hal
  go_upto_region 3 with fail
  generalize w2.heap.size = gi at *
  go_loopw [13] (fun iv wr => ∃ i : Nat, i ≤ 16 ∧ iv = .int .i64 (i : Nat) ∧ Hid (CB wr 3 gi (i64s ns16)) ∧ Hid (KSt g gN cN (.slice aE lE cE) wr) ∧ Hid (Below w.heap.size w wr)) (fun iv _ => 16 - (intOf iv).toNat)
  case atStart => exact ⟨0, Nat.zero_le _, rfl, HC.out, HK.out, HB.out⟩
  case round =>
    clear HC HK HB
    obtain ⟨i, hi, rfl, HC, HK, HB⟩ := hrel
    by_cases hin : i < 16
    · have hq1 : decide ((i : Int) < 16) = true := decide_eq_true (by omega)
      have hcl : wr.cell? ⟨gi, i, none⟩ = some (.int .i64 ns16[i]) := by rw [HC.out.cell]; exact i64s_at _ _ hin
      have hnr := all_in (l := ns16) (a := -9223372036854775808) (b := 9223372036854775807) (by decide) i hin
      generalize ns16[i] = z at hcl hnr
      have HZ := Lib.hid hnr
      have hc0 := HK.out.c0
      have hc1 := HK.out.c1
      clear hnr
      go_wp2_with fail
      refine (k_checks 9 8 _ (HT.out _ HB.out) HK.out.lN HK.out.lE rfl (by decide) (by decide) HZ.out.1 HZ.out.2).mono ?_
      rintro e w3 ⟨rfl, hb⟩
      have HC := Lib.hid (HC.out.below hb)
      have HK := Lib.hid (HK.out.below hb)
      have HB := Lib.hid (HB.out.trans (hb.mono HB.out.size))
      clear hb hcl hc0 hc1
      go_wp2_with fail
      refine (k_forms 1 0 2 0 _ (HT.out _ HB.out) rfl rfl (by decide) (by decide) (by decide) (by decide) HZ.out.1 HZ.out.2).mono ?_
      rintro e w4 ⟨rfl, hb⟩
      have HC := Lib.hid (HC.out.below hb)
      have HK := Lib.hid (HK.out.below hb)
      have HB := Lib.hid (HB.out.trans (hb.mono HB.out.size))
      clear hb
      go_wp2
      go_roundw
      case rel => exact ⟨i + 1, by omega, by go_num, HC.out, HK.out, HB.out⟩
      case measure => simp [intOf]; omega
    · have hq1 : decide ((i : Int) < 16) = false := decide_eq_false (by omega)
      clear HC
      go_upto_region 9 with fail
      go_loopw [4] (fun iv wr2 => ∃ n : Nat, n ≤ 80 ∧ iv = .int .i64 (n : Nat) ∧ Hid (KSt g gN cN (.slice aE lE cE) wr2) ∧ Hid (Below w.heap.size w wr2)) (fun iv _ => 80 - (intOf iv).toNat)
      case atStart => exact ⟨0, Nat.zero_le _, rfl, HK.out, HB.out⟩
      case round =>
        clear HK HB
        obtain ⟨n, hn, rfl, HK, HB⟩ := hrel
        obtain ⟨wr2, hwr2⟩ : ∃ W, W = wr := ⟨_, rfl⟩
        rw [← hwr2] at HK HB ⊢
        clear hwr2
        by_cases hn70 : n < 70
        · have hq2 : decide ((n : Int) < 70) = true := decide_eq_true (by omega)
          obtain ⟨n7, hn7⟩ : ∃ m, m = n % 7 := ⟨_, rfl⟩
          have r7 : (n : Int).tmod 7 = (n7 : Int) := by rw [Int.tmod_eq_emod_of_nonneg (by omega)]; omega
          have h7 : n7 < 7 := by omega
          have hmk := make_n n (by omega)
          have hc0 := HK.out.c0
          have hc1 := HK.out.c1
          clear hn7
          go_upto_region 11 with fail
          have HR : Hid (∀ W : World, Below wr2.heap.size wr2 W ∧ Raw8 W (.slice (some ⟨wr2.heap.size, 0, none⟩) n n) (zeros n) → Calls Tryz.prog 32 #[.agg #[.slice (some ⟨gN, 0, none⟩) 8 cN, .slice aE lE cE], .slice none 0 0, .slice (some ⟨wr2.heap.size, 0, none⟩) n n] W fun e w' => e = .returned (.bool true) ∧ Below wr2.heap.size wr2 w') := fun W h => by
            have hk := HK.out.below h.1
            refine (k_raises (m := []) (s := zeros n) (HT.out _ (HB.out.trans (h.1.mono HB.out.size))) hk.lN hk.lE (raw8_nil W) h.2 (by decide) (by rw [zeros, List.length_replicate]; omega)).mono ?_
            rintro e w' ⟨rfl, hb⟩
            exact ⟨rfl, h.1.trans (hb.mono h.1.size)⟩
          have HM := Lib.hid (made_three wr2 n)
          have hd0 : (wr2.alloc (.cells (u8s (zeros n)).toArray 5)).cell? ⟨g, 0, none⟩ = some (.slice (some ⟨gN, 0, none⟩) 8 cN) := below_cell ((Below.refl wr2.heap.size wr2).alloc (Nat.le_refl _) _) _ _ hc0
          have hd1 : (wr2.alloc (.cells (u8s (zeros n)).toArray 5)).cell? ⟨g, 1, none⟩ = some (.slice aE lE cE) := below_cell ((Below.refl wr2.heap.size wr2).alloc (Nat.le_refl _) _) _ _ hc1
          have hd2 : (wr2.alloc (.cells (u8s (zeros n)).toArray 5)).drew.cell? ⟨g, 0, none⟩ = some (.slice (some ⟨gN, 0, none⟩) 8 cN) := hd0
          have hd3 : (wr2.alloc (.cells (u8s (zeros n)).toArray 5)).drew.cell? ⟨g, 1, none⟩ = some (.slice aE lE cE) := hd1
          go_region_with (go_at_call 32; refine (HR.out _ ?_).mono ?_; (first | exact HM.out.1 | exact HM.out.2); rintro e w5 ⟨rfl, hb⟩)
          all_goals (have HK := Lib.hid (HK.out.below hb); have HB := Lib.hid (HB.out.trans (hb.mono HB.out.size)); clear hb HR HM hmk hc0 hc1 hd0 hd1 hd2 hd3)
          all_goals
            (go_wp2
             go_roundw
             case rel => exact ⟨n + 1 + n7, by omega, by go_num, HK.out, HB.out⟩
             case measure => simp [intOf]; omega)
        · have hq2 : decide ((n : Int) < 70) = false := decide_eq_false (by omega)
          have hmk := make_64
          go_upto_region 15 with fail
          have HCA : Hid (CB (wr2.alloc (.cells (u8s (zeros 64)).toArray 5)) 5 wr2.heap.size (u8s (zeros 64))) := CB.new wr2 _ _
          have HW : Hid (Below wr2.heap.size wr2 (wr2.alloc (.cells (u8s (zeros 64)).toArray 5))) := (Below.refl _ _).alloc (Nat.le_refl _) _
          have HL0 : Hid ((zeros 64).length = 64 ∧ B8 (zeros 64)) := ⟨by rw [zeros, List.length_replicate], zeros_b8 64⟩
          generalize wr2.alloc (.cells (u8s (zeros 64)).toArray 5) = w3 at *
          clear hmk
          generalize zeros 64 = l0 at *
          obtain ⟨ga, hga⟩ : ∃ ga, ga = wr2.heap.size := ⟨_, rfl⟩
          rw [← hga] at HCA ⊢
          have HGA : Hid (wr2.heap.size ≤ ga) := by show _ ≤ _; omega
          clear hga
          go_loopw [6] (fun iv wr3 => ∃ (i : Nat) (l : List Nat), i ≤ 64 ∧ iv = .int .i64 (i : Nat) ∧ Hid (CB wr3 5 ga (u8s l)) ∧ Hid (l.length = 64 ∧ B8 l) ∧ Hid (Below wr2.heap.size wr2 wr3)) (fun iv _ => 64 - (intOf iv).toNat)
          case atStart => exact ⟨0, l0, Nat.zero_le _, rfl, HCA.out, HL0.out, HW.out⟩
          case round =>
            clear HCA HL0 HW
            obtain ⟨i, l, hi, rfl, HCA, HL, HW⟩ := hrel
            obtain ⟨wr3, hwr3⟩ : ∃ W, W = wr := ⟨_, rfl⟩
            rw [← hwr3] at HCA HW ⊢
            clear hwr3
            by_cases hi64 : i < 64
            · have hq3 : decide ((i : Int) < 64) = true := decide_eq_true (by omega)
              have hk := HK.out.below HW.out
              obtain ⟨q, hq⟩ : ∃ q, q = i / 8 := ⟨_, rfl⟩
              obtain ⟨r, hr⟩ : ∃ r, r = i % 8 := ⟨_, rfl⟩
              have rq : (i : Int).tdiv 8 = (q : Int) := by rw [Int.tdiv_eq_ediv_of_nonneg (by omega)]; omega
              have rr : (i : Int).tmod 8 = (r : Int) := by rw [Int.tmod_eq_emod_of_nonneg (by omega)]; omega
              obtain ⟨j, hj⟩ : ∃ j, j = 7 - q := ⟨_, rfl⟩
              have rj : (7 : Int) - (q : Int) = (j : Int) := by omega
              obtain ⟨t, ht⟩ : ∃ t, t = 8 * r := ⟨_, rfl⟩
              have rt : (8 : Int) * (r : Int) = (t : Int) := by omega
              obtain ⟨s, hs⟩ : ∃ s, s = 56 - t := ⟨_, rfl⟩
              have rs : (56 : Int) - (t : Int) = (s : Int) := by omega
              have hj8 : j < 8 := by omega
              have hs56 : s ≤ 56 := by omega
              have hr8 : r < 8 := by omega
              have ht56 : t ≤ 56 := by omega
              have hq8 : q < 8 := by omega
              have hc0 := hk.c0
              have hcx := hk.oN.cell (j := j) (by rw [show (knL 1).length = 8 by decide]; exact hj8)
              have hxb := (kn_bd 1 (by decide)).1.1.at0 j
              have hci := HCA.out.cell i
              rw [u8s_at _ i (by rw [HL.out.1]; exact hi64)] at hci
              have hfi := HCA.out.free i
              generalize at0 (knL 1) j = x at *
              obtain ⟨y, hy⟩ : ∃ y, y = x / 2 ^ s % 256 := ⟨_, rfl⟩
              have ey : (x : Int) / 2 ^ s % 256 = (y : Int) := by rw [hy]; simp
              have hy8 : y < 256 := by omega
              have HCA2 := Lib.hid (HCA.out.set i (.int .u8 (y : Nat)))
              have HL2 : Hid ((l.set i y).length = 64 ∧ B8 (l.set i y)) := ⟨by rw [List.length_set]; exact HL.out.1, b8_set HL.out.2 hy8⟩
              have HW2 := Lib.hid (HW.out.setCell (p := ⟨ga, i, none⟩) HGA.out (.int .u8 (y : Nat)))
              clear hk hq hr hj ht hs hy hy8 HCA HL HW
              go_wp2
              rw [u8s_setL] at HCA2
              go_roundw
              case rel => exact ⟨i + 1, _, by omega, by go_num, HCA2.out, HL2.out, HW2.out⟩
              case measure => simp [intOf]; omega
            · have hq3 : decide ((i : Int) < 64) = false := decide_eq_false (by omega)
              have HK := Lib.hid (HK.out.below HW.out)
              have HB := Lib.hid (HB.out.trans (HW.out.mono HB.out.size))
              clear HW HGA
              go_upto_region 19 with fail
              go_loopw [7] (fun dv wr4 => ∃ d : Nat, d ≤ 3 ∧ dv = .int .i64 (d : Nat) ∧ Hid (CB wr4 5 ga (u8s l)) ∧ Hid (KSt g gN cN (.slice aE lE cE) wr4) ∧ Hid (Below w.heap.size w wr4)) (fun dv _ => 3 - (intOf dv).toNat)
              case atStart => exact ⟨0, Nat.zero_le _, rfl, HCA.out, HK.out, HB.out⟩
              case round =>
                clear HCA HK HB
                obtain ⟨d, hd, rfl, HCA, HK, HB⟩ := hrel
                obtain ⟨wr4, hwr4⟩ : ∃ W, W = wr := ⟨_, rfl⟩
                rw [← hwr4] at HCA HK HB ⊢
                clear hwr4
                by_cases hd3 : d < 3
                · have hq4 : decide ((d : Int) < 3) = true := decide_eq_true (by omega)
                  have hmk := make_64
                  go_upto_region 22 with fail
                  have hal : Below wr4.heap.size wr4 (wr4.alloc (.cells (u8s (zeros 64)).toArray 5)) := (Below.refl _ _).alloc (Nat.le_refl _) _
                  have HCS : Hid (CB (wr4.alloc (.cells (u8s (zeros 64)).toArray 5)) 5 wr4.heap.size (u8s (zeros 64))) := CB.new wr4 _ _
                  have HCA5 := Lib.hid (HCA.out.below hal)
                  have HW : Hid (Below wr4.heap.size wr4 (wr4.alloc (.cells (u8s (zeros 64)).toArray 5))) := hal
                  clear hal hmk
                  generalize wr4.alloc (.cells (u8s (zeros 64)).toArray 5) = w5 at *
                  refine wp_region_lit ?_
                  refine wpList_plain rfl fun K1 hK1 => ?_
                  go_simp
                  refine hK1 _ _ ?_
                  clear hK1 K1
                  refine wpList_plain rfl fun K1 hK1 => ?_
                  go_simp
                  refine hK1 _ _ ?_
                  clear hK1 K1
                  refine wpList_plain rfl fun K1 hK1 => wp_copy (.tmp 68) (.tmp 69) 40 40 rfl 5 Tryz.underlying40 info8s wr4.heap.size 0 64 64 ⟨ga, 0, none⟩ 64 64 rfl rfl HCS.out (u8s l) (by rw [u8s_len, HL.out.1]; rfl) (fun k v hv => ?_) (by rw [u8s_len, u8s_len, HL.out.1, zeros, List.length_replicate]; decide) (u8s_one8 _) fun w6 C6 hch hsz => hK1 _ _ ?_
                  · have e2 : (⟨ga, 0, none⟩ : Addr).add k = ⟨ga, k, none⟩ := by unfold Addr.add; split <;> simp_all
                    rw [e2, HCA5.out.cell]
                    exact hv
                  clear hK1 K1
                  rw [splice_all (by rw [u8s_len, u8s_len, HL.out.1, zeros, List.length_replicate])] at C6
                  have hb6 : Below wr4.heap.size wr4 w6 := HW.out.trans (hch.below HW.out.size (fun k hk => by omega))
                  obtain ⟨gs, hgs⟩ : ∃ gs, gs = wr4.heap.size := ⟨_, rfl⟩
                  rw [← hgs] at C6 ⊢
                  have HW := Lib.hid hb6
                  have HGS : Hid (wr4.heap.size ≤ gs) := by show _ ≤ _; omega
                  have hcs := C6.cell 63
                  rw [u8s_at _ 63 (by rw [HL.out.1]; decide)] at hcs
                  have hfs := C6.free 63
                  have hx8 := HL.out.2.at0 63
                  have HC6 := Lib.hid C6
                  have hwd : IntKind.u8.wrap (d : Int) = (d : Int) := by rw [IntKind.wrap_u8']; omega
                  generalize at0 l 63 = x0 at *
                  obtain ⟨y, hy⟩ : ∃ y, y = (x0 + d + 255) % 256 := ⟨_, rfl⟩
                  have ey : ((x0 : Int) + (d : Int) - 1) % 256 = (y : Int) := by omega
                  have hy8 : y < 256 := by omega
                  clear hb6 hgs C6 hch hsz HCS HCA5 hy
                  have HC7 := Lib.hid (HC6.out.set 63 (.int .u8 (y : Nat)))
                  rw [u8s_setL] at HC7
                  have HW7 := Lib.hid (HW.out.setCell (p := ⟨gs, 63, none⟩) HGS.out (.int .u8 (y : Nat)))
                  go_upto_region 24 with fail
                  clear hcs hfs hx8 hwd HC6 ey
                  generalize w6.setCell ⟨gs, 63, none⟩ (.int .u8 (y : Nat)) = w7 at *
                  have hl2 : (l.set 63 y).length = 64 := by rw [List.length_set]; exact HL.out.1
                  have HS : Hid (Raw8 w7 (.slice (some ⟨gs, 0, none⟩) 64 64) (l.set 63 y)) := ⟨_, 64, by rw [hl2], by rw [hl2]; exact Nat.le_refl _, (fun h => by cases h), rd_cb8 HC7.out, b8_set HL.out.2 hy8⟩
                  have HLS : Hid ((l.set 63 y).length ≤ 4096) := by show _ ≤ _; rw [hl2]; decide
                  generalize l.set 63 y = ls at *
                  have HCA := Lib.hid (HCA.out.below HW7.out)
                  have HK := Lib.hid (HK.out.below HW7.out)
                  have HB := Lib.hid (HB.out.trans (HW7.out.mono HB.out.size))
                  clear hy8 HC7 HW7 HW HGS hl2
                  have hc0 := HK.out.c0
                  have hc1 := HK.out.c1
                  go_wp2_with fail
                  refine (k_raises (m := []) (HT.out _ HB.out) HK.out.lN HK.out.lE (raw8_nil _) HS.out (by decide) HLS.out).mono ?_
                  rintro e w8 ⟨rfl, hb⟩
                  have HCA := Lib.hid (HCA.out.below hb)
                  have HK := Lib.hid (HK.out.below hb)
                  have HS := Lib.hid (HS.out.below hb)
                  have HB := Lib.hid (HB.out.trans (hb.mono HB.out.size))
                  clear hb hc0 hc1
                  have hc0 := HK.out.c0
                  have hc1 := HK.out.c1
                  go_wp2_with fail
                  refine (k_equation (m := []) (HT.out _ HB.out) HK.out.lN HK.out.lE (raw8_nil _) HS.out (by decide) HLS.out).mono ?_
                  rintro e w9 ⟨rfl, hb⟩
                  have HCA := Lib.hid (HCA.out.below hb)
                  have HK := Lib.hid (HK.out.below hb)
                  have HB := Lib.hid (HB.out.trans (hb.mono HB.out.size))
                  clear hb hc0 hc1 HS
                  go_wp2
                  go_roundw
                  case rel => exact ⟨d + 1, by omega, by go_num, HCA.out, HK.out, HB.out⟩
                  case measure => simp [intOf]; omega
                · have hq4 : decide ((d : Int) < 3) = false := decide_eq_false (by omega)
                  clear HCA HK
                  go_wp2
                  go_ret
                  exact ⟨rfl, HB.out⟩
end Go.Proofs.YtaookoejdnkkoaaGreatDoor
