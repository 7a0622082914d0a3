import Derived.Test.YtaookoejdnkkoaaGreatDoorKRsKnA
import Derived.Test.YtaookoejdnkkoaaGreatDoorKRsXY
import Derived.Lib.SmallJoins
namespace Go.Proofs.YtaookoejdnkkoaaGreatDoor
open Go.RowKit

/-! RsaKnown: encodings. -/
def vouchL : List Nat := [118, 111, 117, 99, 104]
theorem vouch_b8 : B8 vouchL := by unfold B8; decide
/-- A key in a box. -/
structure KLt (g : Nat) (vN vE : Value) (W : World) : Prop where
  c0 : W.cell? ⟨g, 0, none⟩ = some vN
  c1 : W.cell? ⟨g, 1, none⟩ = some vE
  lN : Lst W vN
  lE : Lst W vE
theorem KLt.below {g : Nat} {vN vE : Value} {W W' : World} (h : KLt g vN vE W) (hb : Below W.heap.size W W') : KLt g vN vE W' :=
  ⟨below_cell hb _ _ h.c0, below_cell hb _ _ h.c1, h.lN.below hb, h.lE.below hb⟩
theorem k_signed {w : World} {vm : Value} {m : List Nat} (hT : Trig w ∧ Five w) (gm : Raw8 w vm m) (hbm : m.length ≤ 4096) (z1 z2 : Int) (t : Nat)
    (h11 : -9223372036854775808 ≤ z1) (h12 : z1 ≤ 9223372036854775807) (h21 : -9223372036854775808 ≤ z2) (h22 : z2 ≤ 9223372036854775807) (ht : t < 256) :
    Calls Tryz.prog 35 #[vm, .int .i64 z1, .int .i64 z2, .int .u8 (t : Nat)] w fun e w' => e = .returned (.bool true) ∧ Below w.heap.size w w' :=
  rsaSigned_any hT.1 hT.2 gm (by omega) z1 z2 t h11 h12 h21 h22 ht
theorem rd_take8 {w : World} {a : Option Addr} {xs : List Nat} {n : Nat} (h : Rd .u8 w a xs) : Rd .u8 w a (xs.take n) := fun j hj => by
  rw [List.length_take] at hj
  obtain ⟨g, o, e, hc⟩ := h j (by omega)
  refine ⟨g, o, e, fun i hi => ?_⟩
  rw [List.length_take] at hi
  rw [hc i (by omega), List.getD_eq_getElem?_getD, List.getD_eq_getElem?_getD, List.getElem?_take_of_lt (by omega)]
theorem raw8_take {w : World} {a : Option Addr} {n n1 c : Nat} {l : List Nat} (h : Raw8 w (.slice a n c) l) (h1 : n1 ≤ n) : Raw8 w (.slice a n1 c) (l.take n1) := by
  obtain ⟨a', c', e, hl, hn, hr, h8⟩ := h
  simp only [Value.slice.injEq] at e
  obtain ⟨rfl, rfl, rfl⟩ := e
  exact ⟨a, c, by rw [List.length_take, Nat.min_eq_left h1], by rw [List.length_take]; omega, hn, rd_take8 hr, fun x hx => h8 x (List.mem_of_mem_take hx)⟩
theorem raw8_news {w : World} {s0 n c : Nat} {l : List Nat} (h : Raw8 w (.slice (some ⟨s0, 0, none⟩) n c) l) : ∃ p, some (⟨s0, 0, none⟩ : Addr) = some p ∧ ∀ (j : Nat) u, (u8s l)[j]? = some u → w.cell? (p.add j) = some u := by
  obtain ⟨a, c', e, _, _, hr, _⟩ := h
  simp only [Value.slice.injEq] at e
  obtain ⟨rfl, _, _⟩ := e
  refine ⟨_, rfl, fun j u hu => ?_⟩
  have hj : j < l.length := by have := (List.getElem?_eq_some_iff.1 hu).1; rwa [u8s_len] at this
  obtain ⟨g, o, e2, hc⟩ := hr j hj
  injection e2 with e2
  injection e2 with e3 e4
  subst e3 e4
  have e5 : (⟨s0, 0, none⟩ : Addr).add j = ⟨s0, j, none⟩ := by unfold Addr.add; split <;> simp_all
  have h1 := hc j hj
  rw [Nat.zero_add] at h1
  rw [e5, h1, ← hu]
  simp [u8s, List.getElem?_eq_getElem hj, List.getD]
theorem cut_front (s0 n n1 cs : Nat) (h1 : n1 ≤ cs) (h0 : ¬ (cs = 0)) (W : World) : (Instr.slice 40 (.slice (some ⟨s0, 0, none⟩) n cs) none (some (.int .i64 (n1 : Nat))) none).run Tryz.prog W = .ok (.slice (some ⟨s0, 0, none⟩) n1 cs) W := by
  have he : Tryz.prog.elem 40 = 5 := by kernel_rfl
  obtain ⟨i, hi, hz, hsz, hb⟩ := info_parts info8
  rw [run_slice_h W 40 (some ⟨s0, 0, none⟩) n cs (by rw [he]; exact Tryz.underlying40) .i64 (n1 : Nat) (by omega) (by omega), he]
  simp [sizeOf, typeInfo, hi, hsz, sliced, h0, Addr.add, Result.andThen]
theorem cut_frontAt (s0 n n1 cs : Nat) (h1 : n1 ≤ cs) (h0 : ¬ (cs = 0)) (W : World) : (Instr.sliceAt 40 (.slice (some ⟨s0, 0, none⟩) n cs) none (some (.int .i64 (n1 : Nat))) none).run Tryz.prog W = .ok (.slice (some ⟨s0, 0, none⟩) n1 cs) W := by
  have he : Tryz.prog.elem 40 = 5 := by kernel_rfl
  rw [run_sliceAt_slice W 40 _ _ _ _ (by rw [he]; exact Tryz.underlying40), cut_front s0 n n1 cs h1 h0 W]
theorem vouch_raw (w : World) (W1 : World) (h : W1 = w.alloc (.cells (u8s vouchL).toArray 5 ((u8s vouchL).toArray.size, (u8s vouchL).toArray.size + 1))) : Raw8 W1 (.slice (some ⟨w.heap.size, 0, none⟩) 5 5) vouchL := by
  subst h
  refine ⟨_, 5, rfl, by decide, (fun h => by cases h), fun _ _ => ⟨w.heap.size, 0, rfl, fun i hi => ?_⟩, vouch_b8⟩
  rw [Nat.zero_add, World.cell?_alloc_mark]
  simp [u8s, List.getElem?_eq_getElem hi, List.getD]
set_option maxHeartbeats 8000000 in
set_option maxRecDepth 100000 in
theorem encodings8_any (w : World) (hT : Trig w) (hF : Five w) : Calls Tryz.prog 9 #[] w fun e w' => e = .returned (.bool true) ∧ Below w.heap.size w w' := by
  have HT := Lib.hid (fun (W : World) (h : Below w.heap.size w W) => And.intro (hT.below h) (hF.below h))
  clear hT hF
  have hcv := Joins.run_convert_bytes_const_at (P := Tryz.prog) w 40 5 (u8s vouchL).toArray 5 5 w.heap.size rfl Tryz.underlying40 Tryz.underlying5
  obtain ⟨W1, hW1⟩ : ∃ W1, W1 = w.alloc (.cells (u8s vouchL).toArray 5 ((u8s vouchL).toArray.size, (u8s vouchL).toArray.size + 1)) := ⟨_, rfl⟩
  rw [← hW1] at hcv
  have HC : Hid (Raw8 W1 (.slice (some ⟨w.heap.size, 0, none⟩) 5 5) vouchL) := vouch_raw w W1 hW1
  have HB1 : Hid (Below w.heap.size w W1) := by show Below _ _ _; rw [hW1]; exact (Below.refl _ _).alloc (Nat.le_refl _) _
  have hcv : (convert 40 40 (.slice (some ⟨w.heap.size, 0, none⟩) 5 5)).run Tryz.prog (w.alloc (.cells #[.int .u8 118, .int .u8 111, .int .u8 117, .int .u8 99, .int .u8 104] 5)) = .ok (.slice (some ⟨w.heap.size, 0, none⟩) 5 5) W1 := hcv
  clear hW1
  go_enter Tryz.func9, Tryz.ntmps9
  go_wp2
  clear hcv
  go_loopw [2] (fun iv wr => ∃ i : Nat, i ≤ 4 ∧ iv = .int .i64 (i : Nat) ∧ Hid (Raw8 wr (.slice (some ⟨w.heap.size, 0, none⟩) 5 5) vouchL) ∧ Hid (Below w.heap.size w wr)) (fun iv _ => 4 - (intOf iv).toNat)
  case atStart => exact ⟨0, Nat.zero_le _, rfl, HC.out, HB1.out⟩
  case round =>
    clear HC HB1
    obtain ⟨i, hi, rfl, HC, HB⟩ := hrel
    by_cases hin : i < 4
    · have hq1 : decide ((i : Int) < 4) = true := decide_eq_true (by omega)
      have HI := Lib.hid hin
      have HM : Hid (∀ W, Below wr.heap.size wr W → Raw8 W (.slice (some ⟨w.heap.size, 0, none⟩) 5 5) vouchL) := fun W h => HC.out.below h
      obtain ⟨gm, hgm⟩ : ∃ gm, gm = w.heap.size := ⟨_, rfl⟩
      rw [← hgm] at HM ⊢
      have HCW := Lib.hid (And.intro hgm hgm)
      clear hgm
      go_wp2_with fail
      refine (r8keys _).mono ?_
      rintro e w1 ⟨hb, a, b, c, d, p, q, x, y, rfl, hks⟩
      obtain ⟨vN, vE, oN, oE, hix⟩ := pick4K hks i HI.out
      obtain ⟨aN, lN, cN, rfl⟩ : ∃ a l c, vN = .slice a l c := by
        rcases oN.2 with ⟨h, _⟩ | ⟨g', c', cur, hv, _⟩
        · exact ⟨_, _, _, h⟩
        · exact ⟨_, _, _, hv⟩
      obtain ⟨aE, lE, cE, rfl⟩ : ∃ a l c, vE = .slice a l c := by
        rcases oE.2 with ⟨h, _⟩ | ⟨g', c', cur, hv, _⟩
        · exact ⟨_, _, _, h⟩
        · exact ⟨_, _, _, hv⟩
      have hal : Below w1.heap.size w1 (w1.alloc (KB (.slice aN lN cN) (.slice aE lE cE))) := (Below.refl _ _).alloc (Nat.le_refl _) _
      have HK : Hid (KLt w1.heap.size (.slice aN lN cN) (.slice aE lE cE) (w1.alloc (KB (.slice aN lN cN) (.slice aE lE cE)))) :=
        ⟨World.cell?_alloc_at _ _ _ _ rfl, World.cell?_alloc_at _ _ _ _ rfl,
         (lst_own oN (kn_bd i HI.out).1.1 (by have h := (own64.rd oN).1; rw [h]; exact Nat.le_trans (kn_bd i HI.out).1.2 (by decide))).below hal,
         (lst_own oE (kn_bd i HI.out).2.1 (by have h := (own64.rd oE).1; rw [h, (kn_bd i HI.out).2.2]; decide)).below hal⟩
      have HB0 := HB
      have HW := Lib.hid (hb.trans (hal.mono hb.size))
      clear hb hks oN oE hal
      obtain ⟨g, hg⟩ : ∃ g, g = w1.heap.size := ⟨_, rfl⟩
      rw [← hg] at HK
      go_upto_region 6 with fail
      rw [← hg]
      generalize w1.alloc (KB (.slice aN lN cN) (.slice aE lE cE)) = w2 at *
      clear hg hix
      go_wp2_with fail
      refine (r8signed i HI.out _ (HM.out _ HW.out) (by decide)).mono ?_
      rintro e w3 ⟨hb, v, sl, rfl, hos, hsl⟩
      have hln : 46 ≤ sl.length ∧ sl.length ≤ 512 := by rw [hsl.1]; exact ⟨(kn_ok i HI.out).size.1, (kn_ok i HI.out).size.2⟩
      obtain ⟨s0, cs, rfl⟩ : ∃ s0 cs, v = .slice (some ⟨s0, 0, none⟩) sl.length cs := by
        rcases hos.2 with ⟨_, h0⟩ | ⟨g', c', cur, hv, _⟩
        · omega
        · exact ⟨g', c', hv⟩
      have HS := Lib.hid (own8_raw hos hsl.2.1)
      have HK := Lib.hid (HK.out.below hb)
      have HW := Lib.hid (HW.out.trans (hb.mono HW.out.size))
      obtain ⟨n, hn⟩ : ∃ n, n = sl.length := ⟨_, rfl⟩
      rw [← hn] at HS hln ⊢
      have HN := Lib.hid (And.intro hn hln)
      have hLS : Hid (sl.length ≤ 4096) := by show _ ≤ _; omega
      clear hb hos hsl hn hln
      have hc0 := HK.out.c0
      have hc1 := HK.out.c1
      go_wp2_with fail
      refine (k_raises (HT.out _ (HB0.out.trans (HW.out.mono HB0.out.size))) HK.out.lN HK.out.lE (HM.out _ HW.out) HS.out (by decide) hLS.out).mono ?_
      rintro e w4 ⟨rfl, hb⟩
      have HK := Lib.hid (HK.out.below hb)
      have HS := Lib.hid (HS.out.below hb)
      have HW := Lib.hid (HW.out.trans (hb.mono HW.out.size))
      clear hb hc0 hc1
      have hc0 := HK.out.c0
      have hc1 := HK.out.c1
      go_wp2_with fail
      refine (k_raises (m := []) (HT.out _ (HB0.out.trans (HW.out.mono HB0.out.size))) HK.out.lN HK.out.lE (raw8_nil _) HS.out (by decide) hLS.out).mono ?_
      rintro e w4 ⟨rfl, hb⟩
      have HK := Lib.hid (HK.out.below hb)
      have HS := Lib.hid (HS.out.below hb)
      have HW := Lib.hid (HW.out.trans (hb.mono HW.out.size))
      clear hb hc0 hc1
      have hc0 := HK.out.c0
      have hc1 := HK.out.c1
      go_wp2_with fail
      refine (k_equation (HT.out _ (HB0.out.trans (HW.out.mono HB0.out.size))) HK.out.lN HK.out.lE (HM.out _ HW.out) HS.out (by decide) hLS.out).mono ?_
      rintro e w4 ⟨rfl, hb⟩
      have HK := Lib.hid (HK.out.below hb)
      have HS := Lib.hid (HS.out.below hb)
      have HW := Lib.hid (HW.out.trans (hb.mono HW.out.size))
      clear hb hc0 hc1
      obtain ⟨t, ht⟩ : ∃ t, t = 2 ^ i := ⟨_, rfl⟩
      have ht8 : t < 256 := by
        have h := HI.out
        rcases (show i = 0 ∨ i = 1 ∨ i = 2 ∨ i = 3 by omega) with h | h | h | h <;> rw [ht, h] <;> decide
      have ep : (2 : Int) ^ i = (t : Int) := by rw [ht]; simp
      have et : (2 : Int) ^ i % 256 = (t : Int) := by rw [ep]; omega
      have ew : IntKind.u8.wrap ((2 : Int) ^ i) = (t : Int) := by rw [IntKind.wrap_u8', et]
      have HT8 := Lib.hid ht8
      clear ht ht8 ep
      have hc0 := HK.out.c0
      have hc1 := HK.out.c1
      go_wp2_with fail
      refine (k_signed (HT.out _ (HB0.out.trans (HW.out.mono HB0.out.size))) (HM.out _ HW.out) (by decide) _ _ t (by omega) (by omega) (by omega) (by omega) HT8.out).mono ?_
      rintro e w4 ⟨rfl, hb⟩
      have HK := Lib.hid (HK.out.below hb)
      have HS := Lib.hid (HS.out.below hb)
      have HW := Lib.hid (HW.out.trans (hb.mono HW.out.size))
      clear hb hc0 hc1
      clear et ew
      go_upto_region 10 with fail
      have hnil : (w4.alloc (.cells #[.int .u8 (0 : Nat)] 5)).ownsRow w4.heap.size 5 1 (.slice none 0 0) 0 [] := ⟨rfl, .inl ⟨rfl, rfl⟩⟩
      have hsz : w4.heap.size ≤ (w4.alloc (.cells #[.int .u8 (0 : Nat)] 5)).heap.size := by simp
      have hal : Below w4.heap.size w4 (w4.alloc (.cells #[.int .u8 (0 : Nat)] 5)) := (Below.refl _ _).alloc (Nat.le_refl _) _
      have HAL := Lib.hid (And.intro hsz hal)
      clear hal
      go_wp2_with (at_builtin; refine wpl_app 40 5 Tryz.underlying40 info8 rfl (by decide) rfl _ _ rfl w4.heap.size (.slice none 0 0) 0 [] rfl hnil w4.heap.size _ rfl (World.cell?_alloc_at _ _ _ _ rfl) rfl (by decide) hsz ?_)
      intro g5 c5 w5 hown5 hg5 hB5 hlt5 hor5
      have hb5 : Below w4.heap.size w4 w5 := HAL.out.2.grown hg5 HAL.out.1 (fun k hk => by cases hk)
      have HB5 := Lib.hid hb5
      have hw45 : w4.heap.size ≤ w5.heap.size := hb5.size
      have hlen : 1 + n ≤ 4398046511104 := by have := HN.out; omega
      have hnews := raw8_news (HS.out.below hb5)
      have hnl : (u8s sl).length = n := by rw [u8s_len, ← HN.out.1]
      have hown5 : w5.ownsRow w4.heap.size 5 1 (.slice (some ⟨g5, 0, none⟩) 1 c5) 1 [.int .u8 (0 : Nat)] := hown5
      have HO5 := Lib.hid (And.intro hown5 hB5)
      clear hg5 hor5 hb5 hnil hsz HAL hlt5
      go_wp2_with (at_builtin; refine wpl_appN 40 5 Tryz.underlying40 info8 rfl (by decide) rfl _ _ rfl w4.heap.size (.slice (some ⟨g5, 0, none⟩) 1 c5) 1 [.int .u8 (0 : Nat)] rfl hown5 (some ⟨s0, 0, none⟩) n cs rfl (u8s sl) hnl (fun _ => hnews) (fun _ h => by cases h) (u8s_one8 _) hlen hw45 ?_)
      intro v6 w6 hown6 hg6 hor6 hnil6
      have hb6 : Below w4.heap.size w4 w6 := HB5.out.grown hg6 HB5.out.size (fun k hk => by
        have h1 : g5 = k := Option.some.inj hk
        have := HO5.out.2
        omega)
      have ho6 : own8 w6 w4.heap.size v6 (0 :: sl) := by
        show World.ownsRow _ _ _ _ _ _ _
        rw [List.length_cons, ← HN.out.1, Nat.add_comm n 1]
        exact hown6
      have h68 : B8 (0 :: sl) := fun x hx => by
        rcases List.mem_cons.1 hx with h | h
        · omega
        · obtain ⟨_, _, _, _, _, _, h8⟩ := HS.out
          exact h8 x h
      have hr6 := own8_raw ho6 h68
      obtain ⟨a6, c6, rfl, -, -, -⟩ := own8_form ho6
      have hl6 : (0 :: sl).length ≤ 4096 := by rw [List.length_cons, ← HN.out.1]; have := HN.out; omega
      have HL6 := Lib.hid hl6
      obtain ⟨m6, hm6⟩ : ∃ m, m = (0 :: sl).length := ⟨_, rfl⟩
      rw [← hm6] at hr6 ⊢
      have HR6 := Lib.hid hr6
      have HK := Lib.hid (HK.out.below hb6)
      have HS := Lib.hid (HS.out.below hb6)
      have HW := Lib.hid (HW.out.trans (hb6.mono HW.out.size))
      clear hown6 hg6 hor6 hnil6 hb6 ho6 h68 hr6 hl6 hm6 HB5 hw45 hlen hnews hnl hown5 HO5 hB5
      obtain ⟨n1, hn1⟩ : ∃ n1, n = n1 + 1 := ⟨n - 1, by have := HN.out; omega⟩
      have hncs : n ≤ cs := by
        obtain ⟨_, _, e', h1, _⟩ := HS.out
        simp only [Value.slice.injEq] at e'
        omega
      have HT6 : Hid (∀ W, Raw8 W (.slice (some ⟨s0, 0, none⟩) n cs) sl → Raw8 W (.slice (some ⟨s0, 0, none⟩) n1 cs) (sl.take n1)) := fun W h => raw8_take h (by omega)
      have HLT : Hid ((sl.take n1).length ≤ 4096) := by show _ ≤ _; rw [List.length_take]; have := hLS.out; omega
      have hs1 : (n : Int) - 1 = (n1 : Int) := by omega
      have hk1 : n1 ≤ cs := by omega
      have hk2 : (n1 : Int) ≤ (cs : Int) := by omega
      have hk3 : (0 : Int) ≤ (n1 : Int) := by omega
      have hk4 : ¬ (cs = 0) := by omega
      have hk5 : ¬ ((cs : Int) = 0) := by omega
      have hk6 : (0 : Int) ≤ (cs : Int) := by omega
      have hw1 : IntKind.i64.wrap (n1 : Int) = (n1 : Int) := wrap_i64_nat _ (by have := HN.out; omega)
      have hw2 : n ≤ 512 := HN.out.2.2
      have hcf := cut_front s0 n n1 cs hk1 hk4
      have hcg := cut_frontAt s0 n n1 cs hk1 hk4
      clear hn1 hncs
      go_upto_region 12 with fail
      have HK := Lib.hid (HK.out.below (Below.refl _ _).drew)
      have HS := Lib.hid (HS.out.below (Below.refl _ _).drew)
      have HR6 := Lib.hid (HR6.out.below (Below.refl _ _).drew)
      have HW := Lib.hid HW.out.drew
      go_region_held3 (fun W => W.cell? ⟨g, 0, none⟩ = some (.slice aN lN cN) ∧ W.cell? ⟨g, 1, none⟩ = some (.slice aE lE cE))
        (first | exact ⟨HK.out.c0, HK.out.c1⟩)
        (first
          | (go_at_call 32; (with_reducible refine (k_raises (HT.out _ (HB0.out.trans (HW.out.mono HB0.out.size))) HK.out.lN HK.out.lE (HM.out _ HW.out) HR6.out (by decide) HL6.out).mono ?_)
             rintro e w7 ⟨rfl, hb⟩
             have HK := Lib.hid (HK.out.below hb)
             have HS := Lib.hid (HS.out.below hb)
             have HW := Lib.hid (HW.out.trans (hb.mono HW.out.size))
             clear hb)
          | (go_at_call 32; (with_reducible refine (k_raises (HT.out _ (HB0.out.trans (HW.out.mono HB0.out.size))) HK.out.lN HK.out.lE (HM.out _ HW.out) (HT6.out _ HS.out) (by decide) HLT.out).mono ?_)
             rintro e w8 ⟨rfl, hb⟩
             have HK := Lib.hid (HK.out.below hb)
             have HS := Lib.hid (HS.out.below hb)
             have HW := Lib.hid (HW.out.trans (hb.mono HW.out.size))
             clear hb))
      go_wp2
      go_roundw
      case rel =>
        refine ⟨i + 1, by omega, by go_num, ?_, by show Below gm _ _; rw [HCW.out.1]; exact HB0.out.trans (HW.out.mono HB0.out.size)⟩
        exact HM.out _ HW.out
      case measure => simp [intOf]; omega
    · have hq1 : decide ((i : Int) < 4) = false := decide_eq_false (by omega)
      go_wp2_with fail
      refine (works8_any _ (HT.out _ HB.out).1 (HT.out _ HB.out).2).mono ?_
      rintro e w14 ⟨rfl, hb⟩
      have HB := Lib.hid (HB.out.trans (hb.mono HB.out.size))
      clear hb
      go_wp2
      go_ret
      exact ⟨rfl, HB.out⟩

set_option maxHeartbeats 1000000 in
/-- RsaKnown. -/
theorem rsaKnown_any (w : World) (hT : Trig w) (hF : Five w) : Calls Tryz.prog 3 #[] w fun e w' => e = .returned (.bool true) ∧ Below w.heap.size w w' := by
  have HT := Lib.hid (fun (W : World) (h : Below w.heap.size w W) => And.intro (hT.below h) (hF.below h))
  have HT0 := Lib.hid (And.intro hT hF)
  clear hT hF
  go_enter Tryz.func3, Tryz.ntmps3
  go_wp2_with fail
  refine (keys8_any _ HT0.out.1 HT0.out.2).mono ?_
  rintro e w1 ⟨rfl, hb⟩
  have HB := Lib.hid hb
  clear hb
  go_wp2_with fail
  refine (sizes8_any _ (HT.out _ HB.out).1 (HT.out _ HB.out).2).mono ?_
  rintro e w2 ⟨rfl, hb⟩
  have HB := Lib.hid (HB.out.trans (hb.mono HB.out.size))
  clear hb
  go_wp2_with fail
  refine (encodings8_any _ (HT.out _ HB.out).1 (HT.out _ HB.out).2).mono ?_
  rintro e w3 ⟨rfl, hb⟩
  have HB := Lib.hid (HB.out.trans (hb.mono HB.out.size))
  clear hb
  go_wp2
  go_ret
  exact ⟨rfl, HB.out⟩
end Go.Proofs.YtaookoejdnkkoaaGreatDoor
