import Derived.Test.YteanpdiceaijhaaDoorSub
namespace Go.Proofs.YteanpdiceaijhaaDoor
open Go.RowKit

/-- The decimal digits, the least one first. -/
def digs (m n : Nat) : List Nat := (List.range m).map fun i => 48 + n / 10 ^ i % 10
theorem digs_zero (n : Nat) : digs 0 n = [] := rfl
theorem digs_succ (m n : Nat) : digs (m + 1) n = digs m n ++ [48 + n / 10 ^ m % 10] := by simp [digs, List.range_succ]
theorem digs_len (m n : Nat) : (digs m n).length = m := by simp [digs]
theorem digit_of (n k j z : Nat) (hz : z = n / 10 ^ (19 * k)) (hj : j < 19) : n / 10 ^ (19 * k + j) % 10 = z % 10000000000000000000 / 10 ^ j % 10 := by
  have e : 10000000000000000000 = 10 ^ j * 10 ^ (19 - j) := by rw [← Nat.pow_add, show j + (19 - j) = 19 by omega]
  rw [e, Nat.mod_mul_right_div_self, Nat.mod_mod_of_dvd _ (Nat.dvd_of_pow_dvd (by omega : 1 ≤ 19 - j) (Nat.dvd_refl _)), hz, Nat.div_div_eq_div_mul, ← Nat.pow_add]

/-- What Text answers. -/
def TextPost (n N : Nat) (w : World) (e : Ending) (w' : World) : Prop :=
  Below w.heap.size w w' ∧
  ((128 < n ∧ e = .returned (.tuple #[.string ⟨#[]⟩, .int .i64 3])) ∨
   (n = 0 ∧ e = .returned (.tuple #[.string ⟨#[48]⟩, .int .i64 0])) ∨
   (n ≤ 128 ∧ ∃ k, 0 < k ∧ N < 10 ^ (19 * k) ∧ 10 ^ (19 * (k - 1)) ≤ N ∧ e = .returned (.tuple #[.string ⟨(Lib.trimLeftB ((digs (19 * k) N).reverse.map UInt8.ofNat) 48).toArray⟩, .int .i64 0])))
set_option exponentiation.threshold 10000 in
theorem rounds_few {N k : Nat} (hN : N < 18446744073709551616 ^ 128) (h : 10 ^ (19 * k) ≤ N) : k ≤ 130 := by
  refine Nat.le_of_not_lt fun h2 => ?_
  have h3 : 10 ^ (19 * 131) ≤ 10 ^ (19 * k) := Nat.pow_le_pow_right (by decide) (by omega)
  have h4 : 18446744073709551616 ^ 128 ≤ 10 ^ (19 * 131) := by decide
  omega
theorem val_pos {zs : List Nat} (hb : Bd zs) (hf : fl zs = zs.length) (h : zs.length ≠ 0) : 0 < val zs := by
  refine Nat.pos_of_ne_zero fun hz => h ?_
  have := num_fm hb
  rw [hz] at this
  have h3 := Num.unique this Num.nil
  rw [← hf, ← fm_length, h3]; rfl
theorem wrap_u8 (d : Nat) (h : d < 10) : IntKind.u8.wrap (d : Int) = (d : Int) ∧ IntKind.u8.wrap (48 + (d : Int)) = 48 + (d : Int) := by
  have : ∀ d : Fin 10, IntKind.u8.wrap (d.val : Int) = (d.val : Int) ∧ IntKind.u8.wrap (48 + (d.val : Int)) = 48 + (d.val : Int) := by decide
  exact this ⟨d, h⟩
theorem u8s_app (xs : List Nat) (d : Nat) : u8s xs ++ [.int .u8 (48 + (d : Int))] = u8s (xs ++ [48 + d]) := by simp [u8s]
set_option maxHeartbeats 1000000 in
set_option maxRecDepth 100000 in
theorem text_any (a : Option Addr) (la ca : Nat) (xs : List Nat) (w : World) (hla : xs.length = la) (hba : la ≤ 1048576) (hca : la ≤ ca) (hna : a = none → ca = 0)
    (hra : Rd .u64 w a xs) (bx : Bd xs) :
    Calls Tryd.prog 13 #[.slice a la ca] w (TextPost (fl xs) (val xs) w) := by
  go_enter Tryd.func13, Tryd.ntmps13
  go_wp2_with fail
  refine (one_any a la ca xs _ hla (by omega) hca hra).mono ?_
  rintro e w1 ⟨hor, rfl⟩
  rcases hor with ⟨h1, a', c', rfl, g1, g2⟩ | ⟨h1, rfl⟩
  · have fa : FormOf a ca (fl xs) a' c' := ⟨g1, g2⟩
    have hfa := (fl_spec xs).1
    have hra' := fa.rd hra hfa
    have hca' := (fa.cap hca (by omega)).1
    have hna' : Hid (a' = none → c' = 0) := fun h => ((fa.cap hca (by omega)).2 h).elim id (fun h2 => by
      rcases Nat.eq_zero_or_pos (fl xs) with h0 | hp
      · exact (fa.2 h0).2
      · rw [(fa.1 hp).2]; exact hna h2)
    have V1 : Hid (val (xs.take (fl xs)) = val xs) := fm_val xs
    have e1 : Hid ((xs.take (fl xs)).length = fl xs) := fm_length xs
    clear fa g1 g2 hra hna
    by_cases h0 : fl xs = 0
    · have hq : ((fl xs : Int) == 0) = true := by simp; omega
      have H0 := Lib.hid h0
      clear h0
      go_wp2
      go_ret2
      exact ⟨Below.refl _ _, .inr (.inl ⟨H0.out, rfl⟩)⟩
    · have hq : ((fl xs : Int) == 0) = false := by simp; omega
      have F1 : Hid (fl (xs.take (fl xs)) = fl xs) := by show fl (fm xs) = fl xs; rw [fl_of_cn (fm_cn xs), fm_length]
      have B1 := bx.take (fl xs)
      have C1 : Cn (xs.take (fl xs)) := fm_cn xs
      have HNB : Hid (val xs < 18446744073709551616 ^ 128) := by show _ < _; rw [← fm_val xs]; exact (num_fm bx).len_le.1 (by rw [fm_length]; exact h1) |> (fun h => by rw [fm_val]; exact h)
      have HBY := Lib.hid B1
      generalize xs.take (fl xs) = ys at *
      generalize val xs = N at *
      generalize fl xs = n at *
      have H0 := Lib.hid h0
      clear h0
      go_wp2_with fail
      refine (copied_any a' n c' ys _ e1.out (by omega) (fun _ h => hna'.out h) hra').mono ?_
      rintro e w2 ⟨v, rfl, hown, hbl, _⟩
      go_wp2
      have HO := Lib.hid hown
      have HE1 := Lib.hid e1.out
      have HVN := Lib.hid V1.out
      clear hown
      go_loopg [5, 6] N (fun gk v5 v6 wr => ∃ (k : Nat) (zs : List Nat), zs.length ≤ 128 ∧ val zs ≤ gk ∧ Hid (Bd zs) ∧ Hid (fl zs = zs.length) ∧ Hid (val zs = N / 10 ^ (19 * k)) ∧ Hid (own64 wr w.heap.size v6 zs) ∧
        Hid (wr.ownsRow w.heap.size 5 1 v5 (19 * k) (u8s (digs (19 * k) N))) ∧ Hid (∀ q, v5.ownBlock = some q → v6.ownBlock ≠ some q) ∧ Below w.heap.size w wr ∧ Hid (0 < k → 10 ^ (19 * (k - 1)) ≤ N))
      case atStart =>
        exact ⟨0, ys, by rw [e1.out]; exact h1, by rw [V1.out]; exact Nat.le_refl _, B1, by show _ = _; rw [e1.out]; exact F1.out, by show _ = _; rw [V1.out]; simp, HO.out, World.ownsRow_nil _ _ _ _, (by intro q hq; cases hq), hbl, fun h => absurd h (by omega)⟩
      case round =>
        obtain ⟨k, zs, hz128, hgk, HB, HF, HV, HOZ, HOD, HS, hbl, HM⟩ := hrel
        have HBL := Lib.hid hbl
        clear hra' hna' hbl
        obtain ⟨az, cz, rfl, hrz⟩ := own64.form HOZ.out
        by_cases hl0 : zs.length = 0
        · have hq : decide ((0 : Int) < (zs.length : Int)) = false := by rw [decide_eq_false_iff_not]; omega
          have hz0 : zs = [] := List.eq_nil_of_length_eq_zero hl0
          have hk0 : 0 < k := by
            refine Nat.pos_of_ne_zero fun h => ?_
            have h1 := HV.out
            rw [h, hz0] at h1
            simp [val] at h1
            have := val_pos (HBY.out) (by rw [F1.out, e1.out]) (by rw [e1.out]; exact H0.out)
            rw [V1.out] at this
            omega
          have hlt : Hid (N < 10 ^ (19 * k)) := by
            show _ < _
            have h1 := HV.out
            rw [hz0] at h1
            simp only [val] at h1
            refine Nat.lt_of_not_le fun h2 => ?_
            have := Nat.div_pos h2 (Nat.pow_pos (by decide))
            omega
          have hkb := rounds_few HNB.out (HM.out hk0)
          obtain ⟨g, c, rfl, hBg, hgl⟩ := owns_some HOD.out (by omega)
          have HK0 := Lib.hid hk0
          clear hrz hz0 HOZ HS hk0
          go_wp2_with fail
          refine (reverse_any g (19 * k) c w.heap.size (digs (19 * k) N) _ (digs_len _ _) (by omega) HOD.out).mono ?_
          rintro e w5 ⟨rfl, ho5, hC5⟩
          have HO5 := Lib.hid ho5
          have HB5 := Lib.hid (HBL.out.trans (hC5.below HBL.out.size (fun q hq => by omega)))
          clear ho5 hC5 HOD
          obtain ⟨bs, hbs⟩ : ∃ bs, bs = (digs (19 * k) N).reverse.map UInt8.ofNat := ⟨_, rfl⟩
          have hcv : (convert 29 9 (.slice (some ⟨g, 0, none⟩) (19 * k) c)).run Tryd.prog w5 = .ok (.string ⟨bs.toArray⟩) w5 := by
            have h := run_convert_bytes_arg (P := Tryd.prog) w5 29 5 Tryd.underlying29 Tryd.underlying5 g 0 (19 * k) c ((digs (19 * k) N).reverse.map fun (x : Nat) => (x : Int)) (by simp [digs_len]) (fun i hi => by
              rw [Nat.zero_add, World.ownsRow.cellAt HO5.out i (by omega), u8s_at _ _ (by simp [digs_len]; omega), at0_getElem (by simp [digs_len]; omega)]
              simp [digs_len, hi]) 9 Tryd.underlying9
            rw [h, hbs]
            simp [strOfNums, Function.comp_def]
          have HBS := Lib.hid hbs
          clear hbs
          go_wp2_with fail
          refine (Tryd.strings_TrimLeft_one ⟨bs.toArray⟩ 48 (by decide) _).mono ?_
          rintro e w6 ⟨rfl, rfl⟩
          clear hcv
          go_wp2
          go_ret2
          exact ⟨HB5.out, .inr (.inr ⟨h1, k, HK0.out, hlt.out, HM.out HK0.out, by rw [HBS.out]; rfl⟩)⟩
        · have hq : decide ((0 : Int) < (zs.length : Int)) = true := by rw [decide_eq_true_iff]; omega
          obtain ⟨g, cz', hga, hBg, hgl⟩ := own64.isAt HOZ.out (by omega)
          obtain ⟨rfl, rfl⟩ : az = some ⟨g, 0, none⟩ ∧ cz = cz' := by simpa using hga
          clear hga
          obtain ⟨G, cur, hg, -, -, hblk, hnc, hcm, hcs, hsg⟩ := own64.blk HOZ.out
          cases hg
          have hpz := val_pos HB.out HF.out hl0
          have hk10 : 10 ^ (19 * k) ≤ N := Nat.le_of_not_lt fun h => by rw [HV.out, Nat.div_eq_of_lt h] at hpz; omega
          have hkb := rounds_few HNB.out hk10
          have HPZ := Lib.hid hpz
          have HK10 := Lib.hid hk10
          clear hpz hk10
          obtain ⟨l, hl⟩ : ∃ l, l = zs.length := ⟨_, rfl⟩
          rw [← hl] at hq hz128 hl0 hnc ⊢
          have HLL := Lib.hid hl
          clear hl hrz
          have HBK := Lib.hid hblk
          have HSG := Lib.hid hsg
          have HCS := Lib.hid hcs
          have HNC := Lib.hid hnc
          clear hblk hsg hcs hnc
          go_wp2_with fail
          refine (divideShort_any g 0 l cz cur zs 10000000000000000000 _ HBK.out HSG.out HLL.out.symm (by omega) HB.out (by decide) (by decide)).mono ?_
          rintro e w3 ⟨r, qs, rfl, hql, hqb, hrd, hval, hbk3, hC3⟩
          have hown3 := own64_of_blk (B := w.heap.size) (zs := qs) (c := cz) hbk3 hBg (by have := HNC.out; omega) hcm (by rw [putL_size (by have := HSG.out.1; have := HLL.out; omega)]; exact HCS.out) (putL_sg (by have := HSG.out.1; have := HLL.out; omega))
          rw [hql] at hown3
          have HOD3 : Hid (w3.ownsRow w.heap.size 5 1 u5 (19 * k) (u8s (digs (19 * k) N))) := hC3.owns HOD.out (fun q hq he => HS.out q hq (by rw [he]; rfl))
          have HO3 := Lib.hid hown3
          have HB3 : Hid (Below w.heap.size w w3) := (HBL.out.trans (hC3.below HBL.out.size (fun q hq => by omega)))
          have HV3 := Lib.hid hval
          have HQL := Lib.hid hql
          have HQB := Lib.hid hqb
          have hg3 : g < w3.heap.size := hbk3.lt
          clear hown3 hval hql hqb hbk3 hC3 HO HOD HOZ HBL
          go_wp2
          go_loopw [5, 7, 28] (fun d5 p7 i28 wr => ∃ (j p : Nat), j ≤ 19 ∧ i28 = .int .i64 (j : Nat) ∧ p7 = .int .u64 (p : Nat) ∧ Hid (p = r / 10 ^ j) ∧ Hid (wr.ownsRow w.heap.size 5 1 d5 (19 * k + j) (u8s (digs (19 * k + j) N))) ∧
            Hid (own64 wr w.heap.size (.slice (some ⟨g, 0, none⟩) l cz) qs) ∧ Hid (∀ q, d5.ownBlock = some q → q ≠ g) ∧ Hid (Below w.heap.size w wr)) (fun _ _ i28 _ => 19 - (intOf i28).toNat)
          case atStart => exact ⟨0, r, by omega, rfl, rfl, by show _ = _; simp, HOD3.out, HO3.out, (fun q hq he => HS.out q hq (by rw [he]; rfl)), HB3.out⟩
          case round =>
            clear HO3 HOD3 HB3 hg3
            obtain ⟨j, p, hj, rfl, rfl, HP, HOD3, HO3, HS3, HB3⟩ := hrel
            have hsz3 := HB3.out.size
            by_cases hj2 : j < 19
            · obtain ⟨d, hd⟩ : ∃ d, d = p % 10 := ⟨_, rfl⟩
              have hd10 : d < 10 := by omega
              have rt : (p : Int).tmod 10 = (d : Int) := by rw [Int.tmod_eq_emod_of_nonneg (by omega)]; omega
              have rw1 : IntKind.u8.wrap (d : Int) = (d : Int) := (wrap_u8 d hd10).1
              have rw2 : IntKind.u8.wrap (48 + (d : Int)) = 48 + (d : Int) := (wrap_u8 d hd10).2
              have HD := Lib.hid hd
              clear hd
              go_wp2_with (at_builtin; refine wpl_app 29 5 Tryd.underlying29 info8 rfl (by decide) rfl _ _ rfl w.heap.size _ (19 * k + j) (u8s (digs (19 * k + j) N)) rfl (World.ownsRow.alloc HOD3.out _) wr.heap.size _ rfl (World.cell?_alloc_at _ _ _ _ rfl) rfl (by omega) (by simp; omega) ?_)
              intro g' cap' w1 hown1 hg1 hBg1 _ hor
              have hdg : N / 10 ^ (19 * k + j) % 10 = d := by
                rw [digit_of N k j _ HV.out hj2, HD.out, HP.out, HV3.out, Nat.mul_add_mod, Nat.mod_eq_of_lt hrd]
              rw [u8s_app, ← hdg, ← digs_succ] at hown1
              have HN1 := Lib.hid hown1
              clear hown1 hdg
              obtain ⟨p', hp'⟩ : ∃ p', p' = p / 10 := ⟨_, rfl⟩
              have rq : (p : Int).tdiv 10 = (p' : Int) := by rw [Int.tdiv_eq_ediv_of_nonneg (by omega)]; omega
              have hpr : p' < 18446744073709551616 := by have h1 := HP.out; have h2 := Nat.div_le_self r (10 ^ j); omega
              have HP' := Lib.hid hp'
              have hC := ((Chg.refl _ wr).alloc _).trans (Chg.of_grown hg1)
              have hC := Lib.hid hC
              have hgl3 := (World.ownsRow.lt HO3.out g rfl).2
              clear hp' hg1
              go_wp2
              go_roundw
              case rel =>
                refine ⟨j + 1, p', by omega, by go_num, rfl, ?_, HN1.out, ?_, ?_, ?_⟩
                · show _ = _; rw [HP'.out, HP.out, Nat.div_div_eq_div_mul, ← Nat.pow_succ]
                · exact hC.out.owns HO3.out fun q hq he => HS3.out q he.symm (by simpa [Value.ownBlock] using hq.symm)
                · intro q hq
                  have : g' = q := by simpa [Value.ownBlock] using hq
                  subst this
                  rcases hor.out with h | h
                  · exact HS3.out _ h
                  · first | omega | (simp at h; omega)
                · exact HB3.out.trans (hC.out.below HB3.out.size (fun q hq => (World.ownsRow.lt HOD3.out q hq.symm).1))
              case measure => simp [intOf]; omega
            · obtain rfl : j = 19 := by omega
              have hra3 := (own64.rd HO3.out).2
              go_wp2_with fail
              refine (form_any (some ⟨g, 0, none⟩) l cz qs _ HQL.out (by omega) HNC.out hra3).mono ?_
              rintro e w4 ⟨⟨aq', cq', rfl, k1, k2⟩, rfl⟩
              have K1 := Lib.hid k1
              have K2 := Lib.hid k2
              clear k1 k2 hra3
              go_wp2
              go_roundg (val qs)
              case measure => have := HV3.out; have := HPZ.out; omega
              case rel =>
                have hv := HV3.out
                refine ⟨k + 1, fm qs, by rw [fm_length]; have := (fl_spec qs).1; have := HQL.out; omega, by rw [fm_val]; exact Nat.le_refl _, fm_bd HQB.out, ?_, ?_, own64_take HO3.out (fl_spec qs).1 K1.out K2.out, ?_, ?_, HB3.out, fun _ => HK10.out⟩
                · show _ = _; rw [fl_of_cn (fm_cn qs)]
                · show _ = _
                  rw [fm_val, Nat.mul_succ, Nat.pow_add, ← Nat.div_div_eq_div_mul, ← HV.out, hv, show (10:Nat) ^ 19 = 10000000000000000000 by rfl, Nat.mul_add_div (by decide), Nat.div_eq_of_lt hrd, Nat.add_zero]
                · have := HOD3.out
                  rw [Nat.mul_succ]
                  exact this
                · intro q hq hq2
                  have := own_form (n := l) hq2 K1.out K2.out
                  exact HS3.out q hq (by simpa [Value.ownBlock] using this.symm)
  · go_wp2
    go_ret2
    exact ⟨Below.refl _ _, .inl ⟨h1, rfl⟩⟩
end Go.Proofs.YteanpdiceaijhaaDoor
