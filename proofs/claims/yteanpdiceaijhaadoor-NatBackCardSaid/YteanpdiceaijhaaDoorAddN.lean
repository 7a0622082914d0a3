import Derived.Test.YteanpdiceaijhaaDoorSub
import Derived.Laws.CopyOwn
namespace Go.Proofs.YteanpdiceaijhaaDoor
open Go.RowKit

theorem size64 : (Tryd.prog.info? 55).map (·.size) = some 1 := by kernel_rfl
/-- A list of limbs copied to the beginning of a block. -/
theorem wpl_copy64 {w : World} {ops : Array Oper} {rest : List Oper} {o : Oper} {a : Act} {Q : Exit → Act → World → Prop} (hgd : o.guard = none) (d s : Operand)
    (ho : o.op = .call { callee := .builtin .copy, args := #[d, s], argTypes := #[22, 22] })
    (g dLen dCap : Nat) (sp : Option Addr) (sLen sCap : Nat) (hd : a.eval d = .slice (some ⟨g, 0, none⟩) dLen dCap) (hs : a.eval s = .slice sp sLen sCap)
    (cur : Array Value) (hg : Blk w g cur) (xs : List Nat) (hx : xs.length = sLen) (hr : Rd .u64 w sp xs) (hle : sLen ≤ dLen) (hfit : sLen ≤ cur.size) (B : Nat) (w0 : World) (hb : Below B w0 w) (hBg : B ≤ g)
    (h : ∀ w', Hid (Blk w' g (putL cur 0 xs)) → Below B w0 w' → wpList Tryd.prog ops Q rest (a.put o.dst (goInt sLen)) w') :
    wpList Tryd.prog ops Q (o :: rest) a w := by
  have hl : (u64s xs).length = sLen := by rw [u64s_len]; exact hx
  refine wpList_copy_splice hgd d s _ _ ho 55 Tryd.underlying22 size64 (some ⟨g, 0, none⟩) sp dLen dCap sLen sCap hd hs g 0 cur.toList 55 hg (u64s xs) (by rw [hl]; exact (Nat.min_eq_left hle).symm) ?_ (by rw [hl]; simpa using hfit) (by intro v hv; obtain ⟨x, _, rfl⟩ := List.mem_map.1 hv; rfl) B w0 hb hBg ?_
  · intro hp
    obtain ⟨p, rfl, hc⟩ := hr.news (by rw [hl] at hp; omega)
    exact ⟨rfl, p, rfl, hc⟩
  · intro w' h1 h2
    rw [hl]
    have e : (splice cur.toList 0 (u64s xs)).toArray = putL cur 0 xs := by unfold splice putL; rw [u64s_len]
    exact h w' (by have h3 := h1.out; rw [e] at h3; exact h3) h2
theorem val_app0 (xs : List Nat) : val (xs ++ [0]) = val xs := by rw [val_snoc]; simp

set_option exponentiation.threshold 10000 in
set_option maxHeartbeats 2000000 in
set_option maxRecDepth 100000 in
theorem add_any (a b : Option Addr) (la lb ca cb : Nat) (xs ys : List Nat) (w : World) (hla : xs.length = la) (hlb : ys.length = lb) (hba : la ≤ 1048576) (hbb : lb ≤ 1048576) (hca : la ≤ ca) (hcb : lb ≤ cb)
    (hra : Rd .u64 w a xs) (hrb : Rd .u64 w b ys) (bx : Bd xs) (bY : Bd ys) :
    Calls Tryd.prog 35 #[.slice a la ca, .slice b lb cb] w (NumPost (fl xs ≤ 128 ∧ fl ys ≤ 128) (val xs + val ys) w) := by
  have hfa := (fl_spec xs).1
  have hfb := (fl_spec ys).1
  go_enter Tryd.func35, Tryd.ntmps35
  go_wp2_with fail
  refine (both_any a b la lb ca cb xs ys _ hla hlb (by omega) (by omega) hca hcb hra hrb).mono ?_
  rintro e w1 ⟨hor, rfl⟩
  rcases hor with ⟨h1, h2, a', c', b', d', rfl, fa, fb⟩ | ⟨h1, rfl⟩
  · have hra' := fa.rd hra hfa
    have hrb' := fb.rd hrb hfb
    have hca' := (fa.cap hca (by omega)).1
    have hcb' := (fb.cap hcb (by omega)).1
    have holda := Lib.hid (fa.old hra hfa)
    have holdb := Lib.hid (fb.old hrb hfb)
    have V1 : Hid (val (xs.take (fl xs)) = val xs) := fm_val xs
    have V2 : Hid (val (ys.take (fl ys)) = val ys) := fm_val ys
    have e1 : Hid ((xs.take (fl xs)).length = fl xs) := fm_length xs
    have e2 : Hid ((ys.take (fl ys)).length = fl ys) := fm_length ys
    have b1 := Lib.hid (bx.take (fl xs))
    have b2 := Lib.hid (bY.take (fl ys))
    clear fa fb hra hrb bx bY
    generalize xs.take (fl xs) = X at *
    generalize ys.take (fl ys) = Y at *
    generalize val xs = VX at *
    generalize val ys = VY at *
    generalize fl xs = n at *
    generalize fl ys = m at *
    by_cases hsw : n < m
    · have hq : decide ((n : Int) < (m : Int)) = true := by rw [decide_eq_true_iff]; omega
      have hq0 : decide (n < m) = true := by rw [decide_eq_true_iff]; omega
      have hle : n ≤ m := by omega
      have HSW := Lib.hid hsw
      clear hsw
      obtain ⟨s, hs⟩ : ∃ s, s = m + 1 := ⟨_, rfl⟩
      have rs : (m : Int) + 1 = (s : Int) := by omega
      have HS := Lib.hid hs
      have hs2 : s ≤ 129 := by omega
      have hns : m < s := by omega
      clear hs
      go_wp2_with (at_make; refine wpl_make64 rfl _ _ rfl w.heap.size _ _ _ _ s rfl rfl rfl rfl (by omega) (Nat.le_refl _) ?_)
      intro w1 hown hbl hsz
      obtain ⟨g, cur, hga, hx1, hBg, hblk, hx2, hx3, hsz2, hsg⟩ := own64.blk hown
      obtain rfl : w.heap.size = g := by simpa using hga
      have HBLK := Lib.hid hblk
      have HSZ2 := Lib.hid hsz2
      have HSG := Lib.hid hsg
      have HR1 := Lib.hid (hrb'.below hbl)
      have HRS := Lib.hid hra'
      have HBL := Lib.hid hbl
      clear hga hx1 hx2 hx3 hblk hsz2 hsg hown hbl hra' hrb' hsz
      go_wp2_with (with_reducible show wpList _ _ _ _ _ _; refine wpl_copy64 rfl _ _ rfl w.heap.size s s b' m d' rfl rfl cur HBLK.out Y e2.out HR1.out (by omega) (by rw [HSZ2.out]; omega) w.heap.size w HBL.out (Nat.le_refl _) ?_)
      intro w2 hb2 hbl2
      have hXs : Sg (putL cur 0 Y) 0 (Y ++ [0]) := by
        have hl : (Y ++ [0]).length = s := by rw [List.length_append, e2.out]; exact HS.out.symm
        have hps : (putL cur 0 Y).size = cur.size := putL_size (by rw [e2.out, HSZ2.out]; omega)
        refine ⟨by rw [hl, hps, HSZ2.out]; omega, fun i hi => ?_⟩
        rw [hl] at hi
        by_cases hi2 : i < m
        · rw [putL_in (by rw [e2.out, HSZ2.out]; omega) (by rw [e2.out]; exact hi2), at0_append_left (by rw [e2.out]; exact hi2)]
        · have hie : i = Y.length + 0 := by rw [e2.out]; omega
          rw [putL_out (by rw [e2.out, HSZ2.out]; omega) (.inr (by rw [e2.out]; omega)), HSG.out.2 i (by simp; exact hi)]
          rw [hie, at0_append_right]
          congr 3
          unfold at0 List.getD
          simp only [List.getElem?_replicate]
          split <;> rfl
      have HXS := Lib.hid hXs
      have HXS := Lib.hid hXs
      have HPS : Hid ((putL cur 0 Y).size = s) := by show _ = _; rw [putL_size (by rw [e2.out, HSZ2.out]; omega)]; exact HSZ2.out
      have HR2 := Lib.hid (HRS.out.below hbl2)
      have HBL2 := Lib.hid hbl2
      have HL0 : Hid ((Y ++ [0]).length = s) := by show _ = _; rw [List.length_append, e2.out]; exact HS.out.symm
      clear hXs hbl2 HR1 HBLK HBL HSG HRS
      go_wp2_with fail
      refine (raise_any w.heap.size 0 s s (putL cur 0 Y) (Y ++ [0]) a' n c' X _ hb2.out HXS.out HL0.out (by omega) (b2.out.snoc (by decide)) HR2.out e1.out (by omega) b1.out (fun p hp => by have := holda.out p hp; omega)).mono ?_
      rintro e w3 ⟨cy, zs, rfl, hzl, hzb, hcy, hv, hblk3, hchg⟩
      have hval : Hid (val zs = VX + VY) := by
        show _ = _
        rw [val_app0, V2.out, V1.out] at hv
        have k1 := val_lt b2.out
        have k2 := val_lt b1.out
        rw [e2.out, V2.out] at k1
        rw [e1.out, V1.out] at k2
        have k3 : 18446744073709551616 ^ n ≤ 18446744073709551616 ^ m := Nat.pow_le_pow_right (by decide) hle
        have k4 : 18446744073709551616 ^ s = 18446744073709551616 ^ m * 18446744073709551616 := by rw [HS.out, Nat.pow_succ]
        rcases Nat.eq_zero_or_pos cy with h0 | h0
        · rw [h0] at hv; omega
        · have k5 : 18446744073709551616 ^ s * 1 ≤ 18446744073709551616 ^ s * cy := Nat.mul_le_mul_left _ h0
          omega
      have hown3 := own64_of_blk (B := w.heap.size) (c := s) hblk3 (Nat.le_refl _) (by rw [hzl]; exact Nat.le_refl _) (by unfold maxLen; omega) (by rw [putL_size (by rw [hzl, HPS.out]; omega)]; exact HPS.out) (putL_sg (by rw [hzl, HPS.out]; omega))
      have HB3 := Lib.hid (HBL2.out.trans (hchg.below HBL2.out.size (fun k hk => by show w.heap.size ≤ k; omega)))
      rw [hzl] at hown3
      have HO3 := Lib.hid hown3
      have HZL := Lib.hid hzl
      have HZB := Lib.hid hzb
      clear hv hown3 hblk3 hchg hzl hzb HXS HPS HR2 HBL2 HL0 hcy
      go_wp2_with fail
      refine (one_any (some ⟨w.heap.size, 0, none⟩) s s zs _ HZL.out (by omega) (Nat.le_refl _) (own64.rd HO3.out).2).mono ?_
      rintro e w4 ⟨hor, rfl⟩
      have hnum := num_fm HZB.out
      rw [hval.out] at hnum
      rcases hor with ⟨h3, av', cv', rfl, g1, g2⟩ | ⟨h3, rfl⟩
      · have G1 := Lib.hid g1
        have G2 := Lib.hid g2
        have HNU := Lib.hid hnum
        clear g1 g2 hnum
        go_wp2
        go_ret2
        refine ⟨HB3.out, .inr ⟨⟨h1, h2⟩, ?_, _, fm zs, rfl, own64_take HO3.out (fl_spec zs).1 G1.out G2.out, HNU.out⟩⟩
        rw [← HNU.out.len_le, fm_length]; exact h3
      · have HNU := Lib.hid hnum
        clear hnum
        go_wp2
        go_ret2
        refine ⟨HB3.out, .inl ⟨fun h => ?_, rfl⟩⟩
        have := HNU.out.len_le.2 h.2
        rw [fm_length] at this
        omega
    · have hq : decide ((n : Int) < (m : Int)) = false := by rw [decide_eq_false_iff_not]; omega
      have hq0 : decide (n < m) = false := by rw [decide_eq_false_iff_not]; omega
      have hle : m ≤ n := by omega
      have HSW := Lib.hid hsw
      clear hsw
      obtain ⟨s, hs⟩ : ∃ s, s = n + 1 := ⟨_, rfl⟩
      have rs : (n : Int) + 1 = (s : Int) := by omega
      have HS := Lib.hid hs
      have hs2 : s ≤ 129 := by omega
      have hns : n < s := by omega
      clear hs
      go_wp2_with (at_make; refine wpl_make64 rfl _ _ rfl w.heap.size _ _ _ _ s rfl rfl rfl rfl (by omega) (Nat.le_refl _) ?_)
      intro w1 hown hbl hsz
      obtain ⟨g, cur, hga, hx1, hBg, hblk, hx2, hx3, hsz2, hsg⟩ := own64.blk hown
      obtain rfl : w.heap.size = g := by simpa using hga
      have HBLK := Lib.hid hblk
      have HSZ2 := Lib.hid hsz2
      have HSG := Lib.hid hsg
      have HR1 := Lib.hid (hra'.below hbl)
      have HRS := Lib.hid hrb'
      have HBL := Lib.hid hbl
      clear hga hx1 hx2 hx3 hblk hsz2 hsg hown hbl hra' hrb' hsz
      go_wp2_with (with_reducible show wpList _ _ _ _ _ _; refine wpl_copy64 rfl _ _ rfl w.heap.size s s a' n c' rfl rfl cur HBLK.out X e1.out HR1.out (by omega) (by rw [HSZ2.out]; omega) w.heap.size w HBL.out (Nat.le_refl _) ?_)
      intro w2 hb2 hbl2
      have hXs : Sg (putL cur 0 X) 0 (X ++ [0]) := by
        have hl : (X ++ [0]).length = s := by rw [List.length_append, e1.out]; exact HS.out.symm
        have hps : (putL cur 0 X).size = cur.size := putL_size (by rw [e1.out, HSZ2.out]; omega)
        refine ⟨by rw [hl, hps, HSZ2.out]; omega, fun i hi => ?_⟩
        rw [hl] at hi
        by_cases hi2 : i < n
        · rw [putL_in (by rw [e1.out, HSZ2.out]; omega) (by rw [e1.out]; exact hi2), at0_append_left (by rw [e1.out]; exact hi2)]
        · have hie : i = X.length + 0 := by rw [e1.out]; omega
          rw [putL_out (by rw [e1.out, HSZ2.out]; omega) (.inr (by rw [e1.out]; omega)), HSG.out.2 i (by simp; exact hi)]
          rw [hie, at0_append_right]
          congr 3
          unfold at0 List.getD
          simp only [List.getElem?_replicate]
          split <;> rfl
      have HXS := Lib.hid hXs
      have HXS := Lib.hid hXs
      have HPS : Hid ((putL cur 0 X).size = s) := by show _ = _; rw [putL_size (by rw [e1.out, HSZ2.out]; omega)]; exact HSZ2.out
      have HR2 := Lib.hid (HRS.out.below hbl2)
      have HBL2 := Lib.hid hbl2
      have HL0 : Hid ((X ++ [0]).length = s) := by show _ = _; rw [List.length_append, e1.out]; exact HS.out.symm
      clear hXs hbl2 HR1 HBLK HBL HSG HRS
      go_wp2_with fail
      refine (raise_any w.heap.size 0 s s (putL cur 0 X) (X ++ [0]) b' m d' Y _ hb2.out HXS.out HL0.out (by omega) (b1.out.snoc (by decide)) HR2.out e2.out (by omega) b2.out (fun p hp => by have := holdb.out p hp; omega)).mono ?_
      rintro e w3 ⟨cy, zs, rfl, hzl, hzb, hcy, hv, hblk3, hchg⟩
      have hval : Hid (val zs = VX + VY) := by
        show _ = _
        rw [val_app0, V1.out, V2.out] at hv
        have k1 := val_lt b1.out
        have k2 := val_lt b2.out
        rw [e1.out, V1.out] at k1
        rw [e2.out, V2.out] at k2
        have k3 : 18446744073709551616 ^ m ≤ 18446744073709551616 ^ n := Nat.pow_le_pow_right (by decide) hle
        have k4 : 18446744073709551616 ^ s = 18446744073709551616 ^ n * 18446744073709551616 := by rw [HS.out, Nat.pow_succ]
        rcases Nat.eq_zero_or_pos cy with h0 | h0
        · rw [h0] at hv; omega
        · have k5 : 18446744073709551616 ^ s * 1 ≤ 18446744073709551616 ^ s * cy := Nat.mul_le_mul_left _ h0
          omega
      have hown3 := own64_of_blk (B := w.heap.size) (c := s) hblk3 (Nat.le_refl _) (by rw [hzl]; exact Nat.le_refl _) (by unfold maxLen; omega) (by rw [putL_size (by rw [hzl, HPS.out]; omega)]; exact HPS.out) (putL_sg (by rw [hzl, HPS.out]; omega))
      have HB3 := Lib.hid (HBL2.out.trans (hchg.below HBL2.out.size (fun k hk => by show w.heap.size ≤ k; omega)))
      rw [hzl] at hown3
      have HO3 := Lib.hid hown3
      have HZL := Lib.hid hzl
      have HZB := Lib.hid hzb
      clear hv hown3 hblk3 hchg hzl hzb HXS HPS HR2 HBL2 HL0 hcy
      go_wp2_with fail
      refine (one_any (some ⟨w.heap.size, 0, none⟩) s s zs _ HZL.out (by omega) (Nat.le_refl _) (own64.rd HO3.out).2).mono ?_
      rintro e w4 ⟨hor, rfl⟩
      have hnum := num_fm HZB.out
      rw [hval.out] at hnum
      rcases hor with ⟨h3, av', cv', rfl, g1, g2⟩ | ⟨h3, rfl⟩
      · have G1 := Lib.hid g1
        have G2 := Lib.hid g2
        have HNU := Lib.hid hnum
        clear g1 g2 hnum
        go_wp2
        go_ret2
        refine ⟨HB3.out, .inr ⟨⟨h1, h2⟩, ?_, _, fm zs, rfl, own64_take HO3.out (fl_spec zs).1 G1.out G2.out, HNU.out⟩⟩
        rw [← HNU.out.len_le, fm_length]; exact h3
      · have HNU := Lib.hid hnum
        clear hnum
        go_wp2
        go_ret2
        refine ⟨HB3.out, .inl ⟨fun h => ?_, rfl⟩⟩
        have := HNU.out.len_le.2 h.2
        rw [fm_length] at this
        omega
  · go_wp2
    go_ret2
    exact ⟨Below.refl _ _, .inl ⟨fun h => by omega, rfl⟩⟩

def SubQ (n m VX VY : Nat) (w : World) (e : Ending) (w' : World) : Prop :=
  Below w.heap.size w w' ∧
  (((128 < n ∨ 128 < m) ∧ e = .returned (.tuple #[.slice none 0 0, .int .i64 3])) ∨
   (n ≤ 128 ∧ m ≤ 128 ∧ VX < VY ∧ e = .returned (.tuple #[.slice none 0 0, .int .i64 10])) ∨
   (n ≤ 128 ∧ m ≤ 128 ∧ VY ≤ VX ∧ ∃ v zs, e = .returned (.tuple #[v, .int .i64 0]) ∧ own64 w' w.heap.size v zs ∧ Num zs (VX - VY)))
theorem cmpI_of_le {a b : Nat} (h : b ≤ a) : 0 ≤ cmpI a b ∧ cmpI a b ≠ -1 := by unfold cmpI; split <;> (try split) <;> constructor <;> first | omega | decide
set_option maxHeartbeats 400000 in
theorem lower_nil (w : World) :
    Calls Tryd.prog 71 #[.slice none 0 0, .slice none 0 0] w fun e w' => e = .returned (.tuple #[]) ∧ w' = w := by
  go_enter Tryd.func71, Tryd.ntmps71
  go_wp2
  refine wp_loop_rounds 1 ?_
  rw [rounds_succ]
  go_wp2
  refine wp_loop_rounds 1 ?_
  rw [rounds_succ]
  go_wp2
  go_end0
  exact ⟨rfl, rfl⟩

set_option exponentiation.threshold 10000 in
set_option maxHeartbeats 2000000 in
set_option maxRecDepth 100000 in
theorem sub_any (a b : Option Addr) (la lb ca cb : Nat) (xs ys : List Nat) (w : World) (hla : xs.length = la) (hlb : ys.length = lb) (hba : la ≤ 1048576) (hbb : lb ≤ 1048576) (hca : la ≤ ca) (hcb : lb ≤ cb) (hna : a = none → ca = 0)
    (hra : Rd .u64 w a xs) (hrb : Rd .u64 w b ys) (bx : Bd xs) (bY : Bd ys) :
    Calls Tryd.prog 26 #[.slice a la ca, .slice b lb cb] w (SubPost xs ys w) := by
  by_cases hlt : val xs < val ys
  · exact sub_below a b la lb ca cb xs ys w hla hlb hba hbb hca hcb hra hrb bx bY hlt
  have hge : Hid (val ys ≤ val xs) := by show _ ≤ _; omega
  clear hlt
  show Calls _ _ _ _ (SubQ (fl xs) (fl ys) (val xs) (val ys) w)
  have hfa := (fl_spec xs).1
  have hfb := (fl_spec ys).1
  go_enter Tryd.func26, Tryd.ntmps26
  go_wp2_with fail
  refine (both_any a b la lb ca cb xs ys _ hla hlb (by omega) (by omega) hca hcb hra hrb).mono ?_
  rintro e w1 ⟨hor, rfl⟩
  rcases hor with ⟨h1, h2, a', c', b', d', rfl, fa, fb⟩ | ⟨h1, rfl⟩
  · have hra' := fa.rd hra hfa
    have hrb' := fb.rd hrb hfb
    have hca' := (fa.cap hca (by omega)).1
    have hcb' := (fb.cap hcb (by omega)).1
    have holdb := Lib.hid (fb.old hrb hfb)
    have hna' : Hid (a' = none → c' = 0) := fun h => ((fa.cap hca (by omega)).2 h).elim id (fun h2 => by
      rcases Nat.eq_zero_or_pos (fl xs) with h0 | hp
      · exact (fa.2 h0).2
      · rw [(fa.1 hp).2]; exact hna h2)
    have V1 : Hid (val (xs.take (fl xs)) = val xs) := fm_val xs
    have V2 : Hid (val (ys.take (fl ys)) = val ys) := fm_val ys
    have e1 : Hid ((xs.take (fl xs)).length = fl xs) := fm_length xs
    have e2 : Hid ((ys.take (fl ys)).length = fl ys) := fm_length ys
    have n1 : Hid (Num (xs.take (fl xs)) (val xs)) := num_fm bx
    have n2 : Hid (Num (ys.take (fl ys)) (val ys)) := num_fm bY
    have fb0 : Hid (fl ys = 0 → b' = none ∧ d' = 0) := fb.2
    have hmn : fl ys ≤ fl xs := by
      have k1 := (n2.out.len_le (k := fl xs))
      have k2 := val_lt n1.out.bd
      rw [e1.out, V1.out] at k2
      have k3 := k1.2 (Nat.lt_of_le_of_lt hge.out k2)
      rw [e2.out] at k3
      exact k3
    clear fa fb hra hrb bx bY hna
    generalize xs.take (fl xs) = X at *
    generalize ys.take (fl ys) = Y at *
    generalize val xs = VX at *
    generalize val ys = VY at *
    generalize fl xs = n at *
    generalize fl ys = m at *
    go_wp2_with fail
    refine (cmp_any a' b' n m c' d' _ _ _ e1.out e2.out (by omega) (by omega) hca' hcb' hra' hrb' n1.out.bd n2.out.bd).mono ?_
    rintro e w1 ⟨rfl, nd, rfl⟩
    have hc := cmpI_of_le (show val Y ≤ val X by rw [V1.out, V2.out]; exact hge.out)
    have hc0 := hc.1
    generalize cmpI (val X) (val Y) = r at *
    have hq : decide (r < 0) = false := by rw [decide_eq_false_iff_not]; omega
    clear hc hc0
    have HRB := Lib.hid (show Rd .u64 (w.drewN nd) b' Y from hrb')
    clear hrb'
    go_wp2_with fail
    refine (copied_any a' n c' X _ e1.out (by omega) (fun _ h => hna'.out h) (show Rd .u64 (w.drewN nd) a' X from hra')).mono ?_
    rintro e w2 ⟨v, rfl, hown, hbl, hnil⟩
    have HB0 : Hid (Below w.heap.size w (w.drewN nd)) := Chg.below (Chg.drewM (Chg.refl (fun _ => False) _) nd) (Nat.le_refl _) (fun _ h => h.elim)
    have HSZ : Hid ((w.drewN nd).heap.size = w.heap.size) := rfl
    have HB2 : Hid (Below w.heap.size w w2) := HB0.out.trans (hbl.mono HB0.out.size)
    have HR2 := Lib.hid (HRB.out.below hbl)
    have HO := Lib.hid (owns_base hown HB0.out.size)
    clear hown hbl hra' HRB
    by_cases hn0 : n = 0
    · obtain rfl : n = 0 := hn0
      obtain rfl : m = 0 := by omega
      obtain ⟨rfl, rfl⟩ := fb0.out rfl
      obtain rfl := hnil rfl
      clear hnil
      go_wp2_with fail
      refine (lower_nil _).mono ?_
      rintro e w3 ⟨rfl, rfl⟩
      go_wp2_with fail
      refine (one_any none 0 0 [] _ rfl (by omega) (Nat.le_refl _) (Rd.nil _ _ _)).mono ?_
      rintro e w4 ⟨hor, rfl⟩
      rcases hor with ⟨h3, av', cv', rfl, g1, g2⟩ | ⟨h3, rfl⟩
      · obtain ⟨rfl, rfl⟩ := g2 rfl
        go_wp2
        go_ret2
        obtain rfl : X = [] := List.eq_nil_of_length_eq_zero e1.out
        obtain rfl : Y = [] := List.eq_nil_of_length_eq_zero e2.out
        have k1 := V1.out
        have k2 := V2.out
        refine ⟨HB2.out, .inr (.inr ⟨h1, h2, hge.out, .slice none 0 0, [], rfl, own64_nil _ _, ?_⟩)⟩
        simp only [val] at k1 k2
        rw [← k1, ← k2]
        exact Num.nil
      · exact absurd h3 (by decide)
    · obtain ⟨av, cv, rfl, hrv⟩ := own64.form HO.out
      have hroom := own64.room HO.out
      obtain ⟨ad, rfl⟩ : ∃ ad, av = some ad := by
        cases av with
        | none => have := hroom.2 rfl; have := hroom.1; have := e1.out; omega
        | some ad => exact ⟨ad, rfl⟩
      obtain ⟨g, cur, rfl, _, hBg, hblk, hnc, hcm, hsz2, hsg⟩ := own64.blk HO.out
      have HL := Lib.hid e1.out
      have HSG := Lib.hid hsg
      have HBLK := Lib.hid hblk
      have HSZ2 := Lib.hid hsz2
      clear hnil hrv hsg hblk hsz2 hroom
      go_wp2_with fail
      refine (lower_any g 0 X.length cv cur X b' m d' Y _ HBLK.out HSG.out rfl (by rw [HL.out]; omega) n1.out.bd HR2.out e2.out (by rw [HL.out]; exact hmn) n2.out.bd (fun p hp => by have := holdb.out p hp; omega) (by rw [V1.out, V2.out]; exact hge.out)).mono ?_
      rintro e w3 ⟨rfl, zs, hzl, hzb, hv, hblk3, hchg⟩
      rw [V1.out, V2.out] at hv
      have hfit : zs.length ≤ cv := by rw [hzl]; exact hnc
      have hown3 := own64_of_blk (B := w.heap.size) (c := cv) hblk3 hBg hfit hcm (by rw [putL_size (by rw [HSZ2.out]; omega)]; exact HSZ2.out) (putL_sg (by rw [HSZ2.out]; omega))
      have HB3 := Lib.hid (HB2.out.trans (hchg.below HB2.out.size (fun k hk => by show w.heap.size ≤ k; omega)))
      have HV := Lib.hid hv
      have HZB := Lib.hid hzb
      rw [hzl] at hown3
      have HO3 := Lib.hid hown3
      have HZL := Lib.hid hzl
      have hx129 : X.length ≤ 128 := by rw [HL.out]; exact h1
      clear hv hzb hown3 hblk3 hchg hzl hBg HO HBLK HSG HSZ2
      go_wp2_with fail
      refine (one_any (some ⟨g, 0, none⟩) X.length cv zs _ HZL.out (by omega) hnc (own64.rd HO3.out).2).mono ?_
      rintro e w4 ⟨hor, rfl⟩
      have hnum := num_fm HZB.out
      rw [HV.out] at hnum
      have hfz := (fl_spec zs).1
      rcases hor with ⟨h3, av', cv', rfl, g1, g2⟩ | ⟨h3, rfl⟩
      · have G1 := Lib.hid g1
        have G2 := Lib.hid g2
        have HNU := Lib.hid hnum
        clear g1 g2 hnum
        go_wp2
        go_ret2
        exact ⟨HB3.out, .inr (.inr ⟨h1, h2, hge.out, _, fm zs, rfl, own64_take HO3.out (fl_spec zs).1 G1.out G2.out, HNU.out⟩)⟩
      · have := HZL.out
        omega
  · go_wp2
    go_ret2
    exact ⟨Below.refl _ _, .inl ⟨by omega, rfl⟩⟩
end Go.Proofs.YteanpdiceaijhaaDoor
