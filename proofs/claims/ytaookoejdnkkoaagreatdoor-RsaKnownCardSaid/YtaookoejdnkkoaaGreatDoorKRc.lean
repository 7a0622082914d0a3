import Derived.Test.YtaookoejdnkkoaaGreatDoorKRa
import Derived.Test.YtaookoejdnkkoaaGreatDoorKRb
namespace Go.Proofs.YtaookoejdnkkoaaGreatDoor
open Go.RowKit

theorem own64_later {w w' : World} {B : Nat} {v : Value} {zs : List Nat} (h : own64 w B v zs) (hb : Below w.heap.size w w') : own64 w' B v zs := (Chg.of_below hb).owns h (fun k hk => by have := h.lt k hk; omega)
theorem over_step {Y D R x t R' : Nat} (hY : 0 < Y) (h : x + 4294967296 * R = t * Y + R') (hR : R' < Y) : (x + 4294967296 * (D * Y + R)) / Y = 4294967296 * D + t ∧ (x + 4294967296 * (D * Y + R)) % Y = R' := by
  have e : x + 4294967296 * (D * Y + R) = R' + Y * (4294967296 * D + t) := by
    rw [Nat.mul_add Y, Nat.mul_comm Y t, Nat.mul_left_comm Y, Nat.mul_comm Y D, Nat.mul_add]
    omega
  rw [e, Nat.add_mul_div_left _ _ hY, Nat.add_mul_mod_self_left, Nat.div_eq_of_lt hR, Nat.mod_eq_of_lt hR]
  exact ⟨by omega, rfl⟩
theorem over_top {hs gs : List Nat} {Y : Nat} (hg : Num32 gs Y) (hY : 0 < Y) (bh : Hd hs) : v32 (hs.drop (hs.length + 1 - gs.length)) < Y := by
  have h1 := v32_lt (show Hd (hs.drop (hs.length + 1 - gs.length)) from fun x hx => bh x (List.mem_of_mem_drop hx))
  rw [List.length_drop] at h1
  have h2 : ¬ Y < 4294967296 ^ (gs.length - 1) := fun h => by
    have h3 := (hg.len_le (k := gs.length - 1)).2 h
    have h4 : gs.length ≠ 0 := fun h => by
      have h5 := hg.vl
      rw [List.length_eq_zero_iff.1 h] at h5
      have : v32 ([] : List Nat) = 0 := rfl
      omega
    omega
  have h3 : (4294967296 : Nat) ^ (hs.length - (hs.length + 1 - gs.length)) ≤ 4294967296 ^ (gs.length - 1) := Nat.pow_le_pow_right (by decide) (by omega)
  omega

theorem below_dr (w : World) (m : Nat) : Below w.heap.size w (w.drewN m) := ⟨rfl, rfl, rfl, Nat.le_refl _, fun _ _ => rfl⟩
/-- What Over's loops hold: the rest, the quotient's digits in their block. -/
structure OvS (B2 B3 : Nat) (w2 : World) (lx : Nat) (v : Value) (rs qs : List Nat) (W : World) : Prop where
  r : own64 W B3 v rs
  q : own64 W B2 (.slice (some ⟨B2, 0, none⟩) lx lx) qs
  b : Below B2 w2 W
  s : B3 ≤ W.heap.size
  lt : B2 < B3
theorem OvS.later {B2 B3 : Nat} {w2 : World} {lx : Nat} {v : Value} {rs qs : List Nat} {W W' : World} (h : OvS B2 B3 w2 lx v rs qs W) (hb : Below W.heap.size W W') : OvS B2 B3 w2 lx v rs qs W' :=
  ⟨own64_later h.r hb, own64_later h.q hb, h.b.trans (hb.mono (by have := h.s; have := h.lt; omega)), Nat.le_trans h.s hb.size, h.lt⟩
theorem OvS.rest {B2 B3 : Nat} {w2 : World} {lx : Nat} {v : Value} {rs qs : List Nat} {W : World} (h : OvS B2 B3 w2 lx v rs qs W) {v' : Value} {rs' : List Nat} (hr : own64 W B3 v' rs') : OvS B2 B3 w2 lx v' rs' qs W :=
  ⟨hr, h.q, h.b, h.s, h.lt⟩
theorem OvS.setq {B2 B3 : Nat} {w2 : World} {lx : Nat} {v : Value} {rs qs : List Nat} {W : World} (h : OvS B2 B3 w2 lx v rs qs W) (j x : Nat) : OvS B2 B3 w2 lx v rs (qs.set j x) (W.setCell ⟨B2, j, none⟩ (.int .u64 (x : Nat))) := by
  have hc : Chg (fun k => k = B2) W (W.setCell ⟨B2, j, none⟩ (.int .u64 (x : Nat))) := (Chg.refl (fun k => k = B2) _).setCell (p := ⟨B2, j, none⟩) rfl _
  refine ⟨hc.owns h.r fun k hk he => ?_, h.q.set j x, h.b.setCell (p := ⟨B2, j, none⟩) (Nat.le_refl _) _, ?_, h.lt⟩
  · rcases h.r.2 with ⟨hv, _⟩ | ⟨g, cap, cur, hv, hg, _⟩
    · rw [hv] at hk; cases hk
    · rw [hv] at hk
      have : k = g := by simpa [Value.ownBlock] using hk.symm
      have := h.lt
      omega
  · have := h.s; simpa using this

set_option maxHeartbeats 1000000 in
set_option maxRecDepth 100000 in
theorem rover_any (a b : Option Addr) (la lb ca cb : Nat) (xs ys : List Nat) (w : World) (hla : xs.length = la) (hlb : ys.length = lb) (hba : la ≤ 1048576) (hbb : lb ≤ 1048576) (hra : Rd .u64 w a xs) (hrb : Rd .u64 w b ys) (bx : Bd xs) (bY : Bd ys) (h0 : 0 < val ys) :
    Calls Tryz.prog 172 #[.slice a la ca, .slice b lb cb] w fun e w' => ∃ q r qs rs, e = .returned (.tuple #[q, r]) ∧ own64 w' w.heap.size q qs ∧ own64 w' w.heap.size r rs ∧ Num qs (val xs / val ys) ∧ Num rs (val xs % val ys) ∧ Below w.heap.size w w' := by
  have H0 := Lib.hid h0
  clear h0
  go_enter Tryz.func172, Tryz.ntmps172
  go_wp2_with fail
  refine (halves_any a la ca xs _ hla hba hra bx).mono ?_
  rintro e w1 ⟨v, hs, rfl, hown, hnum, hb1⟩
  have hrb1 := hrb.below hb1
  have hl1 : hs.length ≤ 2 * la := by
    have h2 := val_lt bx
    rw [hla, ← pow_pair] at h2
    exact (hnum.len_le (k := 2 * la)).2 h2
  obtain ⟨a1, c1, rfl, hr1⟩ := own64.form hown
  have HN1 := Lib.hid hnum
  have HB1 := Lib.hid hb1
  have HO1 := Lib.hid hown
  clear hown hnum hb1 hr1 hrb hra
  go_wp2_with fail
  refine (halves_any b lb cb ys _ hlb hbb hrb1 bY).mono ?_
  rintro e w2 ⟨v, gs, rfl, hown, hnum, hb2⟩
  have hl2 : gs.length ≤ 2 * lb := by
    have h2 := val_lt bY
    rw [hlb, ← pow_pair] at h2
    exact (hnum.len_le (k := 2 * lb)).2 h2
  obtain ⟨b1, d1, rfl, hr2⟩ := own64.form hown
  have HN2 := Lib.hid hnum
  have HO1' := own64_later HO1.out hb2
  have hroom1 := own64.room HO1'
  have hform : (a1 = none ∧ c1 = 0) ∨ ∃ g, a1 = some ⟨g, 0, none⟩ := by
    rcases HO1'.2 with ⟨hv, _⟩ | ⟨g, cap, cur, hv, _⟩
    · simp only [Value.slice.injEq] at hv; exact .inl ⟨hv.1, hv.2.2⟩
    · simp only [Value.slice.injEq] at hv; exact .inr ⟨g, hv.1⟩
  have HR1 := Lib.hid (own64.rd HO1').2
  have HR2 := Lib.hid hr2
  have HB2 := Lib.hid (HB1.out.trans (hb2.mono HB1.out.size))
  clear hown hnum hb2 hrb1 HB1 HO1 HO1' hr2
  have htop := over_top HN2.out H0.out HN1.out.bd
  have hly0 : gs.length ≠ 0 := fun h => by
    have h5 := HN2.out.vl
    have h6 := H0.out
    rw [List.length_eq_zero_iff.1 h] at h5
    have : v32 ([] : List Nat) = 0 := rfl
    omega
  obtain ⟨lx, hlx⟩ : ∃ lx, lx = hs.length := ⟨_, rfl⟩
  obtain ⟨ly, hly⟩ : ∃ ly, ly = gs.length := ⟨_, rfl⟩
  rw [← hlx, ← hly]
  rw [← hlx, ← hly] at htop
  rw [← hlx] at hroom1
  obtain ⟨T, hT⟩ : ∃ T, T = lx + 1 - ly := ⟨_, rfl⟩
  rw [← hT] at htop
  have rT : max (0 : Int) ((lx : Int) - (ly : Int) + 1) = (T : Int) := by omega
  have hTl : T ≤ lx := by omega
  have hlxb : lx ≤ 2097152 := by omega
  have hlyb : ly ≤ 2097152 := by omega
  have HTOP := Lib.hid htop
  have HLX := Lib.hid hlx
  have HLY := Lib.hid hly
  have HTT := Lib.hid hT
  have hcx := hroom1.1
  have HNX := Lib.hid hroom1.2
  clear hlx hly hT htop hroom1 hly0 hl1 hl2
  go_wp2_with (at_make; refine wpl_make64 rfl _ _ rfl w2.heap.size _ _ _ _ lx rfl rfl rfl rfl (by omega) (Nat.le_refl _) ?_)
  intro w3 hown hbl hsz
  have HO := Lib.hid hown
  have HBL3 := Lib.hid hbl
  have HR1' := Lib.hid (HR1.out.below hbl)
  have HR2' := Lib.hid (HR2.out.below hbl)
  clear hown hbl
  go_upto_region 5 with fail
  go_cut [10] (fun s10 wx => Hid (own64 wx w3.heap.size s10 (hs.drop T)) ∧ Hid (Below w3.heap.size w3 wx))
  case first =>
    by_cases hcT : c1 = T
    · subst hcT
      have hTx : lx - c1 = 0 := by omega
      have HD : Hid (hs.drop c1 = []) := List.drop_of_length_le (by have := HLX.out; omega)
      go_wp2_with (at_builtin; refine wpl_appN 23 47 Tryz.underlying23 info64 rfl (by decide) rfl _ _ rfl w3.heap.size (.slice none 0 0) 0 [] rfl (World.ownsRow_nil _ _ _ _) a1 0 0 rfl [] rfl (fun h => absurd h (by decide)) (fun _ _ => rfl) (fun u hu => by cases hu) (by omega) (Nat.le_refl _) ?_)
      intro v' w4 hown hg hk hn
      have HO4 : Hid (own64 w4 w3.heap.size v' (hs.drop c1)) := by show own64 _ _ _ _; rw [HD.out]; exact hown
      have HB4 := Lib.hid ((Below.refl w3.heap.size w3).grown hg (Nat.le_refl _) (fun k hk => by cases hk))
      clear hown hg hk hn
      go_wp2_with fail
      go_meet
      exact ⟨HO4, HB4⟩
    · obtain ⟨g, rfl⟩ : ∃ g, a1 = some ⟨g, 0, none⟩ := by
        rcases hform with ⟨_, h⟩ | h
        · omega
        · exact h
      clear hform
      have HDL : Hid ((hs.drop T).length = lx - T) := by show _ = _; rw [List.length_drop, ← HLX.out]
      have HRD : Hid (Rd .u64 w3 (some ⟨g, T, none⟩) (hs.drop T)) := by
        intro j hj
        have hj2 : T + j < hs.length := by rw [List.length_drop] at hj; omega
        obtain ⟨b, off, he, hc⟩ := HR1'.out (T + j) hj2
        obtain ⟨rfl, rfl⟩ : b = g ∧ off = 0 := by simp at he; exact ⟨he.1.symm, he.2.symm⟩
        refine ⟨_, _, rfl, fun i hi => ?_⟩
        have h2 := hc (T + i) (by rw [List.length_drop] at hi; omega)
        rw [Nat.zero_add] at h2
        rw [h2]
        simp [List.getD, List.getElem?_drop]
      go_wp2_with (at_builtin; refine wpl_appN 23 47 Tryz.underlying23 info64 rfl (by decide) rfl _ _ rfl w3.heap.size (.slice none 0 0) 0 [] rfl (World.ownsRow_nil _ _ _ _) (some ⟨g, T, none⟩) (lx - T) (c1 - T) rfl (u64s (hs.drop T)) (by rw [u64s_len]; exact HDL.out) (by rw [← HDL.out]; exact HRD.out.news) (fun _ h => by cases h) (by intro u hu; obtain ⟨x, _, rfl⟩ := List.mem_map.1 hu; rfl) (by omega) (Nat.le_refl _) ?_)
      intro v' w4 hown hg hk hn
      have HO4 : Hid (own64 w4 w3.heap.size v' (hs.drop T)) := by
        show own64 _ _ _ _
        unfold own64
        rw [HDL.out]
        exact hown
      have HB4 := Lib.hid ((Below.refl w3.heap.size w3).grown hg (Nat.le_refl _) (fun k hk => by cases hk))
      clear hown hg hk hn
      go_wp2_with fail
      go_meet
      exact ⟨HO4, HB4⟩
  case rest =>
    obtain ⟨HO4, HB4⟩ := hcut
    clear hform
    have hdsl : (hs.drop T).length ≤ 2097152 := by rw [List.length_drop]; have := HLX.out; omega
    have HDR : Hid (Hd (hs.drop T)) := fun x hx => HN1.out.bd x (List.mem_of_mem_drop hx)
    generalize hds : hs.drop T = ds at *
    have HDS := Lib.hid hds
    clear hds
    obtain ⟨ar, cr, hvr, hrr⟩ := own64.form HO4.out
    subst hvr
    have hroomr := own64.room HO4.out
    obtain ⟨dl, hdl⟩ : ∃ dl, ds.length = dl := ⟨_, rfl⟩
    rw [hdl] at hdsl hroomr HO4 ⊢
    have HDL := Lib.hid hdl
    have HRR := Lib.hid hroomr
    have HNR : Hid (Num32 (fm ds) (v32 ds)) := num32_fm HDR.out
    have HRD := Lib.hid hrr
    clear hroomr hdl hrr
    go_wp2_with fail
    refine (strip_any ar dl cr ds _ HDL.out (by omega) HRR.out.1 HRR.out.2 HRD.out).mono ?_
    rintro e w5 ⟨rfl, rfl⟩
    have HO5 : Hid (own64 wc w3.heap.size (.slice ar (fl ds) cr) (fm ds)) := own64_pre (HDL.out ▸ HO4.out) (fl_spec ds).1
    clear HRR HRD
    have HY : Hid (∃ Y, val ys = Y) := ⟨_, rfl⟩
    have HS0 : Hid (OvS w2.heap.size w3.heap.size w2 lx (.slice ar (fl ds) cr) (fm ds) (List.replicate lx 0) wc) := ⟨HO5.out, own64_later HO.out HB4.out, HBL3.out.trans (HB4.out.mono (by omega)), HB4.out.size, hsz⟩
    clear HO5 HO HB4 HO4 HY
    go_wp2
    go_loopw [10, 11] (fun v i wr => ∃ (j : Nat) (rs qs : List Nat), j ≤ T ∧ i = .int .i64 ((j : Int) - 1) ∧ Hid (OvS w2.heap.size w3.heap.size w2 lx v rs qs wr) ∧ Hid (Num32 rs (v32 (hs.drop j) % val ys)) ∧ Hid (Hd qs) ∧ Hid (v32 qs = 4294967296 ^ j * (v32 (hs.drop j) / val ys)) ∧ Hid (∀ k, k < j → at0 qs k = 0)) (fun _ i _ => (intOf i + 1).toNat)
    case atStart =>
      refine ⟨T, fm ds, List.replicate lx 0, Nat.le_refl _, by first | rfl | go_num, HS0, ?_, fun x hx => by rw [List.eq_of_mem_replicate hx]; decide, ?_, fun k _ => ?_⟩
      · show Num32 _ _
        rw [HDS.out, Nat.mod_eq_of_lt HTOP.out]; exact HNR.out
      · show _ = _
        rw [v32_replicate, HDS.out, Nat.div_eq_of_lt HTOP.out, Nat.mul_zero]
      · unfold at0 List.getD
        by_cases hj : k < lx
        · simp [hj]
        · simp [hj]
    case round =>
      clear HS0 HNR HTOP HDS HDL HDR hsz
      obtain ⟨j, rs, qs, hj, rfl, HS, HN, HB, HV, HZ⟩ := hrel
      rcases Nat.eq_zero_or_pos j with rfl | hj0
      · -- the end
        rw [List.drop_zero, HN1.out.vl] at HN HV
        rw [Nat.pow_zero, Nat.one_mul] at HV
        obtain ⟨a5, c5, hv5, hr5⟩ := own64.form HS.out.r
        subst hv5
        have hqd := own64.rd HS.out.q
        have HQD := Lib.hid hqd.2
        have HQL := Lib.hid hqd.1
        have HR5 := Lib.hid hr5
        have HNQ := Lib.hid (num32_fm HB.out)
        have hfq : fl qs ≤ lx := by have := (fl_spec qs).1; rw [hqd.1]; exact this
        have hrl : rs.length ≤ 2097152 := by
          have h1 := (HN2.out.len_le (k := ly)).1 (by rw [HLY.out]; exact Nat.le_refl _)
          have h2 := Nat.mod_lt (val xs) H0.out
          have h3 := (HN.out.len_le (k := ly)).2 (by omega)
          omega
        clear hr5 hqd
        go_wp2_with fail
        refine (strip_any (some ⟨w2.heap.size, 0, none⟩) lx lx qs _ HQL.out.symm (by omega) (Nat.le_refl _) (fun h => by cases h) HQD.out).mono ?_
        rintro e w6 ⟨rfl, rfl⟩
        go_wp2_with fail
        refine (limbs_any (some ⟨w2.heap.size, 0, none⟩) (fl qs) lx (fm qs) _ (fm_length qs) (by omega) (HQD.out.take _) (fm_hd HB.out)).mono ?_
        rintro e w6 ⟨v6, z6, rfl, hO6, hN6, hb6⟩
        have HS6 := Lib.hid (HS.out.later hb6)
        have HO6 := Lib.hid hO6
        have HN6 := Lib.hid hN6
        have HR6 := Lib.hid (HR5.out.below hb6)
        have HB6 := Lib.hid hb6
        clear hO6 hN6 hb6 HR5 HQD
        obtain ⟨rl, hrl2⟩ : ∃ rl, rs.length = rl := ⟨_, rfl⟩
        rw [hrl2] at hrl HS HS6 ⊢
        have HRL := Lib.hid hrl2
        clear hrl2
        go_wp2_with fail
        refine (limbs_any a5 rl c5 rs _ HRL.out (by omega) HR6.out HN.out.bd).mono ?_
        rintro e w7 ⟨v7, z7, rfl, hO7, hN7, hb7⟩
        have HO7 := Lib.hid hO7
        have HN7 := Lib.hid hN7
        have HB7 := Lib.hid hb7
        clear hO7 hN7 hb7
        go_wp2
        go_ret2
        have s1 := HB2.out.size
        have s2 := HS.out.s
        have s3 := HS.out.lt
        have s6 := HB6.out.size
        refine ⟨v6, v7, z6, z7, rfl, owns_base (own64_later HO6.out HB7.out) (by omega), owns_base HO7.out (by omega), ?_, ?_, ?_⟩
        · have h := HN6.out
          rw [fm_v32, HV.out] at h; exact h
        · have h := HN7.out
          rw [HN.out.vl] at h; exact h
        · exact HB2.out.trans ((HS.out.b.mono s1).trans ((HB6.out.mono (by omega)).trans (HB7.out.mono (by omega))))
      · obtain ⟨m, rfl⟩ : ∃ m, j = m + 1 := ⟨j - 1, by omega⟩
        have hml : m < hs.length := by have := HLX.out; omega
        have hmi : ((m + 1 : Nat) : Int) - 1 = (m : Int) := by omega
        rw [hmi]
        have hge : decide ((0 : Int) ≤ (m : Int)) = true := by simp
        have HRX := Lib.hid (HR1.out.below HS.out.b)
        have HRY := Lib.hid (HR2.out.below HS.out.b)
        obtain ⟨ba, oa, rfl⟩ := HRX.out.isAt (by omega)
        have hc1 := HRX.out.cell hml
        have hx32 := HN1.out.bd.at0 m
        have HDV : Hid (v32 (hs.drop m) = at0 hs m + 4294967296 * v32 (hs.drop (m + 1))) := drop_v32 hml
        generalize hx : at0 hs m = x at *
        have HX := Lib.hid hx
        clear hx
        have hnil : ∀ W : World, W.ownsRow w3.heap.size 47 1 (.slice none 0 0) 0 [] := fun W => World.ownsRow_nil _ _ _ _
        have hs3 := HS.out.s
        go_wp2_with (at_builtin; refine wpl_app 23 47 Tryz.underlying23 info64 rfl (by decide) rfl _ _ rfl w3.heap.size (.slice none 0 0) 0 [] rfl (hnil _) wr.heap.size _ rfl (World.cell?_alloc_at _ _ _ _ rfl) rfl (by omega) (by simp; omega) ?_)
        intro g cap' w4 hown1 hg1 hBg hgl hgo
        have hgw : wr.heap.size ≤ g := by
          rcases hgo.out with h | h
          · cases h
          · rw [h]; simp
        have hbl4 : Below wr.heap.size wr w4 := ((Below.refl wr.heap.size wr).alloc (Nat.le_refl _) _).grown hg1 (by simp) (fun j hj => by cases hj)
        have HO4 : Hid (own64 w4 w3.heap.size (.slice (some ⟨g, 0, none⟩) 1 cap') [x]) := hown1
        have HB4 := Lib.hid hbl4
        have HS4 := Lib.hid (HS.out.later hbl4)
        have HRX4 := Lib.hid (HRX.out.below hbl4)
        have HRY4 := Lib.hid (HRY.out.below hbl4)
        clear hown1 hg1 hBg hgl hgo hbl4 hc1 HRX HRY
        obtain ⟨a5, c5, hv5, hr5⟩ := own64.form HS4.out.r
        subst hv5
        have hroom5 := own64.room HS4.out.r
        have hrl : rs.length ≤ 2097152 := by
          have h1 := (HN2.out.len_le (k := ly)).1 (by rw [HLY.out]; exact Nat.le_refl _)
          have h2 := Nat.mod_lt (v32 (hs.drop (m + 1))) H0.out
          have h3 := (HN.out.len_le (k := ly)).2 (by omega)
          omega
        obtain ⟨rl, hrl2⟩ : ∃ rl, rs.length = rl := ⟨_, rfl⟩
        rw [hrl2] at hrl HS HS4 hroom5 ⊢
        have HRL := Lib.hid hrl2
        have HRM := Lib.hid hroom5
        have HR5 := Lib.hid hr5
        have hs4 := HS4.out.s
        clear hrl2 hroom5 hr5
        go_wp2_with (at_builtin; refine wpl_appN 23 47 Tryz.underlying23 info64 rfl (by decide) rfl _ _ rfl w3.heap.size (.slice (some ⟨g, 0, none⟩) 1 cap') 1 (u64s [x]) rfl HO4.out a5 rl c5 rfl (u64s rs) (by rw [u64s_len]; exact HRL.out) (by rw [← HRL.out]; exact HR5.out.news) (fun _ h => HRM.out.2 h) (by intro u hu; obtain ⟨x, _, rfl⟩ := List.mem_map.1 hu; rfl) (by omega) (by omega) ?_)
        intro v5 w5 hown2 hg2 hk2 hn2
        have hb5 : Below wr.heap.size wr w5 := HB4.out.grown hg2 HB4.out.size (fun j hj => by
          have : j = g := by simpa [Value.ownBlock] using hj.symm
          omega)
        have HO5 : Hid (own64 w5 w3.heap.size v5 (x :: rs)) := by
          show own64 _ _ _ _
          unfold own64
          rw [List.length_cons, HRL.out, Nat.add_comm rl 1]
          exact hown2
        have HS5 := Lib.hid (HS.out.later hb5)
        have HRY5 := Lib.hid (HR2.out.below HS5.out.b)
        have HRX5 := Lib.hid (HR1.out.below HS5.out.b)
        clear hown2 hg2 hk2 hn2 hb5 HS4 HRX4 HRY4 HR5 HRM HO4 HB4 hs4 hs3
        obtain ⟨a6, c6, hv6, hr6⟩ := own64.form HO5.out
        subst hv6
        have hroom6 := own64.room HO5.out
        have hlen6 : (x :: rs).length = rl + 1 := by rw [List.length_cons, HRL.out]
        have HD6 : Hid (Hd (x :: rs)) := fun y hy => by
          rcases List.mem_cons.1 hy with rfl | hy
          · exact hx32
          · exact HN.out.bd y hy
        rw [hlen6] at hroom6 HO5 ⊢
        have HL6 := Lib.hid hlen6
        have HRM6 := Lib.hid hroom6
        have HR6 := Lib.hid hr6
        obtain ⟨U, hU⟩ : ∃ U, v32 (hs.drop (m + 1)) = U := ⟨_, rfl⟩
        rw [hU] at HN HV HDV
        have HNr : Hid (Num32 (fm (x :: rs)) (x + 4294967296 * (U % val ys))) := by
          have h := num32_fm HD6.out
          rw [v32_cons, HN.out.vl] at h; exact h
        clear hroom6 hlen6 hr6 hU
        go_wp2_with fail
        refine (strip_any a6 (rl + 1) c6 (x :: rs) _ HL6.out (by omega) HRM6.out.1 HRM6.out.2 HR6.out).mono ?_
        rintro e w6 ⟨rfl, rfl⟩
        have HS6 : Hid (OvS w2.heap.size w3.heap.size w2 lx (.slice a6 (fl (x :: rs)) c6) (fm (x :: rs)) qs w5) := HS5.out.rest (own64_pre (HL6.out ▸ HO5.out) (fl_spec _).1)
        have HRB : Hid (x + 4294967296 * (U % val ys) < val ys * 4294967296) := by
          show _ < _
          have := Nat.mod_lt U H0.out
          omega
        clear HRM6 HR6 HL6 HO5 HS5 HD6 HRL HRX5 HRY5 HN HS hx32
        go_wp2
        go_loopg [10] (x + 4294967296 * (U % val ys)) (fun gk v wr => ∃ (t R' : Nat) (rs' qs' : List Nat), R' ≤ gk ∧ t < 4294967296 ∧ Hid (OvS w2.heap.size w3.heap.size w2 lx v rs' qs' wr) ∧ Hid (Num32 rs' R') ∧ Hid (x + 4294967296 * (U % val ys) = t * val ys + R') ∧ Hid (Hd qs') ∧ Hid (v32 qs' = 4294967296 ^ m * (4294967296 * (U / val ys) + t)) ∧ Hid (at0 qs' m = t) ∧ Hid (∀ k, k < m → at0 qs' k = 0))
        case atStart =>
          refine ⟨0, _, _, qs, Nat.le_refl _, by decide, HS6, HNr, by show _ = _; omega, HB, ?_, HZ.out m (by omega), fun k hk => HZ.out k (by omega)⟩
          show _ = _
          rw [HV.out, Nat.pow_succ, Nat.mul_assoc, Nat.add_zero]
        case round =>
          clear HS6 HNr HB HV HZ
          obtain ⟨t, R', rs', qs', hgk, ht, HS, HN, HE, HB, HV, HT, HZ⟩ := hrel
          obtain ⟨a7, c7, hv7, hr7⟩ := own64.form HS.out.r
          subst hv7
          have hRB : R' < val ys * 4294967296 := by have := HRB.out; have := HE.out; omega
          have hrl7 : rs'.length ≤ 2097153 := by
            have h1 := (HN2.out.len_le (k := ly)).1 (by rw [HLY.out]; exact Nat.le_refl _)
            have h3 := (HN.out.len_le (k := ly + 1)).2 (by rw [Nat.pow_succ]; exact Nat.lt_trans hRB (Nat.mul_lt_mul_of_pos_right h1 (by decide)))
            omega
          obtain ⟨r7, hr72⟩ : ∃ r7, rs'.length = r7 := ⟨_, rfl⟩
          rw [hr72] at hrl7 HS ⊢
          have HL7 := Lib.hid hr72
          have HR7 := Lib.hid hr7
          have HRB7 := Lib.hid hRB
          have HRY := Lib.hid (HR2.out.below HS.out.b)
          clear hr72 hr7 hRB
          go_wp2_with fail
          refine (rcompare_any a7 b1 r7 ly c7 d1 R' (val ys) rs' gs _ HL7.out HLY.out.symm (by omega) (by omega) HR7.out HRY.out HN.out HN2.out).mono ?_
          rintro e w8 ⟨rfl, nd, rfl⟩
          have HS8 := Lib.hid (HS.out.later (below_dr wr nd))
          have HR8 := Lib.hid (HR7.out.below (below_dr wr nd))
          have HRY8 := Lib.hid (HRY.out.below (below_dr wr nd))
          clear HS HR7 HRY
          generalize wr.drewN nd = w8 at *
          by_cases hlt : R' < val ys
          · rw [cmpI_of_lt hlt]
            have HST := Lib.hid (over_step (D := U / val ys) H0.out HE.out hlt)
            clear hlt
            go_wp2
            go_roundw
            case rel =>
              have e1 : U / val ys * val ys + U % val ys = U := by rw [Nat.mul_comm]; exact Nat.div_add_mod _ _
              have h := HST.out
              rw [e1, ← HDV.out] at h
              refine ⟨m, rs', qs', by omega, by first | rfl | go_num, HS8.out, ?_, HB, ?_, HZ.out⟩
              · show Num32 _ _
                rw [h.2]; exact HN.out
              · show _ = _
                rw [h.1]; exact HV.out
            case measure => first | (simp [intOf]; done) | (simp [intOf]; omega)
          · have hcl := (cmpI_of_le (show val ys ≤ R' by omega)).1
            generalize cmpI R' (val ys) = cv at *
            have hq : decide ((0 : Int) ≤ cv) = true := by rw [decide_eq_true_iff]; exact hcl
            have HGE : Hid (val ys ≤ R') := by show _ ≤ _; omega
            clear hlt
            go_wp2_with fail
            refine (rsurely_any a7 b1 r7 ly c7 d1 R' (val ys) rs' gs _ HL7.out HLY.out.symm (by omega) (by omega) HR8.out HRY8.out HN.out HN2.out H0.out HGE.out HRB7.out).mono ?_
            rintro e w9 ⟨s, rfl, hs1, hs2, hs3, rfl⟩
            have HS3 := Lib.hid hs3
            clear hs3
            go_wp2_with fail
            refine (rlittle_any b1 ly d1 (val ys) s gs _ HLY.out.symm (by omega) HRY8.out HN2.out hs2).mono ?_
            rintro e w9 ⟨v9, z9, rfl, hO9, hN9, hb9⟩
            obtain ⟨a9, c9, hv9, hr9⟩ := own64.form hO9
            subst hv9
            have hz9 : z9.length ≤ 2097154 := by
              have h1 := (HN2.out.len_le (k := ly)).1 (by rw [HLY.out]; exact Nat.le_refl _)
              have h3 := (hN9.len_le (k := ly + 1)).2 (by
                rw [Nat.pow_succ]
                exact Nat.lt_of_le_of_lt (Nat.mul_le_mul_left _ (Nat.le_of_lt hs2)) (Nat.mul_lt_mul_of_pos_right h1 (by decide)))
              omega
            obtain ⟨l9, hl9⟩ : ∃ l9, z9.length = l9 := ⟨_, rfl⟩
            rw [hl9] at hz9 ⊢
            have HL9 := Lib.hid hl9
            have HN9 := Lib.hid hN9
            have HR9 := Lib.hid hr9
            have HSb := Lib.hid (HS8.out.later hb9)
            have HRb := Lib.hid (HR8.out.below hb9)
            clear hl9 hN9 hr9 hO9 hb9 HS8 HR8 HRY8
            go_wp2_with fail
            refine (rminus_any a7 a9 r7 l9 c7 c9 R' (val ys * s) rs' z9 _ HL7.out HL9.out (by omega) (by omega) HRb.out HR9.out HN.out HN9.out (by rw [Nat.mul_comm]; exact HS3.out)).mono ?_
            rintro e w10 ⟨v10, z10, rfl, hO10, hN10, hb10⟩
            have HSc := HSb.out.later hb10
            have hs3 := HSb.out.s
            have HSd := Lib.hid (HSc.rest (owns_base hO10 hs3))
            have HN10 := Lib.hid hN10
            have hqd := own64.rd HSc.q
            have hmlx : m < lx := by omega
            have hc := HSc.q.cell (j := m) (by rw [← hqd.1]; exact hmlx)
            have hf := HSc.q.free m
            rw [HT.out] at hc
            have rw1 : IntKind.u64.wrap ((t : Int) + (s : Int)) = (t : Int) + (s : Int) := by rw [IntKind.wrap_u64]; omega
            have HQL := Lib.hid hqd.1
            clear hqd HSc hO10 hN10 hb10 HSb HRb HR9
            go_wp2
            have hY0 := H0.out
            go_roundg (R' - val ys * s)
            case measure =>
              have h1 : 0 < val ys * s := Nat.mul_pos hY0 (by omega)
              have h2 : val ys * s ≤ R' := by rw [Nat.mul_comm]; exact HS3.out
              omega
            case rel =>
              have h2 : val ys * s ≤ R' := by rw [Nat.mul_comm]; exact HS3.out
              have hE : x + 4294967296 * (U % val ys) = (t + s) * val ys + (R' - val ys * s) := by
                have := HE.out
                rw [Nat.add_mul, Nat.mul_comm s]
                omega
              have hts : t + s < 4294967296 := by
                apply Decidable.byContradiction
                intro hn
                have h3 : 4294967296 * val ys ≤ (t + s) * val ys := Nat.mul_le_mul_right _ (by omega)
                have := HRB.out
                rw [Nat.mul_comm (val ys)] at this
                omega
              have hset := set_v32 (ws := qs') (q := m) (y := t + s) (by rw [← HQL.out]; exact hmlx)
              rw [HT.out, HV.out] at hset
              refine ⟨t + s, R' - val ys * s, z10, qs'.set m (t + s), Nat.le_refl _, hts, ?_, HN10, hE, HB.out.set hts, ?_, ?_, fun k hk => ?_⟩
              · have h5 := HSd.out.setq m (t + s)
                show OvS _ _ _ _ _ _ _ _
                rw [Int.natCast_add] at h5
                exact h5
              · show _ = _
                rw [Nat.mul_add, Nat.mul_add] at hset
                rw [Nat.mul_add, Nat.mul_add]
                omega
              · show _ = _
                rw [at0_set (by rw [← HQL.out]; exact hmlx), if_pos rfl]
              · rw [at0_set (by rw [← HQL.out]; exact hmlx), if_neg (by omega)]
                exact HZ.out k hk

end Go.Proofs.YtaookoejdnkkoaaGreatDoor
