import Derived.Test.YthccccpcjafdcaaDoorHalves
import Derived.Test.YthccccpcjafdcaaDoorGC
import Derived.Test.YthccccpcjafdcaaDoorBkW
namespace Go.Proofs.YthccccpcjafdcaaDoor
open Go.RowKit

theorem txt_cat (p j n : Nat) : txt (p + j) n = txt j (n / 10 ^ p) ++ txt p n := by
  induction j with
  | zero => simp [txt, digs_zero]
  | succ j ih => rw [Nat.add_succ, txt_succ, ih, txt_succ, Nat.div_div_eq_div_mul, ← Nat.pow_add]; rfl
theorem txt_mod (j m n : Nat) (h : j ≤ m) : txt j (n % 10 ^ m) = txt j n := by
  induction j with
  | zero => simp [txt, digs_zero]
  | succ j ih =>
    rw [txt_succ, txt_succ, ih (by omega)]
    have e : 10 ^ m = 10 ^ j * 10 ^ (m - j) := by rw [← Nat.pow_add]; congr 1; omega
    rw [e, Nat.mod_mul_right_div_self, Nat.mod_mod_of_dvd _ (Nat.dvd_of_pow_dvd (by omega : 1 ≤ m - j) (Nat.dvd_refl _))]
theorem isDec_txt (p N : Nat) (h0 : 0 < p) (h1 : 10 ^ (p - 1) ≤ N) (h2 : N < 10 ^ p) : IsDec (txt p N) N := by
  refine ⟨txt_dig p N, by rw [txt_val]; exact Nat.mod_eq_of_lt h2, fun h => ?_, fun _ => ?_⟩
  · have := txt_len p N
    rw [h] at this
    simp at this
    omega
  · obtain ⟨q, rfl⟩ : ∃ q, p = q + 1 := ⟨p - 1, by omega⟩
    rw [Nat.add_sub_cancel] at h1
    rw [txt_succ]
    have hp : 0 < 10 ^ q := Nat.pow_pos (by decide)
    have a1 : 1 ≤ N / 10 ^ q := (Nat.le_div_iff_mul_le hp).2 (by omega)
    have a2 : N / 10 ^ q < 10 := (Nat.div_lt_iff_lt_mul hp).2 (by rw [Nat.mul_comm, ← Nat.pow_succ]; exact h2)
    have a3 : N / 10 ^ q % 10 = N / 10 ^ q := Nat.mod_eq_of_lt a2
    rw [a3]
    intro h
    have h3 : UInt8.ofNat (48 + N / 10 ^ q) = 48 := by simpa using h
    have h4 := dig_nat (N / 10 ^ q) a2
    rw [h3] at h4
    have : (48 : UInt8).toNat = 48 := rfl
    omega
theorem or_high (y x : Nat) (hx : x < 4294967296) (hy : y < 4294967296) : bits BinOp.or IntKind.u64 ((x * 4294967296 : Nat) : Int) (y : Int) = ((x * 4294967296 + y : Nat) : Int) := by
  have h := (or_low y x 32 (by decide) hy).1
  have e : x * 2 ^ 32 % 18446744073709551616 = x * 4294967296 := Nat.mod_eq_of_lt (by omega)
  rw [e] at h
  rw [Nat.add_comm (x * 4294967296), ← h]
  simp [bits]
  rw [Nat.or_comm]
theorem div_step {d h r x q m R : Nat} (hx : x = r * 4294967296 + h) (hd : d * 1000000000 + r = R) (hq : q * 1000000000 + m = x) : (q + 4294967296 * d) * 1000000000 + m = h + 4294967296 * R := by
  have e : (q + 4294967296 * d) * 1000000000 = q * 1000000000 + 4294967296 * (d * 1000000000) := by rw [Nat.add_mul, Nat.mul_assoc]
  rw [e, ← hd, Nat.mul_add, Nat.add_right_comm, hq, hx, Nat.mul_comm r]
  generalize 4294967296 * r = u
  generalize 4294967296 * (d * 1000000000) = v
  omega
theorem own64.under3 {w w' : World} {B : Nat} {v : Value} {zs : List Nat} (h : own64 w B v zs) (hb : Below w.heap.size w w') : own64 w' B v zs :=
  ((Chg.of_below hb).owns h fun k hk he => by have := (World.ownsRow.lt h k hk).2; omega)
/-- What Digits answers. -/
def DigitsPost (N : Nat) (w : World) (e : Ending) (w' : World) : Prop := Below w.heap.size w w' ∧ ∃ l, IsDec l N ∧ e = .returned (.string ⟨l.toArray⟩)
def DText (N V p : Nat) (t : List UInt8) : Prop := (0 < V ∧ t = txt p N ∧ V = N / 10 ^ p) ∨ (V = 0 ∧ IsDec t N)

theorem own64_len {w : World} {B L c : Nat} {a : Option Addr} {zs : List Nat} (h : own64 w B (.slice a L c) zs) (hl : zs.length = L) : own64 w B (.slice a zs.length c) zs := by rw [hl]; exact h
theorem dtext_step {N V p d r j : Nat} {t u : List UInt8} (h : DText N V p t) (hV : 0 < V) (hd : d * 1000000000 + r = V) (hr : r < 1000000000) (hu : u = txt j r) (hj : j ≤ 9) (hlo : 0 < j → 0 < d ∨ 10 ^ (j - 1) ≤ r)
    (hc : ¬ (j < 9 ∧ (0 < d ∨ 0 < r / 10 ^ j))) : DText N d (p + j) (u ++ t) := by
  rcases h with ⟨_, ht, hp⟩ | ⟨h, _⟩
  · have hpp : 0 < 10 ^ p := Nat.pow_pos (by decide)
    rcases Nat.eq_zero_or_pos d with h0 | h0
    · subst h0
      have hrV : r = V := by omega
      have hjp : 0 < j := by
        refine Nat.pos_of_ne_zero fun hj0 => hc ⟨by omega, .inr ?_⟩
        rw [hj0]; simp; omega
      have h1 : 10 ^ (j - 1) ≤ r := (hlo hjp).resolve_left (by omega)
      have h2 : r < 10 ^ j := by
        rcases Nat.lt_or_ge j 9 with h9 | h9
        · refine Nat.lt_of_not_le fun h8 => hc ⟨h9, .inr ?_⟩
          exact Nat.div_pos h8 (Nat.pow_pos (by decide))
        · obtain rfl : j = 9 := by omega
          exact hr
      rw [hrV, hp] at h1 h2
      refine .inr ⟨rfl, ?_⟩
      rw [hu, ht, hrV, hp, ← txt_cat]
      refine isDec_txt (p + j) N (by omega) ?_ ?_
      · rw [show p + j - 1 = (j - 1) + p by omega, Nat.pow_add]
        exact (Nat.le_div_iff_mul_le hpp).1 h1
      · rw [Nat.add_comm p j, Nat.pow_add]
        exact (Nat.div_lt_iff_lt_mul hpp).1 h2
    · obtain rfl : j = 9 := by
        refine Nat.le_antisymm hj (Nat.le_of_not_lt fun h9 => hc ⟨h9, .inl h0⟩)
      refine .inl ⟨h0, ?_, ?_⟩
      · have e : r = V % 10 ^ 9 := by show r = V % 1000000000; omega
        rw [hu, ht, e, txt_mod 9 9 V (Nat.le_refl _), hp, ← txt_cat]
      · rw [Nat.pow_add, ← Nat.div_div_eq_div_mul, ← hp]
        show d = V / 1000000000
        omega
  · omega
theorem dtext_len {N V p len : Nat} {t : List UInt8} (h : DText N V p t) (hV : 0 < V) (hN : N < 4294967296 ^ (2 * len)) (hl : len ≤ 4096) : t.length ≤ 1000000 := by
  rcases h with ⟨_, ht, hp⟩ | ⟨h, _⟩
  · rw [ht, txt_len]
    have h1 : 10 ^ p ≤ N := by
      refine Nat.le_of_not_lt fun h => ?_
      rw [Nat.div_eq_of_lt h] at hp
      omega
    have h2 : 2 ^ p ≤ 10 ^ p := Nat.pow_le_pow_left (by decide) p
    have h3 : (4294967296 : Nat) ^ (2 * len) = 2 ^ (32 * (2 * len)) := by rw [Nat.pow_mul 2 32]
    rw [h3] at hN
    have h4 : 2 ^ p < 2 ^ (32 * (2 * len)) := Nat.lt_of_le_of_lt (Nat.le_trans h2 h1) hN
    have h5 := (Nat.pow_lt_pow_iff_right (by decide : 1 < 2)).1 h4
    omega
  · omega

set_option maxHeartbeats 4000000 in
set_option maxRecDepth 100000 in
theorem rdigits_any (a : Option Addr) (len cap : Nat) (xs : List Nat) (w : World) (hl : xs.length = len) (hbig : len ≤ 4096) (hr : Rd .u64 w a xs) (bx : Bd xs) :
    Calls Tryd.prog 51 #[.slice a len cap] w (DigitsPost (val xs) w) := by
  obtain ⟨N, hNv⟩ : ∃ N, N = val xs := ⟨_, rfl⟩
  have HLN : Hid (N < 4294967296 ^ (2 * len)) := by
    show _ < _
    have := val_lt bx
    rw [hl] at this
    rw [Nat.pow_mul, hNv]
    exact this
  rw [← hNv]
  go_enter Tryd.func51, Tryd.ntmps51
  go_wp2_with fail
  refine (halves_any a len cap xs _ hl (Nat.le_trans hbig (by decide)) hr bx).mono ?_
  rintro e w1 ⟨v, hs, rfl, ho, hN, hb⟩
  rw [← hNv] at hN
  have hlen : hs.length ≤ 8192 := by exact Nat.le_trans ((hN.len_le (k := 2 * len)).2 HLN.out) (by omega)
  obtain ⟨ah, ch, rfl, _⟩ := own64.form ho
  have HO := Lib.hid ho
  have HN := Lib.hid hN
  have HB := Lib.hid hb
  clear ho hN hb hr bx hNv hl
  by_cases h0 : hs.length = 0
  · have hq : ((hs.length : Int) == 0) = true := by rw [beq_iff_eq]; omega
    have hz : hs = [] := List.eq_nil_of_length_eq_zero h0
    have HZ : Hid (N = 0) := by
      have := HN.out.vl
      rw [hz] at this
      exact this.symm
    clear h0 hz
    go_wp2
    go_ret
    exact ⟨HB.out, [48], by rw [HZ.out]; exact isDec_zero, rfl⟩
  · have hq : ((hs.length : Int) == 0) = false := by rw [beq_eq_false_iff_ne]; omega
    have HNP : Hid (0 < N) := by
      show _ < _
      have := cn_v32_pos HN.out.cn (Nat.pos_of_ne_zero h0)
      rw [HN.out.vl] at this
      exact this
    clear h0
    go_wp2
    go_loopg [3, 4] N (fun gk v3 v4 wr => ∃ (V p : Nat) (zs : List Nat) (t : List UInt8), V ≤ gk ∧ zs.length ≤ 8192 ∧ v4 = .string ⟨t.toArray⟩ ∧ Hid (t.length ≤ 9000000) ∧ Hid (own64 wr w.heap.size v3 zs) ∧ Hid (Num32 zs V) ∧ Hid (DText N V p t) ∧ Hid (Below w.heap.size w wr))
    case atStart =>
      exact ⟨N, 0, hs, [], Nat.le_refl _, hlen, rfl, by show _ ≤ _; simp, HO.out, HN.out, .inl ⟨HNP.out, rfl, by simp⟩, HB.out⟩
    case round =>
      clear HO HN HB hlen
      obtain ⟨V, p, zs, t, hgk, hlen, rfl, HTL, HO, HN, HDT, HB⟩ := hrel
      obtain ⟨az, cz, rfl, hrz⟩ := own64.form HO.out
      by_cases h0 : zs.length = 0
      · have hq : decide ((0 : Int) < (zs.length : Int)) = false := by rw [decide_eq_false_iff_not]; omega
        have hV : V = 0 := by
          have := HN.out.vl
          rw [List.eq_nil_of_length_eq_zero h0] at this
          exact this.symm
        have HD : Hid (IsDec t N) := by
          rcases HDT.out with ⟨h, _⟩ | ⟨_, h⟩
          · omega
          · exact h
        obtain rfl : zs = [] := List.eq_nil_of_length_eq_zero h0
        clear h0 hV hrz
        go_wp2
        go_ret
        exact ⟨HB.out, t, HD.out, rfl⟩
      · have hq : decide ((0 : Int) < (zs.length : Int)) = true := by rw [decide_eq_true_iff]; omega
        have hlp : 0 < zs.length := by omega
        have hV : Hid (0 < V) := by
          show _ < _
          have := cn_v32_pos HN.out.cn hlp
          rw [HN.out.vl] at this
          exact this
        have HHD := Lib.hid HN.out.bd
        have HV32 : Hid (v32 zs = V) := HN.out.vl
        obtain ⟨lz, hlz⟩ : ∃ lz, lz = zs.length := ⟨_, rfl⟩
        have HLZ := Lib.hid hlz
        have hzp : 0 < lz := by omega
        have hzl : lz ≤ 8192 := by omega
        have e0 : (zs.length : Int) = (lz : Int) := by rw [hlz]
        clear h0 hlz hlp hlen
        go_wp2
        go_loopw [5, 6, 7] (fun v5 v6 v7 wr2 => ∃ (k d r : Nat) (rs : List Nat), k ≤ lz ∧ v5 = .int .u64 r ∧ v7 = .int .i64 ((lz : Int) - 1 - (k : Int)) ∧ r < 1000000000 ∧ Hid (Hd rs) ∧ Hid (v32 rs.reverse = d) ∧ Hid (own64 wr2 w.heap.size v6 rs) ∧ Hid (rs.length = k) ∧ Hid (d * 1000000000 + r = v32 (zs.drop (lz - k))) ∧ Hid (∀ q, v6.ownBlock = some q → Value.ownBlock (.slice az zs.length cz) ≠ some q) ∧ Hid (own64 wr2 w.heap.size (.slice az zs.length cz) zs) ∧ Hid (Below w.heap.size w wr2)) (fun _ _ v7 _ => (intOf v7 + 1).toNat)
        case atStart =>
          exact ⟨0, 0, 0, [], Nat.zero_le _, rfl, by simp, by decide, Hd.nil, rfl, own64_nil _ _, rfl, by show _ = _; rw [HLZ.out]; simp [v32], (fun q hq => by cases hq), HO.out, HB.out⟩
        case round =>
          clear HO HB hrz
          obtain ⟨k, d, r, rs, hk, rfl, rfl, hr9, HQD, HQV, HQO, HQL, HDR, HQS, HO, HB⟩ := hrel
          obtain ⟨aq, cq, rfl, hrq⟩ := own64.form HQO.out
          by_cases hlt : k < lz
          · obtain ⟨j, hj⟩ : ∃ j, j = lz - 1 - k := ⟨_, rfl⟩
            have ej : (lz : Int) - 1 - (k : Int) = (j : Int) := by omega
            have hjl : j < zs.length := by have := HLZ.out; omega
            have hrz := (own64.rd HO.out).2
            obtain ⟨bz, oz, rfl⟩ := hrz.isAt (by omega)
            have hcell := hrz.cell hjl
            have hh := HHD.out.at0 j
            have hdv := drop_v32 hjl
            generalize at0 zs j = h at *
            obtain ⟨x, hx⟩ : ∃ x, x = r * 4294967296 + h := ⟨_, rfl⟩
            have hor : bits BinOp.or IntKind.u64 ((r : Int) * 4294967296) (h : Int) = (x : Int) := by
              have h9 := or_high h r (by omega) hh
              rw [← hx] at h9
              rw [← h9]; rfl
            obtain ⟨q, hqd⟩ : ∃ q, q = x / 1000000000 := ⟨_, rfl⟩
            obtain ⟨m, hmd⟩ : ∃ m, m = x % 1000000000 := ⟨_, rfl⟩
            have hq1 : (x : Int).tdiv 1000000000 = (q : Int) := by rw [Int.tdiv_eq_ediv_of_nonneg (by omega)]; omega
            have hm1 : (x : Int).tmod 1000000000 = (m : Int) := by rw [Int.tmod_eq_emod_of_nonneg (by omega)]; omega
            have hq32 : q < 4294967296 := by omega
            have hm9 : m < 1000000000 := by omega
            have hqm : Hid (q * 1000000000 + m = x) := by show _ = _; omega
            have hwq : IntKind.u64.wrap (q : Int) = (q : Int) := by rw [IntKind.wrap_u64]; omega
            have hwm : IntKind.u64.wrap (m : Int) = (m : Int) := by rw [IntKind.wrap_u64]; omega
            have hx62 : x < 18446744073709551616 := by omega
            have hjl2 : (j : Int) < (zs.length : Int) := by omega
            have hj0 : (0 : Int) ≤ (j : Int) := by omega
            have HJ := Lib.hid hj
            have HX := Lib.hid hx
            have HDV := Lib.hid hdv
            have hk8 : rs.length ≤ 8192 := by rw [HQL.out]; omega
            clear hj hx hdv hrq hrz hqd hmd
            go_wp2_with (at_builtin; refine wpl_app 22 57 Tryd.underlying22 info64 rfl (by decide) rfl _ _ rfl w.heap.size _ rs.length (u64s rs) rfl (World.ownsRow.alloc HQO.out _) wr.heap.size _ rfl (World.cell?_alloc_at _ _ _ _ rfl) rfl (by omega) (by have := HB.out.size; simp; omega) ?_)
            intro g' cap' w2 hown1 hg1 hBg1 _ hor1
            have HN1 := Lib.hid hown1
            have HG1 := Lib.hid hg1
            have HBG := Lib.hid hBg1
            have HOR1 := Lib.hid hor1
            have HC := Lib.hid (((Chg.refl _ wr).alloc (.cells #[.int .u64 (q : Int)] 57)).trans (Chg.of_grown hg1))
            have HGL := Lib.hid (fun gz (hgz : Value.ownBlock (.slice (some ⟨bz, oz, none⟩) zs.length cz) = some gz) => (World.ownsRow.lt HO.out gz hgz).2)
            clear hown1 hg1 hBg1 hor1
            go_wp2
            go_roundw
            case rel =>
              refine ⟨k + 1, q + 4294967296 * d, m, rs ++ [q], by omega, by go_num, by go_num, hm9, ?_, ?_, ?_, ?_, ?_, ?_, ?_, ?_⟩
              · exact HQD.out.append (Hd.nil.cons hq32)
              · show _ = _; rw [List.reverse_append]; show v32 (q :: rs.reverse) = _; rw [v32_cons, HQV.out]
              · have h9 := HN1.out
                show own64 _ _ _ _
                unfold own64
                rw [List.length_append, u64s_append]
                exact h9
              · show _ = _; rw [List.length_append, HQL.out]; rfl
              · show _ = _
                have e1 : lz - (k + 1) = j := by rw [HJ.out]; omega
                have e2 : j + 1 = lz - k := by rw [HJ.out]; omega
                rw [e1, HDV.out, e2]
                exact div_step HX.out HDR.out hqm.out
              · intro gq hgq hz
                obtain rfl : g' = gq := by simpa [Value.ownBlock] using hgq
                rcases HOR1.out with h9 | h9
                · exact HQS.out _ h9 hz
                · have h8 := HGL.out _ hz
                  (try simp at h9)
                  omega
              · exact HC.out.owns HO.out fun gz hgz he => HQS.out gz he.symm hgz
              · exact HB.out.trans (HC.out.below HB.out.size (fun gq hgq => (World.ownsRow.lt HQO.out gq hgq.symm).1))
            case measure => simp [intOf]; omega
          · obtain rfl : k = lz := by omega
            have HVV : Hid (d * 1000000000 + r = V) := by
              have h9 := HDR.out
              rw [Nat.sub_self, List.drop_zero, HV32.out] at h9
              exact h9
            have HDD : Hid (v32 rs.reverse = d) := HQV.out
            have HRD : Hid (Hd rs.reverse) := fun x hx => HQD.out x (by simpa using hx)
            have el : (k : Int) - 1 - (k : Int) = -1 := by omega
            have eL : (rs.length : Int) = (k : Int) := by rw [HQL.out]
            clear HDR HQV hlt hrq
            rw [el]
            clear el
            go_wp2
            go_loopw [9, 10] (fun v9 v10 wr3 => ∃ (i : Nat) (ts : List Nat), i ≤ k ∧ v10 = .int .i64 ((k : Int) - 1 - (i : Int)) ∧ Hid (ts = rs.reverse.take i) ∧ Hid (own64 wr3 w.heap.size v9 ts) ∧ Hid (own64 wr3 w.heap.size (.slice aq rs.length cq) rs) ∧ Hid (∀ q, v9.ownBlock = some q → Value.ownBlock (.slice aq rs.length cq) ≠ some q) ∧ Hid (Below w.heap.size w wr3)) (fun _ v10 _ => (intOf v10 + 1).toNat)
            case atStart =>
              exact ⟨0, [], Nat.zero_le _, by first | rfl | simp, rfl, own64_nil _ _, HQO.out, (fun q hq => by cases hq), HB.out⟩
            case round =>
              clear HO HB HQS
              have HQO0 := HQO
              clear HQO
              obtain ⟨i, ts, hi, rfl, HTS, HNX, HQO, HNS, HB⟩ := hrel
              obtain ⟨an, cn, rfl, hrn⟩ := own64.form HNX.out
              by_cases hik : i < k
              · obtain ⟨j, hj⟩ : ∃ j, j = k - 1 - i := ⟨_, rfl⟩
                have ej : (k : Int) - 1 - (i : Int) = (j : Int) := by omega
                have hjl : j < rs.length := by have := HQL.out; omega
                have hrq := (own64.rd HQO.out).2
                obtain ⟨bq, oq, rfl⟩ := hrq.isAt (by omega)
                have hcell := hrq.cell hjl
                have hrev : Hid (at0 rs j = at0 rs.reverse i) := by
                  have h9 := HQL.out
                  show _ = _
                  rw [at0_getElem hjl, at0_getElem (by simp; omega), List.getElem_reverse]
                  congr 1
                  omega
                generalize at0 rs j = y at *
                have hjl2 : (j : Int) < (k : Int) := by omega
                have hj0 : (0 : Int) ≤ (j : Int) := by omega
                have hi8 : ts.length ≤ 8192 := by rw [HTS.out, List.length_take]; omega
                have HJ := Lib.hid hj
                clear hj hrq hrn
                go_wp2_with (at_builtin; refine wpl_app 22 57 Tryd.underlying22 info64 rfl (by decide) rfl _ _ rfl w.heap.size _ ts.length (u64s ts) rfl (World.ownsRow.alloc HNX.out _) wr.heap.size _ rfl (World.cell?_alloc_at _ _ _ _ rfl) rfl (by omega) (by have := HB.out.size; simp; omega) ?_)
                intro g' cap' w2 hown1 hg1 hBg1 _ hor1
                have HN1 := Lib.hid hown1
                have HOR1 := Lib.hid hor1
                have HC := Lib.hid (((Chg.refl _ wr).alloc (.cells #[.int .u64 (y : Int)] 57)).trans (Chg.of_grown hg1))
                have HGL := Lib.hid (fun gz (hgz : Value.ownBlock (.slice (some ⟨bq, oq, none⟩) rs.length cq) = some gz) => (World.ownsRow.lt HQO.out gz hgz).2)
                clear hown1 hg1 hBg1 hor1
                go_wp2
                go_roundw
                case rel =>
                  refine ⟨i + 1, ts ++ [y], by omega, by go_num, ?_, ?_, ?_, ?_, ?_⟩
                  · show _ = _
                    rw [take_succ_at0 (by rw [List.length_reverse, HQL.out]; exact hik), ← hrev.out, HTS.out]
                  · have h9 := HN1.out
                    show own64 _ _ _ _
                    unfold own64
                    rw [List.length_append, u64s_append]
                    exact h9
                  · exact HC.out.owns HQO.out fun gz hgz he => HNS.out gz he.symm hgz
                  · intro gq hgq hz
                    obtain rfl : g' = gq := by simpa [Value.ownBlock] using hgq
                    rcases HOR1.out with h9 | h9
                    · exact HNS.out _ h9 hz
                    · have h8 := HGL.out _ hz
                      (try simp at h9)
                      omega
                  · exact HB.out.trans (HC.out.below HB.out.size (fun gq hgq => (World.ownsRow.lt HNX.out gq hgq.symm).1))
                case measure => simp [intOf]; omega
              · obtain rfl : i = k := by omega
                have el2 : (i : Int) - 1 - (i : Int) = -1 := by omega
                have hts : ts = rs.reverse := by rw [HTS.out]; exact List.take_of_length_le (by rw [List.length_reverse, HQL.out]; exact Nat.le_refl _)
                have HRD2 : Hid (Hd ts) := by rw [hts]; exact HRD.out
                have HDD2 : Hid (v32 ts = d) := by rw [hts]; exact HDD.out
                have hnl : ts.length ≤ 8192 := by rw [hts, List.length_reverse, HQL.out]; omega
                clear hts HTS HRD HDD
                rw [el2]
                clear el2 hik HNS HQO HQO0 HQL HQD e0 HLZ
                have HRM := own64.room HNX.out
                have hcap := HRM.1
                have HNA := Lib.hid HRM.2
                have HRN := Lib.hid hrn
                clear HRM hrn
                go_wp2_with fail
                refine (strip_any an ts.length cn ts _ rfl (by omega) hcap HNA.out HRN.out).mono ?_
                rintro e w3 ⟨rfl, rfl⟩
                have hown3 := own64_pre HNX.out (fl_spec ts).1
                have hnum3 := num32_fm HRD2.out
                rw [HDD2.out] at hnum3
                have hfl3 : (ts.take (fl ts)).length = fl ts := fm_length ts
                have hfl4 : fl ts ≤ 8192 := Nat.le_trans (fl_spec ts).1 hnl
                have hd0 : Hid (0 < d ↔ 0 < fl ts) := by
                  show _ ↔ _
                  have h9 := hnum3.len_lt (k := 0)
                  rw [fm_length] at h9
                  rw [h9]
                  simp
                  omega
                have HO3 := Lib.hid hown3
                have HN3 := Lib.hid hnum3
                have HF3 := Lib.hid hfl3
                obtain ⟨L, hL⟩ : ∃ L, L = fl ts := ⟨_, rfl⟩
                rw [← hL] at HO3 HF3 hfl4 hd0 ⊢
                have HN3 : Hid (Num32 (ts.take L) d) := by show Num32 _ _; rw [hL]; exact HN3.out
                clear hown3 hnum3 hfl3 hL hnl
                go_wp2
                have hz0 : Hid (d = 0 → 0 < r) := fun h => by have h1 := HVV.out; have h2 := hV.out; rw [h] at h1; omega
                go_loopw [5, 11, 12] (fun v5 v11 v12 wr4 => ∃ (j y : Nat) (u : List UInt8), j ≤ 9 ∧ v12 = .int .i64 (j : Int) ∧ v5 = .int .u64 y ∧ y < 1000000000 ∧ v11 = .string ⟨u.toArray⟩ ∧ Hid (y = r / 10 ^ j) ∧ Hid (u = txt j r) ∧ Hid (0 < j → 0 < d ∨ 10 ^ (j - 1) ≤ r) ∧ Hid (own64 wr4 w.heap.size (.slice an L cn) (ts.take L)) ∧ Hid (Below w.heap.size w wr4)) (fun _ _ v12 _ => 9 - (intOf v12).toNat)
                case atStart => exact ⟨0, r, [], by decide, rfl, rfl, hr9, rfl, by show _ = _; simp, rfl, fun h => absurd h (by decide), HO3.out, HB.out⟩
                case round =>
                  clear HO3 HB HNX HRN
                  obtain ⟨j, y, u, hj9, rfl, rfl, hy9, rfl, HY, HU, HLO, HO3, HB⟩ := hrel
                  have hul : u.length ≤ 9 := by rw [HU.out, txt_len]; exact hj9
                  by_cases hc : j < 9 ∧ (0 < L ∨ 0 < y)
                  · obtain ⟨hc1, hc2⟩ := hc
                    have hq9 : decide ((j : Int) < 9) = true := by rw [decide_eq_true_iff]; omega
                    obtain ⟨g, hg⟩ : ∃ g, g = y % 10 := ⟨_, rfl⟩
                    obtain ⟨y', hy'⟩ : ∃ y', y' = y / 10 := ⟨_, rfl⟩
                    have hg10 : g < 10 := by omega
                    have m1 : (y : Int).tmod 10 = (g : Int) := by rw [Int.tmod_eq_emod_of_nonneg (by omega)]; omega
                    have m2 : (y : Int).tdiv 10 = (y' : Int) := by rw [Int.tdiv_eq_ediv_of_nonneg (by omega)]; omega
                    have m3 : IntKind.u64.wrap (g : Int) = (g : Int) := by rw [IntKind.wrap_u64]; omega
                    have m4 : IntKind.u64.wrap (48 + (g : Int)) = 48 + (g : Int) := by rw [IntKind.wrap_u64]; omega
                    have m5 := (wrap_u8 g hg10).2
                    have m6 : IntKind.u64.wrap (y' : Int) = (y' : Int) := by rw [IntKind.wrap_u64]; omega
                    obtain ⟨c, hcc⟩ : ∃ c, c = UInt8.ofNat (48 + g) := ⟨_, rfl⟩
                    have hcv : (convert 29 9 (.slice (some ⟨wr.heap.size, 0, none⟩) 1 1)).run Tryd.prog (wr.alloc (.cells #[.int .u8 (48 + (g : Int))] 5)) = .ok (.string ⟨#[c]⟩) (wr.alloc (.cells #[.int .u8 (48 + (g : Int))] 5)) := by
                      have h9 := run_convert_bytes_arg (P := Tryd.prog) (wr.alloc (.cells #[.int .u8 (48 + (g : Int))] 5)) 29 5 Tryd.underlying29 Tryd.underlying5 wr.heap.size 0 1 1 [48 + (g : Int)] rfl (fun i hi => by
                        obtain rfl : i = 0 := by omega
                        simp) 9 Tryd.underlying9
                      rw [h9, hcc]
                      simp only [strOfNums, List.map_cons, List.map_nil]
                      congr 3
                    have hadd : ∀ w, (Op.stringOp .add ⟨#[c]⟩ ⟨u.toArray⟩).run Tryd.prog w = .ok (.string ⟨(c :: u).toArray⟩) w := fun w => run_string_add_lists w [c] u (by show (1 : Int) ≤ 8388608; decide) (by omega)
                    have HG := Lib.hid hg
                    have HY' := Lib.hid hy'
                    have HCC := Lib.hid hcc
                    have hy9' : y' < 1000000000 := by omega
                    clear hg hy' hcc
                    have hrest : (decide (0 < L) = true) ∨ (decide (0 < L) = false ∧ decide (0 < y) = true) := by
                      rw [decide_eq_true_iff, decide_eq_false_iff_not, decide_eq_true_iff]; omega
                    have HREL : Hid ((y' = r / 10 ^ (j + 1)) ∧ (c :: u = txt (j + 1) r) ∧ (0 < j + 1 → 0 < d ∨ 10 ^ (j + 1 - 1) ≤ r)) := by
                      refine ⟨?_, ?_, fun _ => ?_⟩
                      · rw [HY'.out, HY.out, Nat.div_div_eq_div_mul, ← Nat.pow_succ]
                      · rw [txt_succ, HCC.out, HG.out, HY.out, HU.out]
                      · rcases hc2 with h9 | h9
                        · exact .inl (hd0.out.2 h9)
                        · refine .inr ?_
                          rw [Nat.add_sub_cancel]
                          refine Nat.le_of_not_lt fun h8 => ?_
                          rw [HY.out, Nat.div_eq_of_lt h8] at h9
                          omega
                    clear hc2
                    rcases hrest with hqL | ⟨hqL, hqy⟩
                    all_goals
                      go_wp2
                      go_roundw
                      case rel => exact ⟨j + 1, y', c :: u, by omega, by go_num, by go_num, hy9', rfl, HREL.out.1, HREL.out.2.1, HREL.out.2.2, own64.under3 HO3.out ((Below.refl _ _).alloc (Nat.le_refl _) _), HB.out.alloc HB.out.size _⟩
                      case measure => simp [intOf]; omega
                  · have hrest : (decide ((j : Int) < 9) = false) ∨ (decide ((j : Int) < 9) = true ∧ decide (0 < L) = false ∧ decide (0 < y) = false) := by
                      rw [decide_eq_false_iff_not, decide_eq_true_iff, decide_eq_false_iff_not, decide_eq_false_iff_not]; omega
                    have HDN : Hid (DText N d (p + j) (u ++ t)) := dtext_step HDT.out hV.out HVV.out hr9 HU.out hj9 HLO.out (fun h => hc ⟨h.1, h.2.imp (fun g => hd0.out.1 g) (fun g => by rw [HY.out]; exact g)⟩)
                    have htl : t.length ≤ 1000000 := dtext_len HDT.out hV.out HLN.out hbig
                    have hadd : ∀ w, (Op.stringOp .add ⟨u.toArray⟩ ⟨t.toArray⟩).run Tryd.prog w = .ok (.string ⟨(u ++ t).toArray⟩) w := fun w => run_string_add_lists w u t (by omega) (by omega)
                    clear hc
                    rcases hrest with hq9 | ⟨hq9, hqL, hqy⟩
                    all_goals
                      go_wp2
                      go_roundg d
                      case measure => have h1 := HVV.out; have h2 := hV.out; omega
                      case rel => exact ⟨d, p + j, ts.take L, u ++ t, Nat.le_refl _, by rw [HF3.out]; exact hfl4, rfl, by show _ ≤ _; simp; omega, HO3.out, HN3.out, HDN.out, HB.out⟩
end Go.Proofs.YthccccpcjafdcaaDoor
