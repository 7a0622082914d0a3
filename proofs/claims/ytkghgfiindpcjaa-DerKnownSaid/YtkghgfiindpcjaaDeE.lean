import Derived.Test.YtkghgfiindpcjaaDeD
import Derived.WalkSmall
namespace Go.Proofs.Ytkghgfiindpcjaa
open Go.RowKit

/-! The program's reading of an item. -/
theorem nat_joinB (k a b : Nat) (hb : b < 2 ^ k) : (a * 2 ^ k) ||| b = a * 2 ^ k + b := by
  rw [Nat.mul_comm, Nat.two_pow_add_eq_or_of_lt hb]
theorem or_low8 (x y k : Nat) (hk : k ≤ 32) (hy : y < 2 ^ k) (hx : x * 2 ^ k < 18446744073709551616) : bits BinOp.or IntKind.u64 ((x * 2 ^ k : Nat) : Int) (y : Int) = ((x * 2 ^ k + y : Nat) : Int) := by
  have h2 : (2 : Nat) ^ k ≤ 2 ^ 32 := Nat.pow_le_pow_right (by decide) hk
  rw [or_nat _ _ hx (by omega), nat_joinB k _ _ hy]
theorem wrap_u8_in (d : Nat) (h : d < 256) : IntKind.u8.wrap (d : Int) = (d : Int) := by
  rw [show IntKind.u8.wrap (d : Int) = (d : Int) % 256 from by simp [IntKind.wrap, IntKind.signed, IntKind.bits]]
  omega
theorem rd_cut {w : World} {p : Addr} {b : List Nat} {len cap : Nat} (h : Rd .u8 w (some p) b) (hl : b.length = len) (hcap : len ≤ cap) (lo n : Nat) (hlo : lo + n ≤ len) : Rd .u8 w (if cap = lo then some p else some (p.add lo)) ((b.drop lo).take n) := by
  intro j hj
  have hn : j < n ∧ j < b.length - lo := by simp at hj; omega
  obtain ⟨bb, off, e, hc⟩ := h.get (by omega)
  obtain rfl := Option.some.inj e
  rw [if_neg (by omega)]
  have ea : (⟨bb, off, none⟩ : Addr).add lo = ⟨bb, off + lo, none⟩ := by unfold Addr.add; split <;> simp_all
  rw [ea]
  refine ⟨bb, off + lo, rfl, fun i hi => ?_⟩
  have hn2 : i < n ∧ i < b.length - lo := by simp at hi; omega
  rw [show off + lo + i = off + (lo + i) by omega, hc (lo + i) (by omega)]
  simp [List.getD, List.getElem?_take, List.getElem?_drop, hn2.1]
theorem rd_pre {w : World} {a : Option Addr} {b : List Nat} (h : Rd .u8 w a b) (n : Nat) : Rd .u8 w a (b.take n) := by
  intro j hj
  have hn : j < n ∧ j < b.length := by simp at hj; omega
  obtain ⟨bb, off, e, hc⟩ := h.get (by omega)
  refine ⟨bb, off, e, fun i hi => ?_⟩
  have hn2 : i < n ∧ i < b.length := by simp at hi; omega
  rw [hc i hn2.2]
  simp [List.getD, List.getElem?_take, hn2.1]

/-- Giving up with an error. -/
@[reducible] def pan (k : Int) : Ending := .panicked [{ v := .iface 84 (.int .i64 k), recovered := false }]
theorem demand_yes (k : Int) (w : World) : Calls Try.prog 62 #[.bool true, .int .i64 k] w fun e w' => e = .returned (.tuple #[]) ∧ w = w' := by
  go_enter Try.func62, Try.ntmps62
  go_wp2
  exact bodyPost_end (results_none rfl _ _ _) rfl ⟨rfl, rfl⟩
theorem demand_no (k : Int) (w : World) : Calls Try.prog 62 #[.bool false, .int .i64 k] w fun e w' => e = pan k ∧ w = w' := by
  go_enter Try.func62, Try.ntmps62
  go_wp2
  exact ⟨rfl, rfl, rfl⟩

def LenPost (b : List Nat) (at' : Nat) (w : World) (e : Ending) (w' : World) : Prop :=
  w = w' ∧ ((∃ n u, len0 (b.drop at') = (0, n, u) ∧ e = .returned (.tuple #[.int .u64 (n : Nat), .int .i64 ((at' + u : Nat) : Int)])) ∨ (∃ k, k ≠ 0 ∧ len0 (b.drop at') = (k, 0, 0) ∧ e = pan k))

set_option maxHeartbeats 800000 in
set_option maxRecDepth 100000 in
theorem lengthAt_any (a : Option Addr) (len cap : Nat) (b : List Nat) (at' : Nat) (w : World) (hl : b.length = len) (hbig : len ≤ 1099511627776) (hcap : len ≤ cap) (h8 : B8 b) (hr : Rd .u8 w a b) (hat : at' < len) :
    Calls Try.prog 63 #[.slice a len cap, .int .i64 (at' : Nat)] w (LenPost b at' w) := by
  obtain ⟨bb, off, rfl, hc⟩ := hr.get (by omega)
  obtain ⟨x, hx⟩ : ∃ x, x = at0 b at' := ⟨_, rfl⟩
  obtain ⟨r, hrr⟩ : ∃ r, r = b.drop (at' + 1) := ⟨_, rfl⟩
  have hd : b.drop at' = x :: r := by rw [hx, hrr, List.drop_eq_getElem_cons (by omega), at0_getElem (by omega)]
  have hx8 : x < 256 := by rw [hx]; exact h8.at0 _
  have hcell : w.cell? ⟨bb, off + at', none⟩ = some (.int .u8 (x : Nat)) := by rw [hx]; exact hc at' (by omega)
  have hrl : r.length = len - (at' + 1) := by rw [hrr, List.length_drop, hl]
  have HL := Lib.hid hl
  have HR := Lib.hid hr
  have HC := Lib.hid hc
  have HRR := Lib.hid hrr
  have HRL := Lib.hid hrl
  have H8 := Lib.hid h8
  unfold LenPost
  rw [hd]
  clear hx hr hc hrr h8 hl hd hrl
  by_cases h0 : x < 128
  · have hq : decide ((x : Int) < 128) = true := decide_eq_true (by omega)
    have HP : Hid (len0 (x :: r) = (0, x, 1)) := by show _ = _; rw [len0, if_pos h0]
    go_enter Try.func63, Try.ntmps63
    go_wp2
    go_ret2
    exact ⟨rfl, .inl ⟨_, _, HP.out, rfl⟩⟩
  · have hq : decide ((x : Int) < 128) = false := decide_eq_false (by omega)
    obtain ⟨n, hn⟩ : ∃ n, n = x - 128 := ⟨_, rfl⟩
    have hn1 : (x : Int) - 128 = (n : Int) := by omega
    have hn2 : n < 256 := by omega
    by_cases h1 : x = 128 ∨ 132 < x
    · have HP : Hid (len0 (x :: r) = (72, 0, 0)) := by show _ = _; rw [len0, if_neg h0, if_pos h1]
      have hq1 : (decide ((1 : Int) ≤ (n : Int)) = false) ∨ (decide ((1 : Int) ≤ (n : Int)) = true ∧ decide ((n : Int) ≤ 4) = false) := by
        by_cases hz : n = 0
        · exact .inl (decide_eq_false (by omega))
        · exact .inr ⟨decide_eq_true (by omega), decide_eq_false (by omega)⟩
      clear hn h1
      rcases hq1 with hq1 | ⟨hq1, hq2⟩
      · go_enter Try.func63, Try.ntmps63
        go_wp2_with (go_at_call 62; refine (demand_no _ _).mono ?_; rintro e w' ⟨rfl, rfl⟩)
        exact ⟨rfl, rfl, .inr ⟨72, by decide, HP.out, rfl⟩⟩
      · go_enter Try.func63, Try.ntmps63
        go_wp2_with (go_at_call 62; refine (demand_no _ _).mono ?_; rintro e w' ⟨rfl, rfl⟩)
        exact ⟨rfl, rfl, .inr ⟨72, by decide, HP.out, rfl⟩⟩
    · have hq1 : decide ((1 : Int) ≤ (n : Int)) = true := decide_eq_true (by omega)
      have hq2 : decide ((n : Int) ≤ 4) = true := decide_eq_true (by omega)
      have hn3 : 1 ≤ n := by omega
      have hn4 : n ≤ 4 := by omega
      by_cases h2 : r.length < n
      · have HP : Hid (len0 (x :: r) = (70, 0, 0)) := by show _ = _; rw [len0, if_neg h0, if_neg h1, if_pos (by omega)]
        have hq3 : decide ((n : Int) ≤ (len : Int) - ((at' : Int) + 1)) = false := decide_eq_false (by have := HRL.out; omega)
        clear hn h1 h2
        go_enter Try.func63, Try.ntmps63
        go_wp2_with fail
        refine (demand_yes _ _).mono ?_
        rintro e w' ⟨rfl, rfl⟩
        go_wp2_with fail
        refine (demand_no _ _).mono ?_
        rintro e w' ⟨rfl, rfl⟩
        go_wp2
        exact ⟨rfl, rfl, .inr ⟨70, by decide, HP.out, rfl⟩⟩
      · have hq3 : decide ((n : Int) ≤ (len : Int) - ((at' : Int) + 1)) = true := decide_eq_true (by have := HRL.out; omega)
        have HV : Hid (len0 (x :: r) = if bval (r.take n) < 128 ∨ at0 r 0 = 0 then (72, 0, 0) else (0, bval (r.take n), 1 + n)) := by
          show _ = _
          rw [len0, if_neg h0, if_neg h1, if_neg (by omega), ← hn]
        have hfit : at' + 1 + n ≤ len := by have := HRL.out; omega
        have HNR : Hid (n ≤ r.length) := by show n ≤ _; omega
        have hcc : (cap : Int) - ((at' : Int) + 1) = ((cap - (at' + 1) : Nat) : Int) := by omega
        have hcn : ¬ cap = at' + 1 := by omega
        clear hn h1 h2
        go_enter Try.func63, Try.ntmps63
        go_wp2_with fail
        refine (demand_yes _ _).mono ?_
        rintro e w' ⟨rfl, rfl⟩
        go_wp2_with fail
        refine (demand_yes _ _).mono ?_
        rintro e w' ⟨rfl, rfl⟩
        go_wp2_with fail
        go_loop [9, 47] (fun vv iv => ∃ (i L : Nat), i ≤ n ∧ iv = .int .i64 (i : Nat) ∧ vv = .int .u64 (L : Nat) ∧ Hid (L = bval (r.take i))) (fun _ iv => n - (intOf iv).toNat)
        case atStart => exact ⟨0, 0, Nat.zero_le _, rfl, rfl, rfl⟩
        case round =>
          obtain ⟨i, L, hi, rfl, rfl, HLL⟩ := hrel
          by_cases hlt : i < n
          · have hLb : L < 16777216 := by
              have h1 := bval_lt (l := r.take i) (by rw [HRR.out]; exact (H8.out.drop _).take _)
              have h2 : (256 : Nat) ^ (r.take i).length ≤ 256 ^ 3 := Nat.pow_le_pow_right (by decide) (by rw [List.length_take]; omega)
              have h3 : (256 : Nat) ^ 3 = 16777216 := by decide
              rw [HLL.out]; omega
            obtain ⟨c, hcE⟩ : ∃ c, c = at0 r i := ⟨_, rfl⟩
            have hc8 : c < 256 := by rw [hcE, HRR.out]; exact (H8.out.drop _).at0 _
            have hce : w.cell? ⟨bb, off + (at' + 1) + i, none⟩ = some (.int .u8 (c : Nat)) := by
              rw [show off + (at' + 1) + i = off + (at' + 1 + i) by omega, HC.out _ (by rw [HL.out]; omega), hcE, HRR.out, at0_drop]
              rfl
            have HS : Hid (L * 256 + c = bval (r.take (i + 1))) := by
              show _ = _
              rw [take_succ_at0 (by have := HNR.out; omega), bval_snoc, ← HLL.out, ← hcE, Nat.mul_comm]
            obtain ⟨M, hM⟩ : ∃ M, M = L * 256 + c := ⟨_, rfl⟩
            have ho : bits BinOp.or IntKind.u64 ((L : Int) * 256) (c : Int) = (M : Int) := by
              have := or_low8 L c 8 (by decide) (by omega) (by omega)
              rw [hM, ← this]
              congr 1
            rw [← hM] at HS
            clear hcE hM
            go_wp2
            go_round
            case rel => exact ⟨i + 1, M, by omega, by go_num, rfl, HS.out⟩
            case measure => simp [intOf]; omega
          · obtain rfl : i = n := by omega
            have hV := HV.out
            rw [← HLL.out] at hV
            obtain ⟨z, hz⟩ : ∃ z, z = at0 r 0 := ⟨_, rfl⟩
            rw [← hz] at hV
            have hz0 : w.cell? ⟨bb, off + (at' + 1), none⟩ = some (.int .u8 (z : Nat)) := by
              rw [HC.out _ (by rw [HL.out]; omega), hz, HRR.out, at0_drop]
              rfl
            clear hz HV
            by_cases h3 : L < 128 ∨ z = 0
            · rw [if_pos h3] at hV
              have HP := Lib.hid hV
              clear hV
              have hor : ((z : Int) != 0) = false ∨ (((z : Int) != 0) = true ∧ decide ((128 : Int) ≤ (L : Int)) = false) := by
                by_cases hzz : z = 0
                · exact .inl (by subst hzz; rfl)
                · exact .inr ⟨by simp [hzz], decide_eq_false (by omega)⟩
              clear h3
              rcases hor with g1 | ⟨g1, g2⟩
              · go_wp2_with fail
                refine (demand_no _ _).mono ?_
                rintro e w' ⟨rfl, rfl⟩
                go_wp2
                exact ⟨rfl, rfl, .inr ⟨72, by decide, HP.out, rfl⟩⟩
              · go_wp2_with fail
                refine (demand_no _ _).mono ?_
                rintro e w' ⟨rfl, rfl⟩
                go_wp2
                exact ⟨rfl, rfl, .inr ⟨72, by decide, HP.out, rfl⟩⟩
            · rw [if_neg h3] at hV
              have HP := Lib.hid hV
              clear hV
              have g1 : ((z : Int) != 0) = true := by simp; omega
              have g2 : decide ((128 : Int) ≤ (L : Int)) = true := decide_eq_true (by omega)
              clear h3
              go_wp2_with fail
              refine (demand_yes _ _).mono ?_
              rintro e w' ⟨rfl, rfl⟩
              go_wp2
              go_ret2
              exact ⟨rfl, .inl ⟨_, _, HP.out, by rw [show ((at' + (1 + i) : Nat) : Int) = (at' : Int) + 1 + (i : Int) by omega]; rfl⟩⟩

/-- What reading an item gives. -/
def ItemPost (b : List Nat) (i : Int × Nat × Nat × Nat) (w : World) (e : Ending) (w' : World) : Prop :=
  Below w.heap.size w w' ∧ ((∃ t f o, i = (0, t, f, o) ∧ e = .returned (.agg #[.int .u8 (t : Nat), .int .i64 (f : Nat), .int .i64 (o : Nat)])) ∨ (∃ k, k ≠ 0 ∧ i = (k, 0, 0, 0) ∧ e = pan k))

theorem infoIt : (Try.prog.info? 59).map (·.size) = some 3 := by kernel_rfl
theorem results_It {fn : Func} {p : Tmp} (h : fn.results = #[.cell p 59]) {tmps : Array Value} {w : World} {g : Nat} {x y z : Value} {T : TypeId}
    (hp : tmps.getD p undef = .pointer (some ⟨g, 0, none⟩)) (hg : w.heap[g]? = some (.cells #[x, y, z] T (0, 0))) :
    (results fn tmps).run Try.prog w = .ok (.agg #[x, y, z]) w :=
  results_cell_row h tmps _ g _ #[x, y, z] (0, 0) _ hp hg Try.underlying59 rfl infoIt
set_option maxHeartbeats 800000 in
set_option maxRecDepth 100000 in
theorem itemAt_any (a : Option Addr) (len cap : Nat) (b : List Nat) (at' : Int) (w : World) (hl : b.length = len) (hbig : len ≤ 1099511627776) (hcap : len ≤ cap) (h8 : B8 b) (hr : Rd .u8 w a b) (ha1 : -9223372036854775808 ≤ at') (ha2 : at' ≤ 9223372036854775807) :
    Calls Try.prog 39 #[.slice a len cap, .int .i64 at'] w (ItemPost b (itemI b at') w) := by
  have HL := Lib.hid hl
  have HR := Lib.hid hr
  have H8 := Lib.hid h8
  unfold ItemPost
  clear hl hr h8
  by_cases h0 : at' < 0 ∨ (len : Int) < at'
  · have HP : Hid (itemI b at' = (2, 0, 0, 0)) := by show _ = _; rw [itemI, if_pos (by rw [HL.out]; exact h0)]
    have hor : decide ((0 : Int) ≤ at') = false ∨ (decide ((0 : Int) ≤ at') = true ∧ decide (at' ≤ (len : Int)) = false) := by
      by_cases h1 : at' < 0
      · exact .inl (decide_eq_false (by omega))
      · exact .inr ⟨decide_eq_true (by omega), decide_eq_false (by omega)⟩
    clear h0
    rcases hor with g1 | ⟨g1, g2⟩
    all_goals
      go_enter Try.func39, Try.ntmps39
      go_wp2_with fail
      refine (demand_no _ _).mono ?_
      rintro e w' ⟨rfl, rfl⟩
      go_wp2
      exact ⟨rfl, (Below.refl _ _).alloc (Nat.le_refl _) _, .inr ⟨2, by decide, HP.out, rfl⟩⟩
  · obtain ⟨n, rfl⟩ : ∃ n : Nat, at' = (n : Int) := ⟨at'.toNat, by omega⟩
    have hn : n ≤ len := by omega
    have g1 : decide ((0 : Int) ≤ (n : Int)) = true := decide_eq_true (by omega)
    have g2 : decide ((n : Int) ≤ (len : Int)) = true := decide_eq_true (by omega)
    rw [itemI_in (show n ≤ b.length by rw [HL.out]; exact hn)]
    clear h0
    by_cases h1 : len < n + 2
    · have HP : Hid (itemA b n = (70, 0, 0, 0)) := itemA_short (by rw [HL.out]; exact h1)
      have g3 : decide ((2 : Int) ≤ (len : Int) - (n : Int)) = false := decide_eq_false (by omega)
      clear h1
      go_enter Try.func39, Try.ntmps39
      go_wp2_with fail
      refine (demand_yes _ _).mono ?_
      rintro e w' ⟨rfl, rfl⟩
      go_wp2_with fail
      refine (demand_no _ _).mono ?_
      rintro e w' ⟨rfl, rfl⟩
      go_wp2
      exact ⟨rfl, (Below.refl _ _).alloc (Nat.le_refl _) _, .inr ⟨70, by decide, HP.out, rfl⟩⟩
    · have g3 : decide ((2 : Int) ≤ (len : Int) - (n : Int)) = true := decide_eq_true (by omega)
      have HI := Lib.hid (itemA_len (b := b) (a := n) (by rw [HL.out]; omega))
      have hn2 : n + 2 ≤ len := by omega
      clear h1
      obtain ⟨bb, off, rfl, hc⟩ := HR.out.get (by rw [HL.out]; omega)
      obtain ⟨x, hx⟩ : ∃ x, x = at0 b n := ⟨_, rfl⟩
      have hcell : w.cell? ⟨bb, off + n, none⟩ = some (.int .u8 (x : Nat)) := by rw [hx]; exact hc n (by rw [HL.out]; omega)
      have HX := Lib.hid hx
      have hbl : bb < w.heap.size := World.block_lt_of_cell? w ⟨bb, off + n, none⟩ hcell
      clear hx hc
      go_enter Try.func39, Try.ntmps39
      go_wp2_with fail
      refine (demand_yes _ _).mono ?_
      rintro e w' ⟨rfl, rfl⟩
      go_wp2_with fail
      refine (demand_yes _ _).mono ?_
      rintro e w' ⟨rfl, rfl⟩
      go_wp2_with fail
      have hcall := lengthAt_any (some ⟨bb, off, none⟩) len cap b (n + 1) (w.alloc (.cells #[.int .u8 0, .int .i64 0, .int .i64 0] 59)) HL.out hbig hcap H8.out (HR.out.below ((Below.refl _ _).alloc (Nat.le_refl _) _)) (by omega)
      rw [show ((n + 1 : Nat) : Int) = (n : Int) + 1 by omega] at hcall
      refine hcall.mono ?_
      rintro e w' ⟨rfl, ⟨L, u, hL, rfl⟩ | ⟨k, hk, hL, rfl⟩⟩
      · have hu := len0_lt (H8.out.drop _) hL
        rw [List.length_drop, HL.out] at hu
        have hI := HI.out
        rw [hL] at hI
        obtain ⟨f, hf⟩ : ∃ f, f = n + 1 + u := ⟨_, rfl⟩
        rw [← hf] at hI ⊢
        have hfl : f ≤ len := by omega
        obtain ⟨m, hm⟩ : ∃ m, m = len - f := ⟨_, rfl⟩
        have hm1 : (len : Int) - (f : Int) = (m : Int) := by omega
        have hLb : L < 4294967296 := hu.1
        rw [HL.out, ← hm, ← HX.out] at hI
        have HIH := Lib.hid hI
        have HM := Lib.hid hm
        clear hI hL hu hf hm hcall
        by_cases hml : m < L
        · have HP : Hid (itemA b n = (70, 0, 0, 0)) := by have := HIH.out; rw [if_neg (by simp), if_pos (by simpa using hml)] at this; exact this
          have g4 : decide (L ≤ m) = false := decide_eq_false (by omega)
          clear hml
          go_wp2_with fail
          refine (demand_no _ _).mono ?_
          rintro e w' ⟨rfl, rfl⟩
          go_wp2
          exact ⟨rfl, (Below.refl _ _).alloc (Nat.le_refl _) _, .inr ⟨70, by decide, HP.out, rfl⟩⟩
        · have HP : Hid (itemA b n = (0, x, f, f + L)) := by have := HIH.out; rw [if_neg (by simp), if_neg (by simpa using hml)] at this; exact this
          have g4 : decide (L ≤ m) = true := decide_eq_true (by omega)
          obtain ⟨o, ho⟩ : ∃ o, o = f + L := ⟨_, rfl⟩
          have ho1 : (f : Int) + (L : Int) = (o : Int) := by omega
          have ho2 : o ≤ 1099511627776 := by have := HM.out; omega
          rw [← ho] at HP
          clear hml ho
          go_wp2_with fail
          refine (demand_yes _ _).mono ?_
          rintro e w' ⟨rfl, rfl⟩
          go_wp2
          exact bodyPost_ret (results_It rfl rfl (heap_new _ _)) rfl ⟨(Below.refl _ _).alloc (Nat.le_refl _) _, .inl ⟨_, _, _, HP.out, rfl⟩⟩
      · have HP : Hid (itemA b n = (k, 0, 0, 0)) := by show _ = _; rw [HI.out, hL, if_pos hk]
        go_wp2
        exact ⟨rfl, (Below.refl _ _).alloc (Nat.le_refl _) _, .inr ⟨k, hk, HP.out, rfl⟩⟩

end Go.Proofs.Ytkghgfiindpcjaa
