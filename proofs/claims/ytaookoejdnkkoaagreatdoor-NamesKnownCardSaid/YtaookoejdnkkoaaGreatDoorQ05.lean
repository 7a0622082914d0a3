import Derived.Test.YtaookoejdnkkoaaGreatDoorQ02
import Derived.Test.YtaookoejdnkkoaaGreatDoorQ04
import Derived.WalkSmall
import Derived.Defers
import Derived.Laws.NewBlocks
import Derived.Laws.Pointers
import Derived.Recover
namespace Go.Proofs.YtaookoejdnkkoaaGreatDoor
open Go.RowKit

/-! The program's reading of an item. -/
/-- Giving up with an error. -/
@[reducible] def pan (k : Int) : Ending := .panicked [{ v := .iface 194 (.int .i64 k), recovered := false }]
theorem demand_yes (k : Int) (w : World) : Calls Tryz.prog 187 #[.bool true, .int .i64 k] w fun e w' => e = .returned (.tuple #[]) ∧ w = w' := by
  go_enter Tryz.func187, Tryz.ntmps187
  go_wp2
  exact bodyPost_end (results_none rfl _ _ _) rfl ⟨rfl, rfl⟩
theorem demand_no (k : Int) (w : World) : Calls Tryz.prog 187 #[.bool false, .int .i64 k] w fun e w' => e = pan k ∧ w = w' := by
  go_enter Tryz.func187, Tryz.ntmps187
  go_wp2
  exact ⟨rfl, rfl, rfl⟩

def LenPost (b : List Nat) (at' : Nat) (w : World) (e : Ending) (w' : World) : Prop :=
  w = w' ∧ ((∃ n u, len0 (b.drop at') = (0, n, u) ∧ e = .returned (.tuple #[.int .u64 (n : Nat), .int .i64 ((at' + u : Nat) : Int)])) ∨ (∃ k, k ≠ 0 ∧ len0 (b.drop at') = (k, 0, 0) ∧ e = pan k))

set_option maxHeartbeats 800000 in
set_option maxRecDepth 100000 in
theorem lengthAt_any (a : Option Addr) (len cap : Nat) (b : List Nat) (at' : Nat) (w : World) (hl : b.length = len) (hbig : len ≤ 1099511627776) (hcap : len ≤ cap) (h8 : B8 b) (hr : Rd .u8 w a b) (hat : at' < len) :
    Calls Tryz.prog 232 #[.slice a len cap, .int .i64 (at' : Nat)] w (LenPost b at' w) := by
  obtain ⟨bb, off, rfl, hc⟩ := hr.get (by omega)
  obtain ⟨x, hx⟩ : ∃ x, x = at0 b at' := ⟨_, rfl⟩
  obtain ⟨r, hrr⟩ : ∃ r, r = b.drop (at' + 1) := ⟨_, rfl⟩
  have hd : b.drop at' = x :: r := by rw [hx, hrr, List.drop_eq_getElem_cons (by omega), at0_getElem (by omega)]
  have hx8 : x < 256 := by rw [hx]; exact h8.at0 _
  have hcell : w.cell? ⟨bb, off + at', none⟩ = some (.int .u8 (x : Nat)) := by rw [hx]; exact hc at' (by omega)
  have hrl : r.length = len - (at' + 1) := by rw [hrr, List.length_drop, hl]
  have HL := Lib.hid hl
  have HR := Lib.hid hr
  have HC := Lib.hid hc
  have HRR := Lib.hid hrr
  have HRL := Lib.hid hrl
  have H8 := Lib.hid h8
  unfold LenPost
  rw [hd]
  clear hx hr hc hrr h8 hl hd hrl
  by_cases h0 : x < 128
  · have hq : decide ((x : Int) < 128) = true := decide_eq_true (by omega)
    have HP : Hid (len0 (x :: r) = (0, x, 1)) := by show _ = _; rw [len0, if_pos h0]
    go_enter Tryz.func232, Tryz.ntmps232
    go_wp2
    go_ret2
    exact ⟨rfl, .inl ⟨_, _, HP.out, rfl⟩⟩
  · have hq : decide ((x : Int) < 128) = false := decide_eq_false (by omega)
    obtain ⟨n, hn⟩ : ∃ n, n = x - 128 := ⟨_, rfl⟩
    have hn1 : (x : Int) - 128 = (n : Int) := by omega
    have hn2 : n < 256 := by omega
    by_cases h1 : x = 128 ∨ 132 < x
    · have HP : Hid (len0 (x :: r) = (72, 0, 0)) := by show _ = _; rw [len0, if_neg h0, if_pos h1]
      have hq1 : (decide ((1 : Int) ≤ (n : Int)) = false) ∨ (decide ((1 : Int) ≤ (n : Int)) = true ∧ decide ((n : Int) ≤ 4) = false) := by
        by_cases hz : n = 0
        · exact .inl (decide_eq_false (by omega))
        · exact .inr ⟨decide_eq_true (by omega), decide_eq_false (by omega)⟩
      clear hn h1
      rcases hq1 with hq1 | ⟨hq1, hq2⟩
      · go_enter Tryz.func232, Tryz.ntmps232
        go_wp2_with (go_at_call 187; refine (demand_no _ _).mono ?_; rintro e w' ⟨rfl, rfl⟩)
        exact ⟨rfl, rfl, .inr ⟨72, by decide, HP.out, rfl⟩⟩
      · go_enter Tryz.func232, Tryz.ntmps232
        go_wp2_with (go_at_call 187; refine (demand_no _ _).mono ?_; rintro e w' ⟨rfl, rfl⟩)
        exact ⟨rfl, rfl, .inr ⟨72, by decide, HP.out, rfl⟩⟩
    · have hq1 : decide ((1 : Int) ≤ (n : Int)) = true := decide_eq_true (by omega)
      have hq2 : decide ((n : Int) ≤ 4) = true := decide_eq_true (by omega)
      have hn3 : 1 ≤ n := by omega
      have hn4 : n ≤ 4 := by omega
      by_cases h2 : r.length < n
      · have HP : Hid (len0 (x :: r) = (70, 0, 0)) := by show _ = _; rw [len0, if_neg h0, if_neg h1, if_pos (by omega)]
        have hq3 : decide ((n : Int) ≤ (len : Int) - ((at' : Int) + 1)) = false := decide_eq_false (by have := HRL.out; omega)
        clear hn h1 h2
        go_enter Tryz.func232, Tryz.ntmps232
        go_wp2_with fail
        refine (demand_yes _ _).mono ?_
        rintro e w' ⟨rfl, rfl⟩
        go_wp2_with fail
        refine (demand_no _ _).mono ?_
        rintro e w' ⟨rfl, rfl⟩
        go_wp2
        exact ⟨rfl, rfl, .inr ⟨70, by decide, HP.out, rfl⟩⟩
      · have hq3 : decide ((n : Int) ≤ (len : Int) - ((at' : Int) + 1)) = true := decide_eq_true (by have := HRL.out; omega)
        have HV : Hid (len0 (x :: r) = if bval (r.take n) < 128 ∨ at0 r 0 = 0 then (72, 0, 0) else (0, bval (r.take n), 1 + n)) := by
          show _ = _
          rw [len0, if_neg h0, if_neg h1, if_neg (by omega), ← hn]
        have hfit : at' + 1 + n ≤ len := by have := HRL.out; omega
        have HNR : Hid (n ≤ r.length) := by show n ≤ _; omega
        have hcc : (cap : Int) - ((at' : Int) + 1) = ((cap - (at' + 1) : Nat) : Int) := by omega
        have hcn : ¬ cap = at' + 1 := by omega
        clear hn h1 h2
        go_enter Tryz.func232, Tryz.ntmps232
        go_wp2_with fail
        refine (demand_yes _ _).mono ?_
        rintro e w' ⟨rfl, rfl⟩
        go_wp2_with fail
        refine (demand_yes _ _).mono ?_
        rintro e w' ⟨rfl, rfl⟩
        go_wp2_with fail
        go_loop [9, 47] (fun vv iv => ∃ (i L : Nat), i ≤ n ∧ iv = .int .i64 (i : Nat) ∧ vv = .int .u64 (L : Nat) ∧ Hid (L = bval (r.take i))) (fun _ iv => n - (intOf iv).toNat)
        case atStart => exact ⟨0, 0, Nat.zero_le _, rfl, rfl, rfl⟩
        case round =>
          obtain ⟨i, L, hi, rfl, rfl, HLL⟩ := hrel
          by_cases hlt : i < n
          · have hLb : L < 16777216 := by
              have h1 := bval_lt (l := r.take i) (by rw [HRR.out]; exact (H8.out.drop _).take _)
              have h2 : (256 : Nat) ^ (r.take i).length ≤ 256 ^ 3 := Nat.pow_le_pow_right (by decide) (by rw [List.length_take]; omega)
              have h3 : (256 : Nat) ^ 3 = 16777216 := by decide
              rw [HLL.out]; omega
            obtain ⟨c, hcE⟩ : ∃ c, c = at0 r i := ⟨_, rfl⟩
            have hc8 : c < 256 := by rw [hcE, HRR.out]; exact (H8.out.drop _).at0 _
            have hce : w.cell? ⟨bb, off + (at' + 1) + i, none⟩ = some (.int .u8 (c : Nat)) := by
              rw [show off + (at' + 1) + i = off + (at' + 1 + i) by omega, HC.out _ (by rw [HL.out]; omega), hcE, HRR.out, at0_drop]
              rfl
            have HS : Hid (L * 256 + c = bval (r.take (i + 1))) := by
              show _ = _
              rw [take_succ_at0 (by have := HNR.out; omega), bval_snoc, ← HLL.out, ← hcE, Nat.mul_comm]
            obtain ⟨M, hM⟩ : ∃ M, M = L * 256 + c := ⟨_, rfl⟩
            have ho : bits BinOp.or IntKind.u64 ((L : Int) * 256) (c : Int) = (M : Int) := by
              have := or_low8 L c 8 (by decide) (by omega) (by omega)
              rw [hM, ← this]
              congr 1
            rw [← hM] at HS
            clear hcE hM
            go_wp2
            go_round
            case rel => exact ⟨i + 1, M, by omega, by go_num, rfl, HS.out⟩
            case measure => simp [intOf]; omega
          · obtain rfl : i = n := by omega
            have hV := HV.out
            rw [← HLL.out] at hV
            obtain ⟨z, hz⟩ : ∃ z, z = at0 r 0 := ⟨_, rfl⟩
            rw [← hz] at hV
            have hz0 : w.cell? ⟨bb, off + (at' + 1), none⟩ = some (.int .u8 (z : Nat)) := by
              rw [HC.out _ (by rw [HL.out]; omega), hz, HRR.out, at0_drop]
              rfl
            clear hz HV
            by_cases h3 : L < 128 ∨ z = 0
            · rw [if_pos h3] at hV
              have HP := Lib.hid hV
              clear hV
              have hor : ((z : Int) != 0) = false ∨ (((z : Int) != 0) = true ∧ decide ((128 : Int) ≤ (L : Int)) = false) := by
                by_cases hzz : z = 0
                · exact .inl (by subst hzz; rfl)
                · exact .inr ⟨by simp [hzz], decide_eq_false (by omega)⟩
              clear h3
              rcases hor with g1 | ⟨g1, g2⟩
              · go_wp2_with fail
                refine (demand_no _ _).mono ?_
                rintro e w' ⟨rfl, rfl⟩
                go_wp2
                exact ⟨rfl, rfl, .inr ⟨72, by decide, HP.out, rfl⟩⟩
              · go_wp2_with fail
                refine (demand_no _ _).mono ?_
                rintro e w' ⟨rfl, rfl⟩
                go_wp2
                exact ⟨rfl, rfl, .inr ⟨72, by decide, HP.out, rfl⟩⟩
            · rw [if_neg h3] at hV
              have HP := Lib.hid hV
              clear hV
              have g1 : ((z : Int) != 0) = true := by simp; omega
              have g2 : decide ((128 : Int) ≤ (L : Int)) = true := decide_eq_true (by omega)
              clear h3
              go_wp2_with fail
              refine (demand_yes _ _).mono ?_
              rintro e w' ⟨rfl, rfl⟩
              go_wp2
              go_ret2
              exact ⟨rfl, .inl ⟨_, _, HP.out, by rw [show ((at' + (1 + i) : Nat) : Int) = (at' : Int) + 1 + (i : Int) by omega]; rfl⟩⟩

/-- What reading an item gives. -/
def ItemPost (b : List Nat) (i : Int × Nat × Nat × Nat) (w : World) (e : Ending) (w' : World) : Prop :=
  Below w.heap.size w w' ∧ ((∃ t f o, i = (0, t, f, o) ∧ e = .returned (.agg #[.int .u8 (t : Nat), .int .i64 (f : Nat), .int .i64 (o : Nat)])) ∨ (∃ k, k ≠ 0 ∧ i = (k, 0, 0, 0) ∧ e = pan k))

theorem infoIt : (Tryz.prog.info? 209).map (·.size) = some 3 := by kernel_rfl
theorem results_It {fn : Func} {p : Tmp} (h : fn.results = #[.cell p 209]) {tmps : Array Value} {w : World} {g : Nat} {x y z : Value} {T : TypeId}
    (hp : tmps.getD p undef = .pointer (some ⟨g, 0, none⟩)) (hg : w.heap[g]? = some (.cells #[x, y, z] T (0, 0))) :
    (results fn tmps).run Tryz.prog w = .ok (.agg #[x, y, z]) w :=
  results_cell_row h tmps _ g _ #[x, y, z] (0, 0) _ hp hg Tryz.underlying209 rfl infoIt
set_option maxHeartbeats 800000 in
set_option maxRecDepth 100000 in
theorem itemAt_any (a : Option Addr) (len cap : Nat) (b : List Nat) (at' : Int) (w : World) (hl : b.length = len) (hbig : len ≤ 1099511627776) (hcap : len ≤ cap) (h8 : B8 b) (hr : Rd .u8 w a b) (ha1 : -9223372036854775808 ≤ at') (ha2 : at' ≤ 9223372036854775807) :
    Calls Tryz.prog 215 #[.slice a len cap, .int .i64 at'] w (ItemPost b (itemI b at') w) := by
  have HL := Lib.hid hl
  have HR := Lib.hid hr
  have H8 := Lib.hid h8
  unfold ItemPost
  clear hl hr h8
  by_cases h0 : at' < 0 ∨ (len : Int) < at'
  · have HP : Hid (itemI b at' = (2, 0, 0, 0)) := by show _ = _; rw [itemI, if_pos (by rw [HL.out]; exact h0)]
    have hor : decide ((0 : Int) ≤ at') = false ∨ (decide ((0 : Int) ≤ at') = true ∧ decide (at' ≤ (len : Int)) = false) := by
      by_cases h1 : at' < 0
      · exact .inl (decide_eq_false (by omega))
      · exact .inr ⟨decide_eq_true (by omega), decide_eq_false (by omega)⟩
    clear h0
    rcases hor with g1 | ⟨g1, g2⟩
    all_goals
      go_enter Tryz.func215, Tryz.ntmps215
      go_wp2_with fail
      refine (demand_no _ _).mono ?_
      rintro e w' ⟨rfl, rfl⟩
      go_wp2
      exact ⟨rfl, (Below.refl _ _).alloc (Nat.le_refl _) _, .inr ⟨2, by decide, HP.out, rfl⟩⟩
  · obtain ⟨n, rfl⟩ : ∃ n : Nat, at' = (n : Int) := ⟨at'.toNat, by omega⟩
    have hn : n ≤ len := by omega
    have g1 : decide ((0 : Int) ≤ (n : Int)) = true := decide_eq_true (by omega)
    have g2 : decide ((n : Int) ≤ (len : Int)) = true := decide_eq_true (by omega)
    rw [itemI_in (show n ≤ b.length by rw [HL.out]; exact hn)]
    clear h0
    by_cases h1 : len < n + 2
    · have HP : Hid (itemA b n = (70, 0, 0, 0)) := itemA_short (by rw [HL.out]; exact h1)
      have g3 : decide ((2 : Int) ≤ (len : Int) - (n : Int)) = false := decide_eq_false (by omega)
      clear h1
      go_enter Tryz.func215, Tryz.ntmps215
      go_wp2_with fail
      refine (demand_yes _ _).mono ?_
      rintro e w' ⟨rfl, rfl⟩
      go_wp2_with fail
      refine (demand_no _ _).mono ?_
      rintro e w' ⟨rfl, rfl⟩
      go_wp2
      exact ⟨rfl, (Below.refl _ _).alloc (Nat.le_refl _) _, .inr ⟨70, by decide, HP.out, rfl⟩⟩
    · have g3 : decide ((2 : Int) ≤ (len : Int) - (n : Int)) = true := decide_eq_true (by omega)
      have HI := Lib.hid (itemA_len (b := b) (a := n) (by rw [HL.out]; omega))
      have hn2 : n + 2 ≤ len := by omega
      clear h1
      obtain ⟨bb, off, rfl, hc⟩ := HR.out.get (by rw [HL.out]; omega)
      obtain ⟨x, hx⟩ : ∃ x, x = at0 b n := ⟨_, rfl⟩
      have hcell : w.cell? ⟨bb, off + n, none⟩ = some (.int .u8 (x : Nat)) := by rw [hx]; exact hc n (by rw [HL.out]; omega)
      have HX := Lib.hid hx
      have hbl : bb < w.heap.size := World.block_lt_of_cell? w ⟨bb, off + n, none⟩ hcell
      clear hx hc
      go_enter Tryz.func215, Tryz.ntmps215
      go_wp2_with fail
      refine (demand_yes _ _).mono ?_
      rintro e w' ⟨rfl, rfl⟩
      go_wp2_with fail
      refine (demand_yes _ _).mono ?_
      rintro e w' ⟨rfl, rfl⟩
      go_wp2_with fail
      have hcall := lengthAt_any (some ⟨bb, off, none⟩) len cap b (n + 1) (w.alloc (.cells #[.int .u8 0, .int .i64 0, .int .i64 0] 209)) HL.out hbig hcap H8.out (HR.out.below ((Below.refl _ _).alloc (Nat.le_refl _) _)) (by omega)
      rw [show ((n + 1 : Nat) : Int) = (n : Int) + 1 by omega] at hcall
      refine hcall.mono ?_
      rintro e w' ⟨rfl, ⟨L, u, hL, rfl⟩ | ⟨k, hk, hL, rfl⟩⟩
      · have hu := len0_lt (H8.out.drop _) hL
        rw [List.length_drop, HL.out] at hu
        have hI := HI.out
        rw [hL] at hI
        obtain ⟨f, hf⟩ : ∃ f, f = n + 1 + u := ⟨_, rfl⟩
        rw [← hf] at hI ⊢
        have hfl : f ≤ len := by omega
        obtain ⟨m, hm⟩ : ∃ m, m = len - f := ⟨_, rfl⟩
        have hm1 : (len : Int) - (f : Int) = (m : Int) := by omega
        have hLb : L < 4294967296 := hu.1
        rw [HL.out, ← hm, ← HX.out] at hI
        have HIH := Lib.hid hI
        have HM := Lib.hid hm
        clear hI hL hu hf hm hcall
        by_cases hml : m < L
        · have HP : Hid (itemA b n = (70, 0, 0, 0)) := by have := HIH.out; rw [if_neg (by simp), if_pos (by simpa using hml)] at this; exact this
          have g4 : decide (L ≤ m) = false := decide_eq_false (by omega)
          clear hml
          go_wp2_with fail
          refine (demand_no _ _).mono ?_
          rintro e w' ⟨rfl, rfl⟩
          go_wp2
          exact ⟨rfl, (Below.refl _ _).alloc (Nat.le_refl _) _, .inr ⟨70, by decide, HP.out, rfl⟩⟩
        · have HP : Hid (itemA b n = (0, x, f, f + L)) := by have := HIH.out; rw [if_neg (by simp), if_neg (by simpa using hml)] at this; exact this
          have g4 : decide (L ≤ m) = true := decide_eq_true (by omega)
          obtain ⟨o, ho⟩ : ∃ o, o = f + L := ⟨_, rfl⟩
          have ho1 : (f : Int) + (L : Int) = (o : Int) := by omega
          have ho2 : o ≤ 1099511627776 := by have := HM.out; omega
          rw [← ho] at HP
          clear hml ho
          go_wp2_with fail
          refine (demand_yes _ _).mono ?_
          rintro e w' ⟨rfl, rfl⟩
          go_wp2
          exact bodyPost_ret (results_It rfl rfl (heap_new _ _)) rfl ⟨(Below.refl _ _).alloc (Nat.le_refl _) _, .inl ⟨_, _, _, HP.out, rfl⟩⟩
      · have HP : Hid (itemA b n = (k, 0, 0, 0)) := by show _ = _; rw [HI.out, hL, if_pos hk]
        go_wp2
        exact ⟨rfl, (Below.refl _ _).alloc (Nat.le_refl _) _, .inr ⟨k, hk, HP.out, rfl⟩⟩

/-! What is given up is caught. -/
theorem run_assert_ref (xT : TypeId) (v : Value) (w : World) : (Instr.typeAssert (.iface 194 v) xT 194 false).run Tryz.prog w = .ok v w := by
  simp [Instr.typeAssert, run_underlying Tryz.underlying194, go_sem, Result.andThen]
def KeepE (g : Nat) (Post : Ending → World → Prop) : Prop := ∀ e w', Post e w' → w'.heap[g]? = some (.cells #[.int .i64 0] 28 (0, 0)) ∧ ((∃ v, e = .returned v) ∨ (∃ k, e = pan k))
theorem results_cc {P : Program} {fn : Func} {p q : Tmp} {T E : TypeId} (h : fn.results = #[.cell p T, .cell q E]) {tmps : Array Value} {w : World} {a b : Addr} {v k : Value}
    (hp : tmps.getD p undef = .pointer (some a)) (hq : tmps.getD q undef = .pointer (some b)) (hv : (loadVar T a).run P w = .ok v w) (hk : (loadVar E b).run P w = .ok k w) :
    (results fn tmps).run P w = .ok (.tuple #[v, k]) w := by
  have hp' : tmps[p]?.getD undef = .pointer (some a) := by simpa using hp
  have hq' : tmps[q]?.getD undef = .pointer (some b) := by simpa using hq
  simp [results, h, hp', hq', asAddr, hv, hk, Result.andThen]
theorem catch_b_panicking (p : Addr) (x k : Int) (older : List PanicEntry) (w : World) (hc : w.cell? p = some (.int .i64 x)) (hz : w.frozen? p = false) :
    CallsD Tryz.prog 184 #[.pointer (some p)] (.panicking ({ v := .iface 194 (.int .i64 k), recovered := false } :: older)) w fun e u' w' =>
      e = .returned (.tuple #[]) ∧ u' = .panicking ({ v := .iface 194 (.int .i64 k), recovered := true } :: older) ∧ w' = w.setCell p (.int .i64 k) := by
  refine callsD_of_wpS Tryz.func184 rfl fun c₀ cs hu => ?_
  apply wpS_seq
  apply wpS_region
  simp [wpOpsS, go_sem, recoverD, hu, Tryz.ntmps184, Exit.thenS]
  apply wpS_seq
  apply wpS_region
  simp [wpOpsS, go_sem, Exit.thenS]
  refine wpS_cond (t := true) (by simp [Act.eval, Array.replicate]) ?_
  simp only [if_true]
  apply wpS_region
  simp [wpOpsS, go_sem, run_assert_ref, hc, hz, bodyPostS, results, Tryz.results184]

theorem catch_b_idle (p : Addr) (w : World) :
    CallsD Tryz.prog 184 #[.pointer (some p)] .returning w fun e u' w' => e = .returned (.tuple #[]) ∧ u' = .returning ∧ w' = w := by
  refine callsD_of_wpS Tryz.func184 rfl fun c₀ cs hu => ?_
  apply wpS_seq
  apply wpS_region
  simp [wpOpsS, go_sem, recoverD, hu, Tryz.ntmps184, Exit.thenS]
  apply wpS_seq
  apply wpS_region
  simp [wpOpsS, go_sem, Exit.thenS]
  refine wpS_cond (t := false) (by simp [Act.eval, Array.replicate]) ?_
  simp only [Bool.false_eq_true, if_false]
  refine wpS_of_wp (wp_skip ?_)
  cases c₀
  simp_all [bodyPostS, results, Tryz.results184]

set_option maxHeartbeats 800000 in
theorem caught_b (cap : Array Value) (w : World) {Post : Ending → World → Prop} (hcall : Calls Tryz.prog 143 cap (w.alloc (.cells #[.int .i64 0] 28)) Post) (hpost : KeepE w.heap.size Post) :
    Calls Tryz.prog 142 #[.func (.func 143) #[] cap] w fun e w' => ∃ e0 w0, Post e0 w0 ∧
      ((∃ v, e0 = .returned v ∧ e = .returned (.tuple #[v, .int .i64 0]) ∧ w' = w0.setCell ⟨w.heap.size, 0, none⟩ (.int .i64 0)) ∨
       (∃ k, e0 = pan k ∧ e = .returned (.tuple #[.slice none 0 0, .int .i64 k]) ∧ w' = w0.setCell ⟨w.heap.size, 0, none⟩ (.int .i64 k))) := by
  have hmf : ∀ (fn : Fn) (first cap : Array Value) (w : World), (Instr.makeFunc fn first cap).run Tryz.prog w = .ok (.func fn first cap) w := fun _ _ _ _ => rfl
  have HP := Lib.hid hpost
  clear hpost
  go_enter_defers Tryz.func142, Tryz.ntmps142
  go_wp2_with fail
  refine hcall.mono ?_
  intro e w1 h1
  obtain ⟨hb, hor⟩ := HP.out e w1 h1
  have HPO := Lib.hid h1
  have hc := cell_alloc (i := 0) hb
  have hz := frozen_alloc (i := 0) hb
  clear hcall HP h1 hb
  rcases hor with ⟨v, rfl⟩ | ⟨k, rfl⟩
  · go_wp2
    refine leaves_cons (f := 184) (args := #[.pointer (some ⟨w.heap.size, 0, none⟩)]) (by simp) (by simp [go_sem]) ?_
    refine (catch_b_idle _ _).mono ?_
    rintro e u' w'' ⟨rfl, rfl, rfl⟩
    refine ⟨_, ?_, _, _, HPO.out, .inl ⟨v, rfl, rfl, rfl⟩⟩
    simp [results, Tryz.results142, go_sem, hc]
  · go_wp2
    refine leaves_cons (f := 184) (args := #[.pointer (some ⟨w.heap.size, 0, none⟩)]) (by simp) (by simp [go_sem]) ?_
    refine (catch_b_panicking _ 0 k [] _ ?_ hz).mono ?_
    · rw [hc]; rfl
    rintro e u' w'' ⟨rfl, rfl, rfl⟩
    refine ⟨_, ?_, _, _, HPO.out, .inr ⟨k, rfl, rfl, rfl⟩⟩
    simp [results, Tryz.results142, go_sem, hc]

theorem catch_k_panicking (p : Addr) (x k : Int) (older : List PanicEntry) (w : World) (hc : w.cell? p = some (.int .i64 x)) (hz : w.frozen? p = false) :
    CallsD Tryz.prog 214 #[.pointer (some p)] (.panicking ({ v := .iface 194 (.int .i64 k), recovered := false } :: older)) w fun e u' w' =>
      e = .returned (.tuple #[]) ∧ u' = .panicking ({ v := .iface 194 (.int .i64 k), recovered := true } :: older) ∧ w' = w.setCell p (.int .i64 k) := by
  refine callsD_of_wpS Tryz.func214 rfl fun c₀ cs hu => ?_
  apply wpS_seq
  apply wpS_region
  simp [wpOpsS, go_sem, recoverD, hu, Tryz.ntmps214, Exit.thenS]
  apply wpS_seq
  apply wpS_region
  simp [wpOpsS, go_sem, Exit.thenS]
  refine wpS_cond (t := true) (by simp [Act.eval, Array.replicate]) ?_
  simp only [if_true]
  apply wpS_region
  simp [wpOpsS, go_sem, run_assert_ref, hc, hz, bodyPostS, results, Tryz.results214]

theorem catch_k_idle (p : Addr) (w : World) :
    CallsD Tryz.prog 214 #[.pointer (some p)] .returning w fun e u' w' => e = .returned (.tuple #[]) ∧ u' = .returning ∧ w' = w := by
  refine callsD_of_wpS Tryz.func214 rfl fun c₀ cs hu => ?_
  apply wpS_seq
  apply wpS_region
  simp [wpOpsS, go_sem, recoverD, hu, Tryz.ntmps214, Exit.thenS]
  apply wpS_seq
  apply wpS_region
  simp [wpOpsS, go_sem, Exit.thenS]
  refine wpS_cond (t := false) (by simp [Act.eval, Array.replicate]) ?_
  simp only [Bool.false_eq_true, if_false]
  refine wpS_of_wp (wp_skip ?_)
  cases c₀
  simp_all [bodyPostS, results, Tryz.results214]

def Keep_k (g : Nat) (Post : Ending → World → Prop) : Prop := ∀ e w', Post e w' → w'.heap[g]? = some (.cells #[.slice none 0 0, .slice none 0 0] 25 (0, 0)) ∧ w'.heap[g + 1]? = some (.cells #[.int .i64 0] 28 (0, 0)) ∧ ((∃ (a1 : Option Addr) (n1 c1 : Nat) (a2 : Option Addr) (n2 c2 : Nat), e = .returned (.agg #[.slice a1 n1 c1, .slice a2 n2 c2])) ∨ (∃ k, e = pan k))
set_option maxHeartbeats 1600000 in
set_option maxRecDepth 100000 in
theorem caught_k (cap : Array Value) (w : World) {Post : Ending → World → Prop} (hcall : Calls Tryz.prog 182 cap ((w.alloc (.cells #[.slice none 0 0, .slice none 0 0] 25)).alloc (.cells #[.int .i64 0] 28)) Post) (hpost : Keep_k w.heap.size Post) :
    Calls Tryz.prog 181 #[.func (.func 182) #[] cap] w fun e w' => ∃ e0 w0, Post e0 w0 ∧
      ((∃ (a1 : Option Addr) (n1 c1 : Nat) (a2 : Option Addr) (n2 c2 : Nat), e0 = .returned (.agg #[.slice a1 n1 c1, .slice a2 n2 c2]) ∧ e = .returned (.tuple #[.agg #[.slice a1 n1 c1, .slice a2 n2 c2], .int .i64 0]) ∧ w' = ((w0.setCell ⟨w.heap.size, 0, none⟩ (.slice a1 n1 c1)).setCell ⟨w.heap.size, 1, none⟩ (.slice a2 n2 c2)).setCell ⟨w.heap.size + 1, 0, none⟩ (.int .i64 0)) ∨
       (∃ k, e0 = pan k ∧ e = .returned (.tuple #[.agg #[.slice none 0 0, .slice none 0 0], .int .i64 k]) ∧ w' = w0.setCell ⟨w.heap.size + 1, 0, none⟩ (.int .i64 k))) := by
  have hmf : ∀ (fn : Fn) (first cap : Array Value) (w : World), (Instr.makeFunc fn first cap).run Tryz.prog w = .ok (.func fn first cap) w := fun _ _ _ _ => rfl
  have HP := Lib.hid hpost
  clear hpost
  go_enter_defers Tryz.func181, Tryz.ntmps181
  go_wp2_with fail
  refine hcall.mono ?_
  intro e w1 h1
  obtain ⟨hb0, hb, hor⟩ := HP.out e w1 h1
  have HPO := Lib.hid h1
  have hc : w1.cell? ⟨w.heap.size + 1, 0, none⟩ = some (.int .i64 0) := cell_alloc (i := 0) hb
  have hz := frozen_alloc (i := 0) hb
  have H0 := Lib.hid hb0
  have HB := Lib.hid hb
  have hc0 : w1.cell? ⟨w.heap.size, 0, none⟩ = some (.slice none 0 0) := cell_alloc (i := 0) hb0
  have hz0 := frozen_alloc (i := 0) hb0
  have hc1 : w1.cell? ⟨w.heap.size, 1, none⟩ = some (.slice none 0 0) := cell_alloc (i := 1) hb0
  have hz1 := frozen_alloc (i := 1) hb0
  clear hcall HP h1 hb hb0
  rcases hor with ⟨a1, n1, c1, a2, n2, c2, rfl⟩ | ⟨k, rfl⟩
  · go_wp2
    refine leaves_cons (f := 214) (args := #[.pointer (some ⟨w.heap.size + 1, 0, none⟩)]) (by simp) (by simp [go_sem]) ?_
    refine (catch_k_idle _ _).mono ?_
    rintro e u' w'' ⟨rfl, rfl, rfl⟩
    refine ⟨_, ?_, _, _, HPO.out, .inl ⟨a1, n1, c1, a2, n2, c2, rfl, rfl, rfl⟩⟩
    have hb0 := H0.out
    have hb := HB.out
    have b0 := heap_setCell_same _ w.heap.size 0 _ _ (.slice a1 n1 c1) hb0
    have b1 := heap_setCell_same _ w.heap.size 1 _ _ (.slice a2 n2 c2) b0
    have o0 := other_set (i := 0) hb (show w.heap.size ≠ w.heap.size + 1 by omega) (.slice a1 n1 c1)
    have o1 := other_set (i := 1) o0 (show w.heap.size ≠ w.heap.size + 1 by omega) (.slice a2 n2 c2)
    have q0 := other_set (i := 0) b1 (show w.heap.size + 1 ≠ w.heap.size by omega) (.int .i64 0)
    have q1 := heap_setCell_same _ (w.heap.size + 1) 0 _ _ (.int .i64 0) o1
    have q2 := cell_alloc (i := 0) q1
    exact results_cc rfl rfl rfl (run_loadVar_row _ w.heap.size _ 25 #[.slice a1 n1 c1, .slice a2 n2 c2] _ _ q0 Tryz.underlying25 rfl infoKy) (by simp [go_sem, q2])
  · go_wp2
    refine leaves_cons (f := 214) (args := #[.pointer (some ⟨w.heap.size + 1, 0, none⟩)]) (by simp) (by simp [go_sem]) ?_
    refine (catch_k_panicking _ 0 k [] _ ?_ hz).mono ?_
    · exact hc
    rintro e u' w'' ⟨rfl, rfl, rfl⟩
    refine ⟨_, ?_, _, _, HPO.out, .inr ⟨k, rfl, rfl, rfl⟩⟩
    have hb0 := H0.out
    have hb := HB.out
    have q0 := other_set (i := 0) hb0 (show w.heap.size + 1 ≠ w.heap.size by omega) (.int .i64 k)
    have q1 := heap_setCell_same _ (w.heap.size + 1) 0 _ _ (.int .i64 k) hb
    have q2 := cell_alloc (i := 0) q1
    exact results_cc rfl rfl rfl (run_loadVar_row _ w.heap.size _ 25 #[.slice none 0 0, .slice none 0 0] _ _ q0 Tryz.underlying25 rfl infoKy) (by simp [go_sem, q2])

/-! The program's Item. -/
theorem rd_alloc {w : World} {a : Option Addr} {b : List Nat} (h : Rd .u8 w a b) (o : Obj) : Rd .u8 (w.alloc o) a b := h.below ((Below.refl _ _).alloc (Nat.le_refl _) _)

theorem results_tmp4 {fn : Func} {t u v x : Tmp} (h : fn.results = #[.tmp t, .tmp u, .tmp v, .tmp x]) (tmps : Array Value) (P : Program) (w : World) :
    (results fn tmps).run P w = .ok (.tuple #[tmps.getD t undef, tmps.getD u undef, tmps.getD v undef, tmps.getD x undef]) w := by
  simp [results, h]
theorem kept2 {W w' : World} {A B : Obj} (hb : Below ((W.alloc A).alloc B).heap.size ((W.alloc A).alloc B) w') : w'.heap[W.heap.size]? = some A ∧ w'.heap[W.heap.size + 1]? = some B := by
  constructor
  · rw [hb.block _ (by simp; omega), heap_alloc2_old]
  · rw [hb.block _ (by simp), heap_alloc2_new]
end Go.Proofs.YtaookoejdnkkoaaGreatDoor
