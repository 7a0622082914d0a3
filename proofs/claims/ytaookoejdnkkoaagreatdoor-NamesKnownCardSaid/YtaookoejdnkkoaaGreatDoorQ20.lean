import Derived.Test.YtaookoejdnkkoaaGreatDoorQGA
import Derived.Test.YtaookoejdnkkoaaGreatDoorCards
import Derived.Test.YtaookoejdnkkoaaGreatDoorTie
import Derived.ChangeMaps5
import Derived.Deep.DeepHandedRow
import Derived.LaidOnce
import Derived.Lay
import Derived.OpenShut
import Derived.ProofKit
import Derived.SevenTiedAt
import Derived.Test.YtaookoejdnkkoaaGreatDoorQ07
import Derived.Test.YtaookoejdnkkoaaGreatDoorQ09
import Derived.Test.YtaookoejdnkkoaaGreatDoorQ15
namespace Go.Proofs.YtaookoejdnkkoaaGreatDoor
open Go.RowKit

open Go.ChangeShapes Go.WideShapes Go.ChangeAt Go.RowKit

/-! What is laid. -/
theorem laid_step {w : World} {n : String} {d : DataW Unit} {rest : List (String × DataW Unit)} {ps : List MemPlace} (h : DataW.LaidVars Tryz.prog w ((n, d) :: rest) ps) :
    (∃ g t cs f p, Tryz.prog.globalNamed n = some g ∧ (Tryz.prog.globals[g]?).map (·.type) = some t ∧ w.var? Tryz.prog n = some cs ∧ DataW.trod (fun _ => ()) Tryz.prog w 0 (fun _ => true) false f t cs.toList = some (d, p)) ∧ ∃ qs, DataW.LaidVars Tryz.prog w rest qs := by
  obtain ⟨g, t, cs, f, p, q, hg, ht, hv, hd, hr, _⟩ := h
  exact ⟨⟨g, t, cs, f, p, hg, ht, hv, hd⟩, q, hr⟩
theorem laid_mem {w : World} : ∀ {l : List (String × DataW Unit)} {ps : List MemPlace}, DataW.LaidVars Tryz.prog w l ps → ∀ n d, (n, d) ∈ l →
    ∃ g t cs f p, Tryz.prog.globalNamed n = some g ∧ (Tryz.prog.globals[g]?).map (·.type) = some t ∧ w.var? Tryz.prog n = some cs ∧ DataW.trod (fun _ => ()) Tryz.prog w 0 (fun _ => true) false f t cs.toList = some (d, p) := by
  intro l
  induction l with
  | nil => intro ps _ n d hm; cases hm
  | cons q l ih =>
    obtain ⟨n0, d0⟩ := q
    intro ps h n d hm
    obtain ⟨h1, qs, h2⟩ := laid_step h
    rcases List.mem_cons.1 hm with he | hm
    · cases he; exact h1
    · exact ih h2 n d hm

open Go.ChangeShapes Go.WideShapes Go.ChangeAt Go.RowKit

set_option maxRecDepth 100000 in
/-- A row of numbers of one cell each. -/
theorem rowIntsC {w : World} {f n : Nat} {t e : TypeId} {k : IntKind} {cs : List Value} {L : List Int} {p : List MemPlace} (ht : Tryz.prog.underlying t = some (.array n e)) (he : Tryz.prog.underlying e = some (.int k)) (hc : Tryz.prog.cellsOf e = 1)
    (h : DataW.trod (fun _ => ()) Tryz.prog w 0 (fun _ => true) false f t cs = some (.agg (L.map fun z => .lit (.int k z)), p)) : ∀ i, i < n → cs[i]? = some (.int k (L.getD i 0)) := by
  obtain ⟨xs, m, rfl, hx, hl, hn, hel⟩ := DataW.trod_array ht h
  intro i hi
  have h1 := hel i hi
  rw [hc, Nat.mul_one, List.getElem?_eq_getElem (show i < xs.length by omega)] at h1
  obtain ⟨z, hz, hz2, _⟩ := DataW.trod_int he h1
  have h2 : cs[i]? = some (.int k z) := by
    have h3 : ((cs.drop i).take 1)[0]? = some (.int k z) := by rw [hz]; rfl
    rw [List.getElem?_take, if_pos (by decide), List.getElem?_drop, Nat.add_zero] at h3
    exact h3
  rw [h2]
  have h4 : L.map (fun z => (DataW.lit (Lit.int k z) : DataW Unit)) = xs.map (·.1) := by
    have := (Prod.mk.inj hx).1
    injection this
  have h5 : (L.map (fun z => (DataW.lit (Lit.int k z) : DataW Unit)))[i]? = some (.lit (.int k z)) := by
    rw [h4, List.getElem?_map, List.getElem?_eq_getElem (show i < xs.length by omega), hz2]; rfl
  rw [List.getElem?_map] at h5
  cases h6 : L[i]? with
  | none => rw [h6] at h5; cases h5
  | some y =>
    rw [h6] at h5
    have h7 := Option.some.inj h5
    have h8 : y = z := by injection h7 with h7; injection h7
    simp [List.getD, h6, h8]

set_option maxRecDepth 100000 in
theorem ht_of {w : World} {l : List (String × DataW Unit)} {ps : List MemPlace} (h : DataW.LaidVars Tryz.prog w l ps) (hs : ("vouch/coding.hexWorths", (Rows.laid_vouch_coding_hexWorths : DataW Unit)) ∈ l) : HT w := by
  obtain ⟨gp, tP, csp, fp, pp, h1, h2, h3, h4⟩ := laid_mem h _ _ hs
  obtain rfl := Option.some.inj ((show Tryz.prog.globalNamed "vouch/coding.hexWorths" = some 2 by kernel_rfl).symm.trans h1)
  obtain rfl := Option.some.inj ((show (Tryz.prog.globals[2]?).map (·.type) = some 221 by kernel_rfl).symm.trans h2)
  have h5 : (Rows.laid_vouch_coding_hexWorths : DataW Unit) = .agg (hexT.map fun z => .lit (.int .i8 z)) := rfl
  rw [h5] at h4
  have h6 := rowIntsC Tryz.underlying221 Tryz.underlying220 (by kernel_rfl) h4
  intro i hi
  rw [World.var?_cell h1 h3]
  have h7 := h6 i hi
  rw [Array.getElem?_toList] at h7
  rw [h7]
  rfl
set_option maxRecDepth 100000 in
theorem bt_of {w : World} {l : List (String × DataW Unit)} {ps : List MemPlace} (h : DataW.LaidVars Tryz.prog w l ps) (hs : ("vouch/coding.base64Worths", (Rows.laid_vouch_coding_base64Worths : DataW Unit)) ∈ l) : BT w := by
  obtain ⟨gp, tP, csp, fp, pp, h1, h2, h3, h4⟩ := laid_mem h _ _ hs
  obtain rfl := Option.some.inj ((show Tryz.prog.globalNamed "vouch/coding.base64Worths" = some 3 by kernel_rfl).symm.trans h1)
  obtain rfl := Option.some.inj ((show (Tryz.prog.globals[3]?).map (·.type) = some 221 by kernel_rfl).symm.trans h2)
  have h5 : (Rows.laid_vouch_coding_base64Worths : DataW Unit) = .agg (b64T.map fun z => .lit (.int .i8 z)) := rfl
  rw [h5] at h4
  have h6 := rowIntsC Tryz.underlying221 Tryz.underlying220 (by kernel_rfl) h4
  intro i hi
  rw [World.var?_cell h1 h3]
  have h7 := h6 i hi
  rw [Array.getElem?_toList] at h7
  rw [h7]
  rfl

/-! The reference: the item at a place. -/
theorem i64_joinD (x y k : Nat) (hk : k ≤ 32) (hy : y < 2 ^ k) (hx : x * 2 ^ k < 9223372036854775808) : bits BinOp.or IntKind.i64 ((x * 2 ^ k : Nat) : Int) (y : Int) = ((x * 2 ^ k + y : Nat) : Int) := by
  have h2 : (2 : Nat) ^ k ≤ 2 ^ 32 := Nat.pow_le_pow_right (by decide) hk
  rw [i64_or_natural _ _ hx (by omega), nat_joinB k _ _ hy]
def RItPost (b : List Nat) (i : Int × Nat × Nat × Nat) (w : World) (e : Ending) (w' : World) : Prop :=
  w = w' ∧ ∃ (k : Int) (t f o : Nat), i = (k, t, f, o) ∧ e = .returned (.tuple #[.int .u8 (t : Nat), .int .i64 (f : Nat), .int .i64 (o : Nat), .int .i64 k])

set_option maxHeartbeats 1600000 in
set_option maxRecDepth 100000 in
theorem ritem_any (a : Option Addr) (len cap : Nat) (b : List Nat) (at' : Int) (w : World) (hl : b.length = len) (hbig : len ≤ 1099511627776) (h8 : B8 b) (hr : Rd .u8 w a b) (ha1 : -9223372036854775808 ≤ at') (ha2 : at' ≤ 9223372036854775807) :
    Calls Tryz.prog 93 #[.slice a len cap, .int .i64 at'] w (RItPost b (itemI b at') w) := by
  have HL := Lib.hid hl
  have HR := Lib.hid hr
  have H8 := Lib.hid h8
  unfold RItPost
  clear hl hr h8
  by_cases h0 : at' < 0 ∨ (len : Int) < at'
  · have HP : Hid (itemI b at' = (2, 0, 0, 0)) := by show _ = _; rw [itemI, if_pos (by rw [HL.out]; exact h0)]
    have hor : decide (at' < 0) = true ∨ (decide (at' < 0) = false ∧ decide ((len : Int) < at') = true) := by
      by_cases h1 : at' < 0
      · exact .inl (decide_eq_true h1)
      · exact .inr ⟨decide_eq_false h1, decide_eq_true (by omega)⟩
    clear h0
    rcases hor with g1 | ⟨g1, g2⟩
    all_goals
      go_enter Tryz.func93, Tryz.ntmps93
      go_wp2
      refine bodyPost_ret (results_tmp4 rfl _ _ _) rfl ?_
      exact ⟨rfl, _, _, _, _, HP.out, rfl⟩
  · obtain ⟨n, rfl⟩ : ∃ n : Nat, at' = (n : Int) := ⟨at'.toNat, by omega⟩
    have hn : n ≤ len := by omega
    have g1 : decide ((n : Int) < 0) = false := decide_eq_false (by omega)
    have g2 : decide (len < n) = false := decide_eq_false (by omega)
    rw [itemI_in (show n ≤ b.length by rw [HL.out]; exact hn)]
    clear h0
    by_cases h1 : len < n + 2
    · have HP : Hid (itemA b n = (70, 0, 0, 0)) := itemA_short (by rw [HL.out]; exact h1)
      have g3 : decide ((len : Int) - (n : Int) < 2) = true := decide_eq_true (by omega)
      clear h1
      go_enter Tryz.func93, Tryz.ntmps93
      go_wp2
      refine bodyPost_ret (results_tmp4 rfl _ _ _) rfl ?_
      exact ⟨rfl, _, _, _, _, HP.out, rfl⟩
    · have g3 : decide ((len : Int) - (n : Int) < 2) = false := decide_eq_false (by omega)
      have HI := Lib.hid (itemA_len (b := b) (a := n) (by rw [HL.out]; omega))
      have hn2 : n + 2 ≤ len := by omega
      clear h1
      obtain ⟨bb, off, rfl, hc⟩ := HR.out.get (by rw [HL.out]; omega)
      obtain ⟨T, hT⟩ : ∃ T, T = at0 b n := ⟨_, rfl⟩
      obtain ⟨x, hx⟩ : ∃ x, x = at0 b (n + 1) := ⟨_, rfl⟩
      obtain ⟨r, hrr⟩ : ∃ r, r = b.drop (n + 2) := ⟨_, rfl⟩
      have hcT : w.cell? ⟨bb, off + n, none⟩ = some (.int .u8 (T : Nat)) := by rw [hT]; exact hc n (by rw [HL.out]; omega)
      have hcx : w.cell? ⟨bb, off + (n + 1), none⟩ = some (.int .u8 (x : Nat)) := by rw [hx]; exact hc (n + 1) (by rw [HL.out]; omega)
      have hd : b.drop (n + 1) = x :: r := by rw [hx, hrr, List.drop_eq_getElem_cons (by rw [HL.out]; omega), at0_getElem (by rw [HL.out]; omega)]
      have hx8 : x < 256 := by rw [hx]; exact H8.out.at0 _
      have hrl : r.length = len - (n + 2) := by rw [hrr, List.length_drop, HL.out]
      have hI := HI.out
      rw [hd, HL.out, ← hT] at hI
      have HI := Lib.hid hI
      have HC := Lib.hid hc
      have HRR := Lib.hid hrr
      have HRL := Lib.hid hrl
      clear hI hT hx hrr hd hrl hc
      by_cases h2 : x < 128
      · have hI := HI.out
        rw [show len0 (x :: r) = (0, x, 1) by rw [len0, if_pos h2]] at hI
        simp only [ne_eq, not_true_eq_false, if_false] at hI
        have HI := Lib.hid hI
        have q1 : ((x : Int) == 128) = false := by simp; omega
        have q2 : decide ((132 : Int) < (x : Int)) = false := decide_eq_false (by omega)
        have q3 : decide ((128 : Int) < (x : Int)) = false := decide_eq_false (by omega)
        clear hI
        by_cases h3 : len - (n + 1 + 1) < x
        · have HP : Hid (itemA b n = (70, 0, 0, 0)) := by show _ = _; rw [HI.out, if_pos h3]
          have q4 : decide ((len : Int) - ((n : Int) + 2) < (x : Int)) = true := decide_eq_true (by omega)
          clear h2 h3
          go_enter Tryz.func93, Tryz.ntmps93
          go_wp2
          refine bodyPost_ret (results_tmp4 rfl _ _ _) rfl ?_
          exact ⟨rfl, _, _, _, _, HP.out, rfl⟩
        · have HP : Hid (itemA b n = (0, T, n + 1 + 1, n + 1 + 1 + x)) := by show _ = _; rw [HI.out, if_neg h3]
          have q4 : decide ((len : Int) - ((n : Int) + 2) < (x : Int)) = false := decide_eq_false (by omega)
          clear h2 h3
          go_enter Tryz.func93, Tryz.ntmps93
          go_wp2
          refine bodyPost_ret (results_tmp4 rfl _ _ _) rfl ?_
          exact ⟨rfl, _, _, _, _, HP.out, by rw [show ((n + 1 + 1 : Nat) : Int) = (n : Int) + 2 by omega, show ((n + 1 + 1 + x : Nat) : Int) = (n : Int) + 2 + (x : Int) by omega]; rfl⟩
      · by_cases h3 : x = 128 ∨ 132 < x
        · have HP : Hid (itemA b n = (72, 0, 0, 0)) := by
            have hI := HI.out
            rw [show len0 (x :: r) = (72, 0, 0) by rw [len0, if_neg h2, if_pos h3]] at hI
            exact hI
          have hor : ((x : Int) == 128) = true ∨ (((x : Int) == 128) = false ∧ decide ((132 : Int) < (x : Int)) = true) := by
            by_cases h4 : x = 128
            · exact .inl (by simp [h4])
            · exact .inr ⟨by simp; omega, decide_eq_true (by omega)⟩
          clear h3 h2
          rcases hor with q1 | ⟨q1, q2⟩
          all_goals
            go_enter Tryz.func93, Tryz.ntmps93
            go_wp2
            refine bodyPost_ret (results_tmp4 rfl _ _ _) rfl ?_
            exact ⟨rfl, _, _, _, _, HP.out, rfl⟩
        · have q1 : ((x : Int) == 128) = false := by simp; omega
          have q2 : decide ((132 : Int) < (x : Int)) = false := decide_eq_false (by omega)
          have q3 : decide ((128 : Int) < (x : Int)) = true := decide_eq_true (by omega)
          obtain ⟨K, hK⟩ : ∃ K, K = x - 128 := ⟨_, rfl⟩
          have hK1 : (x : Int) - 128 = (K : Int) := by omega
          have hK4 : K ≤ 4 := by omega
          have hK1' : 1 ≤ K := by omega
          by_cases h4 : r.length < K
          · have HP : Hid (itemA b n = (70, 0, 0, 0)) := by
              have hI := HI.out
              rw [show len0 (x :: r) = (70, 0, 0) by rw [len0, if_neg h2, if_neg h3, if_pos (by omega)]] at hI
              exact hI
            have q4 : decide ((len : Int) - ((n : Int) + 2) < (K : Int)) = true := decide_eq_true (by have := HRL.out; omega)
            clear h2 h3 h4 hK
            go_enter Tryz.func93, Tryz.ntmps93
            go_wp2
            refine bodyPost_ret (results_tmp4 rfl _ _ _) rfl ?_
            exact ⟨rfl, _, _, _, _, HP.out, rfl⟩
          · have q4 : decide ((len : Int) - ((n : Int) + 2) < (K : Int)) = false := decide_eq_false (by have := HRL.out; omega)
            have HV : Hid (len0 (x :: r) = if bval (r.take K) < 128 ∨ at0 r 0 = 0 then (72, 0, 0) else (0, bval (r.take K), 1 + K)) := by
              show _ = _
              rw [len0, if_neg h2, if_neg h3, if_neg (by omega), ← hK]
            have hfit : n + 2 + K ≤ len := by have := HRL.out; omega
            have HNR : Hid (K ≤ r.length) := by show K ≤ _; omega
            clear h2 h3 h4 hK
            go_enter Tryz.func93, Tryz.ntmps93
            go_wp2
            go_loop [8, 11] (fun vv iv => ∃ (i L : Nat), i ≤ K ∧ iv = .int .i64 (i : Nat) ∧ vv = .int .i64 (L : Nat) ∧ Hid (L = bval (r.take i))) (fun _ iv => K - (intOf iv).toNat)
            case atStart => exact ⟨0, 0, Nat.zero_le _, rfl, rfl, rfl⟩
            case round =>
              obtain ⟨i, L, hi, rfl, rfl, HLL⟩ := hrel
              have hLb' : L < 4294967296 := by
                have h1 := bval_lt (l := r.take i) (by rw [HRR.out]; exact (H8.out.drop _).take _)
                have h2 : (256 : Nat) ^ (r.take i).length ≤ 256 ^ 4 := Nat.pow_le_pow_right (by decide) (by rw [List.length_take]; omega)
                have h3 : (256 : Nat) ^ 4 = 4294967296 := by decide
                rw [HLL.out]; omega
              by_cases hlt : i < K
              · obtain ⟨c, hcE⟩ : ∃ c, c = at0 r i := ⟨_, rfl⟩
                have hc8 : c < 256 := by rw [hcE, HRR.out]; exact (H8.out.drop _).at0 _
                have hce : w.cell? ⟨bb, off + (n + 2 + i), none⟩ = some (.int .u8 (c : Nat)) := by
                  rw [HC.out _ (by rw [HL.out]; omega), hcE, HRR.out, at0_drop]
                  rfl
                have HS : Hid (L * 256 + c = bval (r.take (i + 1))) := by
                  show _ = _
                  rw [take_succ_at0 (by have := HNR.out; omega), bval_snoc, ← HLL.out, ← hcE, Nat.mul_comm]
                obtain ⟨M, hM⟩ : ∃ M, M = L * 256 + c := ⟨_, rfl⟩
                have ho : bits BinOp.or IntKind.i64 ((L : Int) * 256) (c : Int) = (M : Int) := by
                  have := i64_joinD L c 8 (by decide) (by omega) (by omega)
                  rw [hM, ← this]
                  congr 1
                rw [← hM] at HS
                clear hcE hM
                go_wp2
                go_round
                case rel => exact ⟨i + 1, M, by omega, by go_num, rfl, HS.out⟩
                case measure => simp [intOf]; omega
              · obtain rfl : i = K := by omega
                have hV := HV.out
                rw [← HLL.out] at hV
                obtain ⟨z, hz⟩ : ∃ z, z = at0 r 0 := ⟨_, rfl⟩
                rw [← hz] at hV
                have hz0 : w.cell? ⟨bb, off + (n + 2), none⟩ = some (.int .u8 (z : Nat)) := by
                  rw [HC.out _ (by rw [HL.out]; omega), hz, HRR.out, at0_drop]
                  rfl
                clear hz HV
                by_cases h3 : L < 128 ∨ z = 0
                · rw [if_pos h3] at hV
                  have HP : Hid (itemA b n = (72, 0, 0, 0)) := by
                    have hI := HI.out
                    rw [hV] at hI
                    exact hI
                  have hor : decide ((L : Int) < 128) = true ∨ (decide ((L : Int) < 128) = false ∧ ((z : Int) == 0) = true) := by
                    by_cases h5 : L < 128
                    · exact .inl (decide_eq_true (by omega))
                    · exact .inr ⟨decide_eq_false (by omega), by simp; omega⟩
                  clear h3 hV
                  rcases hor with g1 | ⟨g1, g2⟩
                  all_goals
                    go_wp2
                    refine bodyPost_ret (results_tmp4 rfl _ _ _) rfl ?_
                    exact ⟨rfl, _, _, _, _, HP.out, rfl⟩
                · rw [if_neg h3] at hV
                  have hI := HI.out
                  rw [hV] at hI
                  simp only [ne_eq, not_true_eq_false, if_false] at hI
                  have HI := Lib.hid hI
                  have g4 : decide ((L : Int) < 128) = false := decide_eq_false (by omega)
                  have g5 : ((z : Int) == 0) = false := by simp; omega
                  clear hI hV h3
                  by_cases h5 : len - (n + 1 + (1 + i)) < L
                  · have HP : Hid (itemA b n = (70, 0, 0, 0)) := by show _ = _; rw [HI.out, if_pos h5]
                    have q5 : decide ((len : Int) - ((n : Int) + 2 + (i : Int)) < (L : Int)) = true := decide_eq_true (by omega)
                    clear h5
                    go_wp2
                    refine bodyPost_ret (results_tmp4 rfl _ _ _) rfl ?_
                    exact ⟨rfl, _, _, _, _, HP.out, rfl⟩
                  · have HP : Hid (itemA b n = (0, T, n + 1 + (1 + i), n + 1 + (1 + i) + L)) := by show _ = _; rw [HI.out, if_neg h5]
                    have q5 : decide ((len : Int) - ((n : Int) + 2 + (i : Int)) < (L : Int)) = false := decide_eq_false (by omega)
                    clear h5
                    go_wp2
                    refine bodyPost_ret (results_tmp4 rfl _ _ _) rfl ?_
                    exact ⟨rfl, _, _, _, _, HP.out, by rw [show ((n + 1 + (1 + i) : Nat) : Int) = (n : Int) + 2 + (i : Int) by omega, show ((n + 1 + (1 + i) + L : Nat) : Int) = (n : Int) + 2 + (i : Int) + (L : Int) by omega]; rfl⟩

/-! The reference: a key's bytes. -/
theorem own8_of {w : World} {B n : Nat} {v : Value} {xs : List Value} {l : List Nat} (h : w.ownsRow B 5 1 v n xs) (hn : n = l.length) (hx : xs = u8s l) : own8 w B v l := by
  subst hn hx; exact h
theorem mod_next (N k : Nat) : N / 256 ^ k % 256 * 256 ^ k + N % 256 ^ k = N % 256 ^ (k + 1) := by
  rw [Nat.mod_pow_succ, Nat.mul_comm, Nat.add_comm]
theorem wrap_u8N (n : Nat) : IntKind.u8.wrap (n : Int) = ((n % 256 : Nat) : Int) := by
  rw [show IntKind.u8.wrap (n : Int) = (n : Int) % 256 from by simp [IntKind.wrap, IntKind.signed, IntKind.bits]]
  omega
/-- The bytes of the low part of a number. -/
structure LowB (N k : Nat) (l : List Nat) : Prop where
  len : l.length = k
  b8 : B8 l
  vl : bval l = N % 256 ^ k
  more : k = 0 ∨ 0 < N / 256 ^ (k - 1)
theorem LowB.next {N k : Nat} {l : List Nat} (h : LowB N k l) (hn : 0 < N / 256 ^ k) : LowB N (k + 1) ((N / 256 ^ k % 256) :: l) := by
  refine ⟨by simp [h.len], fun x hx => ?_, ?_, .inr (by simpa using hn)⟩
  · rcases List.mem_cons.1 hx with rfl | hx
    · exact Nat.mod_lt _ (by decide)
    · exact h.b8 x hx
  · rw [bval_cons, h.len, h.vl, mod_next]
theorem LowB.fin {N k : Nat} {l : List Nat} (h : LowB N k l) (h0 : N / 256 ^ k = 0) : BNum l N := by
  have hlt : N < 256 ^ k := by
    rcases Nat.div_eq_zero_iff.1 h0 with h1 | h1
    · exact absurd h1 (Nat.pos_iff_ne_zero.1 (Nat.pow_pos (by decide)))
    · exact h1
  have hv : bval l = N := by rw [h.vl, Nat.mod_eq_of_lt hlt]
  refine ⟨h.b8, fun hp => ?_, hv⟩
  rcases h.more with hk | hk
  · rw [h.len] at hp; omega
  · intro hz
    rcases l with _ | ⟨x, t⟩
    · simp at hp
    · have hx : x = 0 := hz
      subst hx
      have h1 := bval_lt (b8_tail h.b8)
      have h2 : bval (0 :: t) = bval t := by rw [bval_cons]; omega
      have h3 : t.length = k - 1 := by have := h.len; simp at this; omega
      rw [h2] at hv
      rw [h3, hv] at h1
      rw [Nat.div_eq_of_lt h1] at hk
      omega

set_option maxHeartbeats 1600000 in
set_option maxRecDepth 100000 in
theorem rlength7_any (N : Nat) (w : World) (hN : N < 4294967296) :
    Calls Tryz.prog 152 #[.int .i64 (N : Nat)] w (New8 (LenB N) w) := by
  unfold New8
  by_cases h0 : N < 128
  · have hq : decide ((N : Int) < 128) = true := decide_eq_true (by omega)
    go_enter Tryz.func152, Tryz.ntmps152
    go_wp2
    go_ret
    exact ⟨(Below.refl _ _).alloc (Nat.le_refl _) _, _, _, rfl, own8_lit w N, .inl ⟨h0, rfl⟩⟩
  · have hq : decide ((N : Int) < 128) = false := decide_eq_false (by omega)
    have hge : 128 ≤ N := by omega
    clear h0
    go_enter Tryz.func152, Tryz.ntmps152
    go_wp2
    go_loopw [0, 3] (fun nv lv wr => ∃ (k n : Nat) (l : List Nat), nv = .int .i64 (n : Nat) ∧ n < 4294967296 ∧ Hid (n = N / 256 ^ k) ∧ Hid (LowB N k l) ∧ Hid (own8 wr w.heap.size lv l) ∧ Hid (Below w.heap.size w wr)) (fun nv _ _ => (intOf nv).toNat)
    case atStart => exact ⟨0, N, [], rfl, hN, by show _ = _; simp, ⟨rfl, (fun x hx => by cases hx), by simp [bval, Nat.mod_one], .inl rfl⟩, World.ownsRow_nil _ _ _ _, Below.refl _ _⟩
    case round =>
      obtain ⟨k, n, l, rfl, hn, HNK, HLB, HO, HB⟩ := hrel
      by_cases hpos : 0 < n
      · have hq1 : decide ((0 : Int) < (n : Int)) = true := decide_eq_true (by omega)
        obtain ⟨a1, c1, hv, hc1, hr1, hn1, -⟩ := own8_open HO.out
        subst hv
        have HR1 := Lib.hid hr1
        have HN1 := Lib.hid hn1
        obtain ⟨m, hm⟩ : ∃ m, m = l.length := ⟨_, rfl⟩
        have HM := Lib.hid hm
        obtain ⟨y, hy⟩ : ∃ y, y = n % 256 := ⟨_, rfl⟩
        have hwr := wrap_u8N n
        rw [← hy] at hwr
        have hmod : (n : Int) % 256 = (y : Int) := by omega
        have hk4 : m ≤ 16 := by
          rcases HLB.out.more with h | h
          · rw [hm, HLB.out.len]; omega
          · rw [hm, HLB.out.len]
            refine Nat.le_of_not_lt fun hk => ?_
            have h1 : (256 : Nat) ^ 4 ≤ 256 ^ (k - 1) := Nat.pow_le_pow_right (by decide) (by omega)
            have h2 : (256 : Nat) ^ 4 = 4294967296 := by decide
            rw [Nat.div_eq_of_lt (by omega)] at h
            omega
        have HNX : Hid (LowB N (k + 1) (y :: l)) := by
          have := HLB.out.next (by rw [← HNK.out]; exact hpos)
          rw [← HNK.out, ← hy] at this
          exact this
        have hsz := HB.out.size
        obtain ⟨n2, hn2⟩ : ∃ n2, n2 = n / 256 := ⟨_, rfl⟩
        have hdv : (n : Int) / 256 = (n2 : Int) := by omega
        have HN2 : Hid (n2 = N / 256 ^ (k + 1)) := by show _ = _; rw [hn2, HNK.out, Nat.div_div_eq_div_mul, Nat.pow_succ]
        have hlt2 : n2 < n := by omega
        rw [← hm] at hc1 ⊢
        clear hr1 hn1 hm hy hn2 HLB HNK
        go_wp2_with (first
          | (at_builtin; refine wpl_appN 40 5 Tryz.underlying40 info8 rfl (by decide) rfl _ _ rfl w.heap.size (.slice none 0 0) 0 [] rfl (World.ownsRow_nil _ _ _ _) (some ⟨wr.heap.size, 0, none⟩) 1 1 rfl (u8s [y]) rfl (fun _ => (rd_lit wr y).news (by simp)) (fun h => by cases h) (u8s_one8 _) (by decide) (by simp; omega) ?_; intro v5 w5 hown hg _ _; have HOv5 := Lib.hid hown; have HGv5 := Lib.hid hg; clear hown hg)
          | (at_builtin; refine wpl_appN 40 5 Tryz.underlying40 info8 rfl (by decide) rfl _ _ rfl w.heap.size v5 (0 + 1) ([] ++ u8s [y]) rfl HOv5.out a1 m c1 rfl (u8s l) (by rw [u8s_len, HM.out]) (fun h => ((HR1.out.below ((Below.refl wr.heap.size wr).alloc (Nat.le_refl _) _)).below ((Below.refl _ _).grown HGv5.out (Nat.le_refl _) (fun q hq => by cases hq))).news (by rw [← HM.out]; exact h)) (fun _ h => HN1.out h) (u8s_one8 _) (by omega) (by have := HGv5.out.size; simp at this; omega) ?_; intro v6 w6 hown hg _ _; have HOv6 := Lib.hid hown; have HGv6 := Lib.hid hg; clear hown hg))
        have hown2 : own8 w6 w.heap.size v6 (y :: l) := own8_of HOv6.out (by have := HM.out; simp; omega) (by simp [u8s])
        have hb2 : Below w.heap.size w w6 := ((HB.out.alloc hsz _).grown HGv5.out (by simp; omega) (fun q hq => by cases hq)).grown HGv6.out (by have := HGv5.out.size; simp at this; omega) (fun q hq => (World.ownsRow.lt HOv5.out q hq).1)
        have HOF := Lib.hid hown2
        have HBF := Lib.hid hb2
        clear hown2 hb2 HOv5 HGv5 HOv6 HGv6 HO HB
        go_roundw
        case rel => exact ⟨k + 1, n2, y :: l, rfl, by omega, HN2.out, HNX.out, HOF.out, HBF.out⟩
        case measure => simp [intOf]; omega
      · obtain rfl : n = 0 := by omega
        have HBN := Lib.hid (HLB.out.fin HNK.out.symm)
        obtain ⟨a1, c1, hv, hc1, hr1, hn1, -⟩ := own8_open HO.out
        subst hv
        have HR1 := Lib.hid hr1
        have HN1 := Lib.hid hn1
        have hm4 : l.length ≤ 4 := bnum_len HBN.out (by simpa using hN)
        obtain ⟨m, hm⟩ : ∃ m, m = l.length := ⟨_, rfl⟩
        have HM := Lib.hid hm
        have hsz := HB.out.size
        rw [← hm] at hm4 hc1 ⊢
        clear hr1 hn1 hm HLB HNK
        go_wp2_with (first
          | (at_builtin; refine wpl_appN 40 5 Tryz.underlying40 info8 rfl (by decide) rfl _ _ rfl w.heap.size (.slice none 0 0) 0 [] rfl (World.ownsRow_nil _ _ _ _) (some ⟨wr.heap.size, 0, none⟩) 1 1 rfl (u8s [128 + m]) rfl (fun _ => (rd_lit wr (128 + m)).news (by simp)) (fun h => by cases h) (u8s_one8 _) (by decide) (by simp; omega) ?_; intro v5 w5 hown hg _ _; have HOv5 := Lib.hid hown; have HGv5 := Lib.hid hg; clear hown hg)
          | (at_builtin; refine wpl_appN 40 5 Tryz.underlying40 info8 rfl (by decide) rfl _ _ rfl w.heap.size v5 (0 + 1) ([] ++ u8s [128 + m]) rfl HOv5.out a1 m c1 rfl (u8s l) (by rw [u8s_len, HM.out]) (fun h => ((HR1.out.below ((Below.refl wr.heap.size wr).alloc (Nat.le_refl _) _)).below ((Below.refl _ _).grown HGv5.out (Nat.le_refl _) (fun q hq => by cases hq))).news (by rw [← HM.out]; exact h)) (fun _ h => HN1.out h) (u8s_one8 _) (by omega) (by have := HGv5.out.size; simp at this; omega) ?_; intro v6 w6 hown hg _ _; have HOv6 := Lib.hid hown; have HGv6 := Lib.hid hg; clear hown hg))
        have hown2 : own8 w6 w.heap.size v6 ((128 + m) :: l) := own8_of HOv6.out (by have := HM.out; simp; omega) (by simp [u8s])
        have hb2 : Below w.heap.size w w6 := ((HB.out.alloc hsz _).grown HGv5.out (by simp; omega) (fun q hq => by cases hq)).grown HGv6.out (by have := HGv5.out.size; simp at this; omega) (fun q hq => (World.ownsRow.lt HOv5.out q hq).1)
        have HOF := Lib.hid hown2
        have HBF := Lib.hid hb2
        clear hown2 hb2 HOv5 HGv5 HOv6 HGv6 HO HB
        go_wp2
        go_ret
        exact ⟨HBF.out, _, _, rfl, HOF.out, .inr ⟨hge, l, HBN.out, by rw [← HM.out]; exact hm4, by rw [HM.out]⟩⟩
end Go.Proofs.YtaookoejdnkkoaaGreatDoor
