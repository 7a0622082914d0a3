import Derived.Test.YtpipjkpjpkgmpaaDoorShQ
namespace Go.Proofs.YtpipjkpjpkgmpaaDoor
open Go.RowKit

theorem wpAnyH_op {P : Program} {ops : Array Oper} {Q : Exit → Act → World → Prop} {md : Region.Mode} {S : World → Prop} {i : Nat} {o : Oper} {fuel : Nat} {listed : Array Bool} {a : Act} {w : World} (hr : Region.ready md ops listed = [i]) (hi : ops[i]? = some o) (hw : Region.wanted o (yielded ops a.tmps) = true)
    (h : ∀ K : Act → World → Prop, (∀ a' w', S w' → wpAnyH P md ops Q S fuel (listed.setIfInBounds i true) a' w' → K a' w') → o.wp P a w K Q) : wpAnyH P md ops Q S (fuel + 1) listed a w := by
  refine ⟨fun h0 => (by rw [hr] at h0; cases h0), fun j hj => ?_⟩
  rw [hr] at hj
  obtain rfl := List.mem_singleton.1 hj
  unfold wpOp
  simp only [hi, hw, if_true]
  exact .inl (h _ fun a' w' h1 h2 => ⟨h1, h2⟩)
theorem pickn_any (i : Int) (n : Nat) (w : World) (_h1 : -9223372036854775808 ≤ i) (_h2 : i ≤ 9223372036854775807) (hn : 0 < n) (hn2 : n ≤ 1099511627776) :
    Calls Tryd.prog 36 #[.int .i64 i, .int .i64 (n : Nat)] w fun e w' => ∃ m : Nat, e = .returned (.int .i64 (m : Nat)) ∧ m < n ∧ w = w' := by
  have g1 : i.tmod n < n := Int.tmod_lt_of_pos _ (by omega)
  have g2 : -(n : Int) < i.tmod n := by
    have h : (-i).tmod n < n := Int.tmod_lt_of_pos _ (by omega)
    rw [Int.neg_tmod] at h
    omega
  have hq : decide ((n : Int) < 1) = false := decide_eq_false (by omega)
  have hn0 : ((n : Int) = 0) = False := by simp; omega
  go_enter Tryd.func36, Tryd.ntmps36
  obtain ⟨t, ht⟩ : ∃ t, i.tmod n = t := ⟨_, rfl⟩
  rw [ht] at g1 g2
  by_cases hneg : t < 0
  · have hd : decide (t < 0) = true := decide_eq_true hneg
    go_wp2_with (simp only [ht])
    go_ret
    exact ⟨(t + n).toNat, ret_int (by omega), by omega, rfl⟩
  · have hd : decide (t < 0) = false := decide_eq_false hneg
    go_wp2_with (simp only [ht])
    go_ret
    exact ⟨t.toNat, ret_int (by omega), by omega, rfl⟩
/-- A piece of a row, whichever its address. -/
theorem rd_cut {w : World} {p : Addr} {b : List Nat} {len cap : Nat} (h : Rd .u8 w (some p) b) (hl : b.length = len) (hcap : len ≤ cap) (lo n : Nat) (hlo : lo + n ≤ len) : Rd .u8 w (if cap = lo then some p else some (p.add lo)) ((b.drop lo).take n) := by
  intro j hj
  have hn : j < n ∧ j < b.length - lo := by simp at hj; omega
  obtain ⟨bb, off, e, hc⟩ := h.get (by omega)
  obtain rfl := Option.some.inj e
  rw [if_neg (by omega)]
  have ea : (⟨bb, off, none⟩ : Addr).add lo = ⟨bb, off + lo, none⟩ := by unfold Addr.add; split <;> simp_all
  rw [ea]
  refine ⟨bb, off + lo, rfl, fun i hi => ?_⟩
  have hn2 : i < n ∧ i < b.length - lo := by simp at hi; omega
  rw [show off + lo + i = off + (lo + i) by omega, hc (lo + i) (by omega)]
  simp [List.getD, List.getElem?_take, List.getElem?_drop, hn2.1]
theorem rd_add {w : World} {p : Addr} {b : List Nat} {len : Nat} (h : Rd .u8 w (some p) b) (hl : b.length = len) (lo n : Nat) (hlo : lo + n ≤ len) : Rd .u8 w (some (p.add lo)) ((b.drop lo).take n) := by
  have := rd_cut h hl (Nat.le_succ len) lo n hlo
  rwa [if_neg (by omega)] at this
theorem rd_pre {w : World} {a : Option Addr} {b : List Nat} (h : Rd .u8 w a b) (n : Nat) : Rd .u8 w a (b.take n) := by
  intro j hj
  have hn : j < n ∧ j < b.length := by simp at hj; omega
  obtain ⟨bb, off, e, hc⟩ := h.get (by omega)
  refine ⟨bb, off, e, fun i hi => ?_⟩
  have hn2 : i < n ∧ i < b.length := by simp at hi; omega
  rw [hc i hn2.2]
  simp [List.getD, List.getElem?_take, hn2.1]
/-- The block of a piece of a row that is no new one. -/
theorem cut_block {w : World} {a : Option Addr} {p : Addr} {l : List Nat} {n : Nat} (h : Rd .u8 w a l) (hn : l.length = n) (h0 : 0 < n) (ha : a = some p) : p.block < w.heap.size := by
  obtain ⟨bb, off, e, hc⟩ := h.get (by omega)
  rw [e] at ha
  obtain rfl := Option.some.inj ha
  exact World.block_lt_of_cell? w ⟨bb, off + 0, none⟩ (hc 0 (by omega))
end Go.Proofs.YtpipjkpjpkgmpaaDoor
