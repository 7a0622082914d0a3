import Derived.Test.YtboebadpohjolaaNfD
import Derived.Test.YtboebadpohjolaaRnd
import Derived.LoopIn
import Derived.LoopNIn
import Derived.OwnWalkIn
import Derived.RangeFuncLeaves
import Derived.Shelf.RegionOpen
import Derived.TacticsInMore
namespace Go.Proofs.Ytboebadpohjolaa
open Go.RowKit Go.Shelf
attribute [local go_sem] Oper.semAt_some

/-! slices.Backward over a row of nodes. -/
theorem wplIn_loadN {F : Fence} {N : Nat} {w : World} {ops : Array Oper} {rest : List Oper} {o : Oper} {a : Act} {Q : Exit → Act → World → Prop} (x : Operand) (ho : o.op = .load 27 x) (hgd : o.guard = none)
    {g off : Nat} (hx : a.eval x = .pointer (some ⟨g, off, none⟩)) {k : Int} {s : S4} {m n : Int} {p : Value} (hr : w.rangeAt g off (nodeCells k s m n p))
    (h : wpListIn F N Try.prog ops Q rest (a.put o.dst (nodeVal k s m n p)) w) : wpListIn F N Try.prog ops Q (o :: rest) a w := by
  refine wpListIn_plain hgd fun K hK => ?_
  obtain ⟨d, hd, hd2⟩ := isRowNode
  refine ⟨fun f hf => (by simp [Oper.about, ho] at hf), ?_⟩
  rw [Oper.semAt_plain F a.eval o (fun c hc => by rw [ho] at hc; cases hc)]
  have hl := run_loadVar_mid (P := Try.prog) w g off 27 (nodeCells k s m n p) d hr hd hd2 (by rw [infoNode]; rfl)
  unfold execOp
  simp only [ho, hx, Instr.loadAt, Instr.sureAddr, Sem.run_bind, Sem.run_pure, Result.andThen_ok, hl]
  exact hK _ _ h
def backN (ps : List NT) (k : Nat) : Array Value := #[.int .i64 ((ps.length - 1 - k : Nat) : Int), (ps[ps.length - 1 - k]?.map NT.val).getD undef]
/-- What a round keeps: the iterator's own box, and what lay below. -/
def KeepB (B0 n0 : Nat) (W W' : World) : Prop := W'.heap[B0]? = W.heap[B0]? ∧ Below n0 W W'
set_option maxHeartbeats 2000000 in
set_option maxRecDepth 100000 in
theorem n_back {F : Fence} {n : Nat} (hF : F.fn 51) (hro : F.round = none) (hn : 1 ≤ n) (w0 w : World) (B0 : Nat) (ps : List NT) (a : Option Addr) (c : Nat) (hlen : ps.length ≤ 1099511627776)
    (hB0 : B0 < w.heap.size) (hb : Below w0.heap.size w0 w) (hc : w.cell? ⟨B0, 0, none⟩ = some (.slice a ps.length c)) (hrow : RowAt w0 a (ps.flatMap NT.cells)) (hps : ∀ t ∈ ps, t.Lies w0) :
    Rounds F n Try.prog 51 #[.pointer (some ⟨B0, 0, none⟩)] (backN ps) (KeepB B0 w0.heap.size) ps.length w := by
  intro l J W hW hJ hY h0
  have hcW := (hW.cell (p := ⟨B0, 0, none⟩) hB0).trans hc
  have hbW : Below w0.heap.size w0 W := hb.trans (hW.mono hb.size)
  obtain ⟨len, hl⟩ : ∃ len, ps.length = len := ⟨_, rfl⟩
  rw [hl] at hlen hc hcW hY ⊢
  have HY := Lib.hid hY
  have HROW := Lib.hid hrow
  have HPS := Lib.hid hps
  have HL := Lib.hid hl
  have HBW := Lib.hid hbW
  clear hY hrow hps hl hbW hJ hb
  refine callsIn_of_wp Try.func51 rfl hF ?_ hro
  simp only [Try.ntmps51, List.size_toArray, List.length_cons, List.length_nil, Nat.reduceAdd, Nat.reduceSub, Array.replicate_succ, Array.replicate_zero, List.push_toArray, List.append_toArray, List.nil_append, List.cons_append]
  gi_wp2
  gi_loopw [3] (fun i wr => ∃ (m k : Nat) (v : Int), m + k = len ∧ i = .int .i64 v ∧ v = (m : Int) - 1 ∧ wr.cell? ⟨B0, 0, none⟩ = some (.slice a len c) ∧ Hid (J k wr) ∧ Hid (Below w0.heap.size w0 wr)) (fun i _ => (intOf i + 1).toNat)
  case atStart => exact ⟨len, 0, _, by omega, rfl, rfl, hcW, h0, HBW.out⟩
  case round =>
    obtain ⟨m, k, v, hmk, rfl, hv, hcr, HJ, HB⟩ := hrel
    rcases m with _ | j
    · obtain rfl : v = -1 := by omega
      obtain rfl : k = len := by omega
      clear hmk hv
      gi_wp2
      go_end0
      exact ⟨⟨_, rfl⟩, HJ.out⟩
    · obtain rfl : v = (j : Int) := by omega
      have hjl : j < len := by omega
      have hip : j < ps.length := by rw [HL.out]; exact hjl
      obtain ⟨b, off, tk, tS, tm, tn, ta, tl, tc, tps, rfl, ht, htm, hra⟩ := lies_elem HROW.out HPS.out hip
      obtain ⟨fn, tmps, assign, body, hy, hR⟩ := HY.out k wr (by omega) HJ.out
      have henc : backN ps k = #[.int .i64 (j : Int), nodeVal tk tS tm tn (.slice ta tl tc)] := by
        have h1 : ps.length - 1 - k = j := by rw [HL.out]; omega
        unfold backN
        rw [h1, List.getElem?_eq_getElem hip, ht]
        rfl
      rw [henc] at hy
      have HR := Lib.hid hR
      have HRA := Lib.hid (rangeAt_below hra HB.out)
      have HMK := Lib.hid hmk
      clear henc hR ht hra hmk hip hv
      gi_wp2_with (refine wplIn_loadN (.tmp 15) rfl rfl (g := b) (off := off + j * 8) (k := tk) (s := tS) (m := tm) (n := tn) (p := .slice ta tl tc) ?_ ?_ ?_; rfl; exact HRA.out)
      refine HR.out.mono ?_
      rintro e W3 ⟨rfl, hJ3, hk3⟩
      have hc3 := (World.cell?_of_block (a := ⟨B0, 0, none⟩) hk3.1).trans hcr
      have HJ3 := Lib.hid hJ3
      have HB3 := Lib.hid (HB.out.trans hk3.2)
      clear hJ3 hk3
      gi_wp2
      go_roundw
      case rel => exact ⟨j, k + 1, _, (by have := HMK.out; omega), rfl, by go_num, hc3, HJ3.out, HB3.out⟩
      case measure => simp [intOf]
end Go.Proofs.Ytboebadpohjolaa
