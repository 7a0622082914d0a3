import Derived.Test.YtboebadpohjolaaNfRc
namespace Go.Proofs.Ytboebadpohjolaa
open Go.RowKit Go.Shelf
attribute [local go_sem] Oper.semAt_some

/-! slices.Backward over a row of numbers; an append inside a fence; the pure side of a choice. -/
theorem wplIn_app {F : Fence} {N : Nat} (T E : TypeId) (hT : Try.prog.underlying T = some (.slice E)) {z : Value} {bytes : Nat} (hI : (Try.prog.info? E).map (fun i => (i.zero, i.size, i.bytes)) = some (some z, 1, bytes)) (hzs : z.cells.size = 1) (hby : bytes ≤ 32)
    {w : World} {ops : Array Oper} {rest : List Oper} {o : Oper} {a : Act} {Q : Exit → Act → World → Prop} (hgd : o.guard = none) (s x : Operand)
    (ho : o.op = .call { callee := .builtin .append, args := #[s, x], argTypes := #[T, T] })
    (B : Nat) (v : Value) (n : Nat) (xs : List Value) (hs : a.eval s = v) (hown : w.ownsRow B E 1 v n xs) (b : Nat) (c : Value) (hx : a.eval x = .slice (some ⟨b, 0, none⟩) 1 1)
    (hc : w.cell? ⟨b, 0, none⟩ = some c) (h1 : c.oneCell' = true) (hn : n + 1 ≤ 4398046511104) (hB : B ≤ w.heap.size)
    (h : ∀ g cap w', w'.ownsRow B E 1 (.slice (some ⟨g, 0, none⟩) (n + 1) cap) (n + 1) (xs ++ [c]) → w.grownBy w' v.ownBlock → B ≤ g → g < w'.heap.size → Hid (v.ownBlock = some g ∨ g = w.heap.size) →
      wpListIn F N Try.prog ops Q rest (a.put o.dst (.slice (some ⟨g, 0, none⟩) (n + 1) cap)) w') :
    wpListIn F N Try.prog ops Q (o :: rest) a w := by
  refine wpListIn_plain hgd fun K hK => ?_
  obtain ⟨g, cap, w', hr, hown', hg, hBg, hlt, hor⟩ := run_app (P := Try.prog) T o.type E hT hI hzs hby B v n xs hown b c hc h1 hn hB
  refine ⟨?_, ?_⟩
  · simp [Oper.about, ho, resolve, Target.leads, Sem.run_pure]
  · rw [Oper.semAt_plain F _ _ (by rw [ho]; intro c hc'; cases hc')]
    unfold execOp
    simp only [ho, resolve, invoke, builtin, Sem.run_bind, Sem.run_pure, Result.andThen_ok, List.map_toArray, List.map_cons, List.map_nil, hs, hx, hr]
    exact hK _ _ (h g cap w' hown' hg hBg hlt hor)
def backI (bs : List Nat) (k : Nat) : Array Value := #[.int .i64 ((bs.length - 1 - k : Nat) : Int), .int .i64 ((bs[bs.length - 1 - k]?.getD 0 : Nat) : Int)]
def KeepG (B0 g : Nat) (W W' : World) : Prop := W'.heap[B0]? = W.heap[B0]? ∧ W'.heap[g]? = W.heap[g]?
set_option maxHeartbeats 2000000 in
set_option maxRecDepth 100000 in
theorem n_backI {F : Fence} {n : Nat} (hF : F.fn 52) (hro : F.round = none) (hn : 1 ≤ n) (w : World) (B0 g : Nat) (bs : List Nat) (c : Nat) (hlen : bs.length ≤ 1099511627776)
    (hB0 : B0 < w.heap.size) (hg : g < w.heap.size) (hc : w.cell? ⟨B0, 0, none⟩ = some (.slice (some ⟨g, 0, none⟩) bs.length c)) (hrow : ∀ j, j < bs.length → w.cell? ⟨g, j, none⟩ = some (.int .i64 ((bs[j]?.getD 0 : Nat) : Int))) :
    Rounds F n Try.prog 52 #[.pointer (some ⟨B0, 0, none⟩)] (backI bs) (KeepG B0 g) bs.length w := by
  intro l J W hW hJ hY h0
  have hcW := (hW.cell (p := ⟨B0, 0, none⟩) hB0).trans hc
  have hrW : ∀ j, j < bs.length → W.cell? ⟨g, j, none⟩ = some (.int .i64 ((bs[j]?.getD 0 : Nat) : Int)) := fun j hj => (hW.cell (p := ⟨g, j, none⟩) hg).trans (hrow j hj)
  obtain ⟨len, hl⟩ : ∃ len, bs.length = len := ⟨_, rfl⟩
  rw [hl] at hlen hc hcW hY hrW ⊢
  have HY := Lib.hid hY
  have HL := Lib.hid hl
  have HRW := Lib.hid hrW
  clear hY hrow hl hJ hrW hc
  refine callsIn_of_wp Try.func52 rfl hF ?_ hro
  simp only [Try.ntmps52, List.size_toArray, List.length_cons, List.length_nil, Nat.reduceAdd, Nat.reduceSub, Array.replicate_succ, Array.replicate_zero, List.push_toArray, List.append_toArray, List.nil_append, List.cons_append]
  gi_wp2
  gi_loopw [3] (fun i wr => ∃ (m k : Nat) (v : Int), m + k = len ∧ i = .int .i64 v ∧ v = (m : Int) - 1 ∧ wr.cell? ⟨B0, 0, none⟩ = some (.slice (some ⟨g, 0, none⟩) len c) ∧ Hid (J k wr) ∧ Hid (∀ j, j < len → wr.cell? ⟨g, j, none⟩ = some (.int .i64 ((bs[j]?.getD 0 : Nat) : Int)))) (fun i _ => (intOf i + 1).toNat)
  case atStart => exact ⟨len, 0, _, by omega, rfl, rfl, hcW, h0, HRW.out⟩
  case round =>
    obtain ⟨m, k, v, hmk, rfl, hv, hcr, HJ, HR0⟩ := hrel
    rcases m with _ | j
    · obtain rfl : v = -1 := by omega
      obtain rfl : k = len := by omega
      clear hmk hv
      gi_wp2
      go_end0
      exact ⟨⟨_, rfl⟩, HJ.out⟩
    · obtain rfl : v = (j : Int) := by omega
      have hjl : j < len := by omega
      obtain ⟨x, hx⟩ : ∃ x, bs[j]?.getD 0 = x := ⟨_, rfl⟩
      have hxc := HR0.out j hjl
      rw [hx] at hxc
      obtain ⟨fn, tmps, assign, body, hy, hR⟩ := HY.out k wr (by omega) HJ.out
      have henc : backI bs k = #[.int .i64 (j : Int), .int .i64 (x : Int)] := by
        have h1 : bs.length - 1 - k = j := by rw [HL.out]; omega
        unfold backI
        rw [h1, hx]
      rw [henc] at hy
      have HR := Lib.hid hR
      have HMK := Lib.hid hmk
      clear henc hR hmk hv hx
      gi_wp2
      refine HR.out.mono ?_
      rintro e W3 ⟨rfl, hJ3, hk3⟩
      have hc3 := (World.cell?_of_block (a := ⟨B0, 0, none⟩) hk3.1).trans hcr
      have HR3 : Hid (∀ j, j < len → W3.cell? ⟨g, j, none⟩ = some (.int .i64 ((bs[j]?.getD 0 : Nat) : Int))) := fun j hj => (World.cell?_of_block (a := ⟨g, j, none⟩) hk3.2).trans (HR0.out j hj)
      have HJ3 := Lib.hid hJ3
      clear hJ3 hk3
      gi_wp2
      go_roundw
      case rel => exact ⟨j, k + 1, _, (by have := HMK.out; omega), rfl, by go_num, hc3, HJ3.out, HR3.out⟩
      case measure => simp [intOf]
theorem n_backwardI {F : Fence} {n : Nat} (hF : F.fn 46) (hro : F.round = none) (a : Option Addr) (len c : Nat) (w : World) :
    CallsIn F n Try.prog 46 #[.slice a len c] w fun e w' => e = .returned (.func (.func 52) #[] #[.pointer (some ⟨w.heap.size, 0, none⟩)]) ∧ w' = w.alloc (.cells #[.slice a len c] 64) := by
  refine callsIn_of_wp Try.func46 rfl hF ?_ hro
  simp only [Try.ntmps46, List.size_toArray, List.length_cons, List.length_nil, Nat.reduceAdd, Nat.reduceSub, Array.replicate_succ, Array.replicate_zero, List.push_toArray, List.append_toArray, List.nil_append, List.cons_append]
  gi_wp2
  go_ret
  exact ⟨rfl, rfl⟩
theorem splits_snoc : ∀ (bs : List Nat) (b : Nat) (L : List St) (x : Nat), splits (bs ++ [b]) L x = ((splits bs L x).1 ++ [splitS b (splits bs L x).2], (splits bs L x).1.length)
  | [], b, L, x => by rw [List.nil_append, splits, splits, splits]
  | c :: bs, b, L, x => by rw [List.cons_append, splits, splits_snoc bs b, splits]
theorem splits_len : ∀ (bs : List Nat) (L : List St) (x : Nat), (splits bs L x).1.length = L.length + bs.length
  | [], L, x => by rw [splits]; rfl
  | b :: bs, L, x => by rw [splits, splits_len bs, List.length_append, List.length_singleton, List.length_cons]; omega
theorem layAll_snoc (ps : List PT) (t : PT) : ∀ (q : Nat) (L : List St), layAll (ps ++ [t]) q L = ((layT t q (layAll ps q L).1).1, (layAll ps q L).2 ++ [(layT t q (layAll ps q L).1).2]) := by
  induction ps with
  | nil => intro q L; rw [List.nil_append, layAll, layAll, layAll]; rfl
  | cons p ps ih => intro q L; simp only [List.cons_append, layAll, ih]
theorem layAll_len (ps : List PT) : ∀ (q : Nat) (L : List St), (layAll ps q L).2.length = ps.length := by
  induction ps with
  | nil => intro q L; rw [layAll]; rfl
  | cons p ps ih => intro q L; rw [layAll, List.length_cons, ih, List.length_cons]
theorem choose_eq (r : List St × List Nat) (q n : Nat) (h : r.2.length = n + 1) : choose r q = splits ((r.2.take n).reverse) r.1 (r.2[n]?.getD 0) := by
  obtain ⟨L, bs⟩ := r
  have hne : bs = bs.take n ++ [bs[n]?.getD 0] := by
    have h1 : n < bs.length := by show n < bs.length; have : bs.length = n + 1 := h; omega
    rw [List.getElem?_eq_getElem h1, Option.getD_some]
    conv => lhs; rw [← List.take_append_drop n bs, List.drop_eq_getElem_cons h1, List.drop_eq_nil_of_le (by have : bs.length = n + 1 := h; omega)]
  unfold choose
  show (match bs.reverse with | [] => _ | b :: l => _) = _
  rw [hne]
  simp only [List.reverse_append, List.reverse_cons, List.reverse_nil, List.nil_append, List.cons_append]
  have h2 : (bs.take n).length = n := by rw [List.length_take]; have : bs.length = n + 1 := h; omega
  show splits (bs.take n).reverse L (bs[n]?.getD 0) = _
  rw [List.take_append_of_le_length (by omega), List.take_take, Nat.min_self, List.getElem?_append_right (by omega), h2, Nat.sub_self]
  rfl
end Go.Proofs.Ytboebadpohjolaa
