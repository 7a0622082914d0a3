import Derived.Test.YtaookoejdnkkoaaGreatDoorQ19
import Derived.Test.YtaookoejdnkkoaaGreatDoorQNmCased
import Derived.Test.YtaookoejdnkkoaaGreatDoorQ13
import Derived.Test.YtaookoejdnkkoaaGreatDoorQ08
namespace Go.Proofs.YtaookoejdnkkoaaGreatDoor
open Go.RowKit

/-! What NamesOne asks besides. -/
theorem ret_int {k : IntKind} {a b : Int} (h : a = b) : Ending.returned (.int k a) = .returned (.int k b) := by rw [h]
theorem pickn_any (i : Int) (n : Nat) (w : World) (_h1 : -9223372036854775808 ≤ i) (_h2 : i ≤ 9223372036854775807) (hn : 0 < n) (hn2 : n ≤ 1099511627776) :
    Calls Tryz.prog 64 #[.int .i64 i, .int .i64 (n : Nat)] w fun e w' => ∃ m : Nat, e = .returned (.int .i64 (m : Nat)) ∧ m < n ∧ w = w' := by
  have g1 : i.tmod n < n := Int.tmod_lt_of_pos _ (by omega)
  have g2 : -(n : Int) < i.tmod n := by
    have h : (-i).tmod n < n := Int.tmod_lt_of_pos _ (by omega)
    rw [Int.neg_tmod] at h
    omega
  have hq : decide ((n : Int) < 1) = false := decide_eq_false (by omega)
  have hn0 : ((n : Int) = 0) = False := by simp; omega
  go_enter Tryz.func64, Tryz.ntmps64
  obtain ⟨t, ht⟩ : ∃ t, i.tmod n = t := ⟨_, rfl⟩
  rw [ht] at g1 g2
  by_cases hneg : t < 0
  · have hd : decide (t < 0) = true := decide_eq_true hneg
    go_wp2_with (simp only [ht])
    go_ret
    exact ⟨(t + n).toNat, ret_int (by omega), by omega, rfl⟩
  · have hd : decide (t < 0) = false := decide_eq_false hneg
    go_wp2_with (simp only [ht])
    go_ret
    exact ⟨t.toNat, ret_int (by omega), by omega, rfl⟩
def kn0 : List Nat := [1915072781299536869, 13772503794573869368, 12840195412581228191, 2279916546086757290, 9499763151945615776, 5075343802419158788, 2363718408999423815, 15368626402935069895]
def ke0 : List Nat := [3]
def kn1 : List Nat := [4480294537023087951, 3773116820468500793, 16360730273076065057, 5545987488798573251, 8160953845235973582, 3450085806819676111, 2114670287266483761, 13876919993902828926]
def ke1 : List Nat := [17]
def kn2 : List Nat := [14640300638020105355, 10659682303456067582, 8142485145484781708, 7450210204794968296, 6177574381712465277, 3495545978368962520, 10905522337729264986, 14036054805617727474]
def ke2 : List Nat := [65537]
def kn3 : List Nat := [9130546452203344053, 2376372664502662949, 16519533815206245669, 13510271756578844073, 10185065333152124487, 238554310892003]
def ke3 : List Nat := [3]
def knL (i : Nat) : List Nat := match i with | 0 => kn0 | 1 => kn1 | 2 => kn2 | _ => kn3
def keL (i : Nat) : List Nat := match i with | 0 => ke0 | 1 => ke1 | 2 => ke2 | _ => ke3
theorem own64_litL {w : World} (l : List Nat) (hb : l.length ≤ 1000) : own64 (w.alloc (.cells (u64s l).toArray 47)) w.heap.size (.slice (some ⟨w.heap.size, 0, none⟩) l.length l.length) l := by
  refine ⟨by simp [u64s], .inr ⟨w.heap.size, l.length, (u64s l).toArray, rfl, Nat.le_refl _, heap_new w _, Nat.le_refl _, Nat.le_trans hb (by decide), by simp [u64s], ?_⟩⟩
  show (u64s l).toArray.toList.take (l.length * 1) = u64s l
  rw [Nat.mul_one]
  exact List.take_of_length_le (by simp [u64s])
theorem own_litN {w : World} {B : Nat} (l : List Nat) (n m : Nat) (cs : Array Value) (hn : n = w.heap.size) (hm : m = l.length) (hb : m ≤ 1000) (hc : cs = (u64s l).toArray) (hB : B ≤ w.heap.size) : OwnL (w.alloc (.cells cs 47)) B (.slice (some ⟨n, 0, none⟩) m m) l := by
  subst hn hm hc
  exact owns_base (own64_litL l hb) hB
theorem infoK4 : (Tryz.prog.info? 51).map (·.size) = some 8 := by kernel_rfl
theorem results_K8 {fn : Func} {p : Tmp} (h : fn.results = #[.cell p 51]) {tmps : Array Value} {w : World} {g : Nat} {a b c d e f x y : Value} {T : TypeId}
    (hp : tmps.getD p undef = .pointer (some ⟨g, 0, none⟩)) (hg : CB w T g [a, b, c, d, e, f, x, y]) :
    (results fn tmps).run Tryz.prog w = .ok (.agg #[a, b, c, d, e, f, x, y]) w :=
  results_cell_row h tmps _ g _ #[a, b, c, d, e, f, x, y] (0, 0) _ hp hg Tryz.underlying51 rfl infoK4
set_option maxHeartbeats 800000 in
set_option maxRecDepth 100000 in
theorem r8keys (w : World) :
    Calls Tryz.prog 30 #[] w fun e w' => Below w.heap.size w w' ∧ ∃ a b c d p q x y, e = .returned (.agg #[a, b, c, d, p, q, x, y]) ∧ OwnL w' w.heap.size a kn0 ∧ OwnL w' w.heap.size b ke0 ∧ OwnL w' w.heap.size c kn1 ∧ OwnL w' w.heap.size d ke1 ∧ OwnL w' w.heap.size p kn2 ∧ OwnL w' w.heap.size q ke2 ∧ OwnL w' w.heap.size x kn3 ∧ OwnL w' w.heap.size y ke3 := by
  go_enter Tryz.func30, Tryz.ntmps30
  go_wp2
  refine bodyPost_ret (results_K8 rfl rfl (((((((((CB.new w _ [_, _, _, _, _, _, _, _]).alloc _).alloc _).alloc _).alloc _).alloc _).alloc _).alloc _).alloc _)) rfl ⟨(((((((((Below.refl w.heap.size w).alloc (Nat.le_refl _) _).alloc (by simp <;> omega) _).alloc (by simp <;> omega) _).alloc (by simp <;> omega) _).alloc (by simp <;> omega) _).alloc (by simp <;> omega) _).alloc (by simp <;> omega) _).alloc (by simp <;> omega) _).alloc (by simp <;> omega) _, _, _, _, _, _, _, _, _, rfl, (((((((own_litN kn0 (w.heap.size + 1) 8 _ (by simp) rfl (by decide) rfl (by simp <;> omega)).alloc _).alloc _).alloc _).alloc _).alloc _).alloc _).alloc _, ((((((own_litN ke0 (w.heap.size + 1 + 1) 1 _ (by simp) rfl (by decide) rfl (by simp <;> omega)).alloc _).alloc _).alloc _).alloc _).alloc _).alloc _, (((((own_litN kn1 (w.heap.size + 1 + 1 + 1) 8 _ (by simp) rfl (by decide) rfl (by simp <;> omega)).alloc _).alloc _).alloc _).alloc _).alloc _, ((((own_litN ke1 (w.heap.size + 1 + 1 + 1 + 1) 1 _ (by simp) rfl (by decide) rfl (by simp <;> omega)).alloc _).alloc _).alloc _).alloc _, (((own_litN kn2 (w.heap.size + 1 + 1 + 1 + 1 + 1) 8 _ (by simp) rfl (by decide) rfl (by simp <;> omega)).alloc _).alloc _).alloc _, ((own_litN ke2 (w.heap.size + 1 + 1 + 1 + 1 + 1 + 1) 1 _ (by simp) rfl (by decide) rfl (by simp <;> omega)).alloc _).alloc _, (own_litN kn3 (w.heap.size + 1 + 1 + 1 + 1 + 1 + 1 + 1) 6 _ (by simp) rfl (by decide) rfl (by simp <;> omega)).alloc _, own_litN ke3 (w.heap.size + 1 + 1 + 1 + 1 + 1 + 1 + 1 + 1) 1 _ (by simp) rfl (by decide) rfl (by simp <;> omega)⟩
theorem infoKy8 : (Tryz.prog.info? 25).map (·.size) = some 2 := by kernel_rfl
theorem part_key (cs : Array Value) (i : Nat) (W : World) : (part 25 cs i).run Tryz.prog W = .ok (.agg (cs.extract i (i + 2))) W := by
  obtain ⟨t, hi, hs⟩ := Option.map_eq_some_iff.1 infoKy8
  simp [part, isAgg, run_underlying (P := Tryz.prog) Tryz.underlying25, sizeOf, typeInfo, hi, hs, Sem.run_bind, Result.andThen]
/-- The i-th key, or secret, of those. -/
theorem pick4K {a b c d p q x y : Value} {w : World} {B : Nat} (h : OwnL w B a kn0 ∧ OwnL w B b ke0 ∧ OwnL w B c kn1 ∧ OwnL w B d ke1 ∧ OwnL w B p kn2 ∧ OwnL w B q ke2 ∧ OwnL w B x kn3 ∧ OwnL w B y ke3) (i : Nat) (hi : i < 4) :
    ∃ vN vE, OwnL w B vN (knL i) ∧ OwnL w B vE (keL i) ∧ ∀ W : World, (Instr.index 51 (.agg #[a, b, c, d, p, q, x, y]) (.int .i64 (i : Nat))).run Tryz.prog W = .ok (.agg #[vN, vE]) W := by
  obtain ⟨h0, h1, h2, h3, h4, h5, h6, h7⟩ := h
  rcases (show i = 0 ∨ i = 1 ∨ i = 2 ∨ i = 3 by omega) with rfl | rfl | rfl | rfl
  · exact ⟨a, b, h0, h1, fun W => by simp [Instr.index, run_underlying Tryz.underlying51, asIntOf, Sem.run_bind, Result.andThen, part_key]⟩
  · exact ⟨c, d, h2, h3, fun W => by simp [Instr.index, run_underlying Tryz.underlying51, asIntOf, Sem.run_bind, Result.andThen, part_key]⟩
  · exact ⟨p, q, h4, h5, fun W => by simp [Instr.index, run_underlying Tryz.underlying51, asIntOf, Sem.run_bind, Result.andThen, part_key]⟩
  · exact ⟨x, y, h6, h7, fun W => by simp [Instr.index, run_underlying Tryz.underlying51, asIntOf, Sem.run_bind, Result.andThen, part_key]⟩
theorem kn_ok (i : Nat) (hi : i < 4) : KeyOk (val (knL i)) (val (keL i)) := by
  rcases (show i = 0 ∨ i = 1 ∨ i = 2 ∨ i = 3 by omega) with rfl | rfl | rfl | rfl <;> decide +kernel
theorem kn_bd (i : Nat) (hi : i < 4) : (Bd (knL i) ∧ (knL i).length ≤ 8) ∧ Bd (keL i) ∧ (keL i).length = 1 := by
  rcases (show i = 0 ∨ i = 1 ∨ i = 2 ∨ i = 3 by omega) with rfl | rfl | rfl | rfl <;> (unfold Bd; decide +kernel)
theorem hexL_ld {b : List Nat} (h : B8 b) : ∀ c ∈ hexL b, (48 ≤ c ∧ c ≤ 57) ∨ (97 ≤ c ∧ c ≤ 102) := fun c hc => by
  obtain ⟨d, hd, rfl⟩ := hexL_mem b h c hc
  unfold hexD; split <;> omega
end Go.Proofs.YtaookoejdnkkoaaGreatDoor
