import Derived.Test.YtclbjmanmkoikaaDoorRsK
namespace Go.Proofs.YtclbjmanmkoikaaDoor
open Go.RowKit

/-! The keys that the statements take. -/
def kn0 : List Nat := [1915072781299536869, 13772503794573869368, 12840195412581228191, 2279916546086757290, 9499763151945615776, 5075343802419158788, 2363718408999423815, 15368626402935069895]
def ke0 : List Nat := [3]
def kd0 : List Nat := [8882044515333855851, 16167274537985824793, 13962098287702451996, 15926296917053925988, 184260743393893310, 3383562534946105859, 13873641655139316954, 10245750935290046596]
def kn1 : List Nat := [4480294537023087951, 3773116820468500793, 16360730273076065057, 5545987488798573251, 8160953845235973582, 3450085806819676111, 2114670287266483761, 13876919993902828926]
def ke1 : List Nat := [17]
def kd1 : List Nat := [17822763922723331553, 12911592053835105522, 3941447153924702602, 3628504032020535352, 18071772947255856712, 16409113639579516428, 2916559404177529752, 4897736468436292562]
def kn2 : List Nat := [14640300638020105355, 10659682303456067582, 8142485145484781708, 7450210204794968296, 6177574381712465277, 3495545978368962520, 10905522337729264986, 14036054805617727474]
def ke2 : List Nat := [65537]
def kd2 : List Nat := [8906092757307164697, 3243167948480149429, 8881662383461057916, 8430877666748471377, 2756608904579732294, 17430541486174857990, 3109428007232153445, 4952251327804121525]
def kn3 : List Nat := [9130546452203344053, 2376372664502662949, 16519533815206245669, 13510271756578844073, 10185065333152124487, 238554310892003]
def ke3 : List Nat := [3]
def kd3 : List Nat := [13931267118485393067, 4999459821836551728, 17073423235027009903, 15155762528955746587, 12938958246671266863, 159036207261335]
def knL (i : Nat) : List Nat := match i with | 0 => kn0 | 1 => kn1 | 2 => kn2 | _ => kn3
def keL (i : Nat) : List Nat := match i with | 0 => ke0 | 1 => ke1 | 2 => ke2 | _ => ke3
def kdL (i : Nat) : List Nat := match i with | 0 => kd0 | 1 => kd1 | 2 => kd2 | _ => kd3
theorem own64_litL {w : World} (l : List Nat) (hb : l.length ≤ 1000) : own64 (w.alloc (.cells (u64s l).toArray 49)) w.heap.size (.slice (some ⟨w.heap.size, 0, none⟩) l.length l.length) l := by
  refine ⟨by simp [u64s], .inr ⟨w.heap.size, l.length, (u64s l).toArray, rfl, Nat.le_refl _, heap_new w _, Nat.le_refl _, Nat.le_trans hb (by decide), by simp [u64s], ?_⟩⟩
  show (u64s l).toArray.toList.take (l.length * 1) = u64s l
  rw [Nat.mul_one]
  exact List.take_of_length_le (by simp [u64s])
/-- A number of the call's own. -/
def OwnL (w : World) (B : Nat) (v : Value) (l : List Nat) : Prop := own64 w B v l
theorem OwnL.below {w w' : World} {B : Nat} {v : Value} {l : List Nat} (h : OwnL w B v l) (hb : Below w.heap.size w w') : OwnL w' B v l := own64.keep h hb
theorem OwnL.base {w : World} {B B' : Nat} {v : Value} {l : List Nat} (h : OwnL w B v l) (hB : B' ≤ B) : OwnL w B' v l := owns_base h hB
theorem OwnL.alloc {w : World} {B : Nat} {v : Value} {l : List Nat} (h : OwnL w B v l) (o : Obj) : OwnL (w.alloc o) B v l := h.below ((Below.refl _ _).alloc (Nat.le_refl _) o)
theorem own_litN {w : World} {B : Nat} (l : List Nat) (n m : Nat) (cs : Array Value) (hn : n = w.heap.size) (hm : m = l.length) (hb : m ≤ 1000) (hc : cs = (u64s l).toArray) (hB : B ≤ w.heap.size) : OwnL (w.alloc (.cells cs 49)) B (.slice (some ⟨n, 0, none⟩) m m) l := by
  subst hn hm hc
  exact owns_base (own64_litL l hb) hB
theorem infoK4 : (Tryd.prog.info? 47).map (·.size) = some 8 := by kernel_rfl
theorem results_K8 {fn : Func} {p : Tmp} (h : fn.results = #[.cell p 47]) {tmps : Array Value} {w : World} {g : Nat} {a b c d e f x y : Value} {T : TypeId}
    (hp : tmps.getD p undef = .pointer (some ⟨g, 0, none⟩)) (hg : CB w T g [a, b, c, d, e, f, x, y]) :
    (results fn tmps).run Tryd.prog w = .ok (.agg #[a, b, c, d, e, f, x, y]) w :=
  results_cell_row h tmps _ g _ #[a, b, c, d, e, f, x, y] (0, 0) _ hp hg Tryd.underlying47 rfl infoK4
set_option maxHeartbeats 800000 in
set_option maxRecDepth 100000 in
theorem r8keys (w : World) :
    Calls Tryd.prog 22 #[] w fun e w' => Below w.heap.size w w' ∧ ∃ a b c d p q x y, e = .returned (.agg #[a, b, c, d, p, q, x, y]) ∧ OwnL w' w.heap.size a kn0 ∧ OwnL w' w.heap.size b ke0 ∧ OwnL w' w.heap.size c kn1 ∧ OwnL w' w.heap.size d ke1 ∧ OwnL w' w.heap.size p kn2 ∧ OwnL w' w.heap.size q ke2 ∧ OwnL w' w.heap.size x kn3 ∧ OwnL w' w.heap.size y ke3 := by
  go_enter Tryd.func22, Tryd.ntmps22
  go_wp2
  refine bodyPost_ret (results_K8 rfl rfl (((((((((CB.new w _ [_, _, _, _, _, _, _, _]).alloc _).alloc _).alloc _).alloc _).alloc _).alloc _).alloc _).alloc _)) rfl ⟨(((((((((Below.refl w.heap.size w).alloc (Nat.le_refl _) _).alloc (by simp <;> omega) _).alloc (by simp <;> omega) _).alloc (by simp <;> omega) _).alloc (by simp <;> omega) _).alloc (by simp <;> omega) _).alloc (by simp <;> omega) _).alloc (by simp <;> omega) _).alloc (by simp <;> omega) _, _, _, _, _, _, _, _, _, rfl, (((((((own_litN kn0 (w.heap.size + 1) 8 _ (by simp) rfl (by decide) rfl (by simp <;> omega)).alloc _).alloc _).alloc _).alloc _).alloc _).alloc _).alloc _, ((((((own_litN ke0 (w.heap.size + 1 + 1) 1 _ (by simp) rfl (by decide) rfl (by simp <;> omega)).alloc _).alloc _).alloc _).alloc _).alloc _).alloc _, (((((own_litN kn1 (w.heap.size + 1 + 1 + 1) 8 _ (by simp) rfl (by decide) rfl (by simp <;> omega)).alloc _).alloc _).alloc _).alloc _).alloc _, ((((own_litN ke1 (w.heap.size + 1 + 1 + 1 + 1) 1 _ (by simp) rfl (by decide) rfl (by simp <;> omega)).alloc _).alloc _).alloc _).alloc _, (((own_litN kn2 (w.heap.size + 1 + 1 + 1 + 1 + 1) 8 _ (by simp) rfl (by decide) rfl (by simp <;> omega)).alloc _).alloc _).alloc _, ((own_litN ke2 (w.heap.size + 1 + 1 + 1 + 1 + 1 + 1) 1 _ (by simp) rfl (by decide) rfl (by simp <;> omega)).alloc _).alloc _, (own_litN kn3 (w.heap.size + 1 + 1 + 1 + 1 + 1 + 1 + 1) 6 _ (by simp) rfl (by decide) rfl (by simp <;> omega)).alloc _, own_litN ke3 (w.heap.size + 1 + 1 + 1 + 1 + 1 + 1 + 1 + 1) 1 _ (by simp) rfl (by decide) rfl (by simp <;> omega)⟩
theorem infoKy8 : (Tryd.prog.info? 24).map (·.size) = some 2 := by kernel_rfl
theorem infoL8s : (Tryd.prog.info? 22).map (·.size) = some 1 := by kernel_rfl
theorem part_key (cs : Array Value) (i : Nat) (W : World) : (part 24 cs i).run Tryd.prog W = .ok (.agg (cs.extract i (i + 2))) W := by
  obtain ⟨t, hi, hs⟩ := Option.map_eq_some_iff.1 infoKy8
  simp [part, isAgg, run_underlying (P := Tryd.prog) Tryd.underlying24, sizeOf, typeInfo, hi, hs, Sem.run_bind, Result.andThen]
theorem part_list (cs : Array Value) (i : Nat) (v : Value) (h : cs[i]? = some v) (W : World) : (part 22 cs i).run Tryd.prog W = .ok v W := by
  simp [part, isAgg, run_underlying (P := Tryd.prog) Tryd.underlying22, h, Sem.run_bind, Result.andThen]
theorem sizeKy (W : World) : (sizeOf 24).run Tryd.prog W = .ok 2 W := by
  obtain ⟨t, hi, hs⟩ := Option.map_eq_some_iff.1 infoKy8
  simp [sizeOf, typeInfo, hi, hs, Sem.run_bind, Result.andThen]
theorem sizeLs (W : World) : (sizeOf 22).run Tryd.prog W = .ok 1 W := by
  obtain ⟨t, hi, hs⟩ := Option.map_eq_some_iff.1 infoL8s
  simp [sizeOf, typeInfo, hi, hs, Sem.run_bind, Result.andThen]
/-- The i-th key, or secret, of those. -/
theorem pick4K {a b c d p q x y : Value} {w : World} {B : Nat} (h : OwnL w B a kn0 ∧ OwnL w B b ke0 ∧ OwnL w B c kn1 ∧ OwnL w B d ke1 ∧ OwnL w B p kn2 ∧ OwnL w B q ke2 ∧ OwnL w B x kn3 ∧ OwnL w B y ke3) (i : Nat) (hi : i < 4) :
    ∃ vN vE, OwnL w B vN (knL i) ∧ OwnL w B vE (keL i) ∧ ∀ W : World, (Instr.index 47 (.agg #[a, b, c, d, p, q, x, y]) (.int .i64 (i : Nat))).run Tryd.prog W = .ok (.agg #[vN, vE]) W := by
  obtain ⟨h0, h1, h2, h3, h4, h5, h6, h7⟩ := h
  rcases (show i = 0 ∨ i = 1 ∨ i = 2 ∨ i = 3 by omega) with rfl | rfl | rfl | rfl
  · exact ⟨a, b, h0, h1, fun W => by simp [Instr.index, run_underlying Tryd.underlying47, asIntOf, Sem.run_bind, Result.andThen, part_key]⟩
  · exact ⟨c, d, h2, h3, fun W => by simp [Instr.index, run_underlying Tryd.underlying47, asIntOf, Sem.run_bind, Result.andThen, part_key]⟩
  · exact ⟨p, q, h4, h5, fun W => by simp [Instr.index, run_underlying Tryd.underlying47, asIntOf, Sem.run_bind, Result.andThen, part_key]⟩
  · exact ⟨x, y, h6, h7, fun W => by simp [Instr.index, run_underlying Tryd.underlying47, asIntOf, Sem.run_bind, Result.andThen, part_key]⟩
end Go.Proofs.YtclbjmanmkoikaaDoor