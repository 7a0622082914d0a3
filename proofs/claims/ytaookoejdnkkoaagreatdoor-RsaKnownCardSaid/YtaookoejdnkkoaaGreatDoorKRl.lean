import Derived.Test.YtaookoejdnkkoaaGreatDoorKRp
import Derived.Test.YtaookoejdnkkoaaGreatDoorKModR
namespace Go.Proofs.YtaookoejdnkkoaaGreatDoor
open Go.RowKit

/-! The keys that the statements take. -/
def kn0 : List Nat := [1915072781299536869, 13772503794573869368, 12840195412581228191, 2279916546086757290, 9499763151945615776, 5075343802419158788, 2363718408999423815, 15368626402935069895]
def ke0 : List Nat := [3]
def kd0 : List Nat := [8882044515333855851, 16167274537985824793, 13962098287702451996, 15926296917053925988, 184260743393893310, 3383562534946105859, 13873641655139316954, 10245750935290046596]
def kn1 : List Nat := [4480294537023087951, 3773116820468500793, 16360730273076065057, 5545987488798573251, 8160953845235973582, 3450085806819676111, 2114670287266483761, 13876919993902828926]
def ke1 : List Nat := [17]
def kd1 : List Nat := [17822763922723331553, 12911592053835105522, 3941447153924702602, 3628504032020535352, 18071772947255856712, 16409113639579516428, 2916559404177529752, 4897736468436292562]
def kn2 : List Nat := [14640300638020105355, 10659682303456067582, 8142485145484781708, 7450210204794968296, 6177574381712465277, 3495545978368962520, 10905522337729264986, 14036054805617727474]
def ke2 : List Nat := [65537]
def kd2 : List Nat := [8906092757307164697, 3243167948480149429, 8881662383461057916, 8430877666748471377, 2756608904579732294, 17430541486174857990, 3109428007232153445, 4952251327804121525]
def kn3 : List Nat := [9130546452203344053, 2376372664502662949, 16519533815206245669, 13510271756578844073, 10185065333152124487, 238554310892003]
def ke3 : List Nat := [3]
def kd3 : List Nat := [13931267118485393067, 4999459821836551728, 17073423235027009903, 15155762528955746587, 12938958246671266863, 159036207261335]
def knL (i : Nat) : List Nat := match i with | 0 => kn0 | 1 => kn1 | 2 => kn2 | _ => kn3
def keL (i : Nat) : List Nat := match i with | 0 => ke0 | 1 => ke1 | 2 => ke2 | _ => ke3
def kdL (i : Nat) : List Nat := match i with | 0 => kd0 | 1 => kd1 | 2 => kd2 | _ => kd3
theorem own64_litL {w : World} (l : List Nat) (hb : l.length ≤ 1000) : own64 (w.alloc (.cells (u64s l).toArray 47)) w.heap.size (.slice (some ⟨w.heap.size, 0, none⟩) l.length l.length) l := by
  refine ⟨by simp [u64s], .inr ⟨w.heap.size, l.length, (u64s l).toArray, rfl, Nat.le_refl _, heap_new w _, Nat.le_refl _, Nat.le_trans hb (by decide), by simp [u64s], ?_⟩⟩
  show (u64s l).toArray.toList.take (l.length * 1) = u64s l
  rw [Nat.mul_one]
  exact List.take_of_length_le (by simp [u64s])
/-- A number of the call's own. -/
def OwnL (w : World) (B : Nat) (v : Value) (l : List Nat) : Prop := own64 w B v l
theorem OwnL.below {w w' : World} {B : Nat} {v : Value} {l : List Nat} (h : OwnL w B v l) (hb : Below w.heap.size w w') : OwnL w' B v l := own64.keep h hb
theorem OwnL.base {w : World} {B B' : Nat} {v : Value} {l : List Nat} (h : OwnL w B v l) (hB : B' ≤ B) : OwnL w B' v l := owns_base h hB
theorem OwnL.alloc {w : World} {B : Nat} {v : Value} {l : List Nat} (h : OwnL w B v l) (o : Obj) : OwnL (w.alloc o) B v l := h.below ((Below.refl _ _).alloc (Nat.le_refl _) o)
theorem own_litN {w : World} {B : Nat} (l : List Nat) (n m : Nat) (cs : Array Value) (hn : n = w.heap.size) (hm : m = l.length) (hb : m ≤ 1000) (hc : cs = (u64s l).toArray) (hB : B ≤ w.heap.size) : OwnL (w.alloc (.cells cs 47)) B (.slice (some ⟨n, 0, none⟩) m m) l := by
  subst hn hm hc
  exact owns_base (own64_litL l hb) hB
theorem infoK4 : (Tryz.prog.info? 51).map (·.size) = some 8 := by kernel_rfl
theorem infoS4 : (Tryz.prog.info? 140).map (·.size) = some 4 := by kernel_rfl
theorem results_K8 {fn : Func} {p : Tmp} (h : fn.results = #[.cell p 51]) {tmps : Array Value} {w : World} {g : Nat} {a b c d e f x y : Value} {T : TypeId}
    (hp : tmps.getD p undef = .pointer (some ⟨g, 0, none⟩)) (hg : CB w T g [a, b, c, d, e, f, x, y]) :
    (results fn tmps).run Tryz.prog w = .ok (.agg #[a, b, c, d, e, f, x, y]) w :=
  results_cell_row h tmps _ g _ #[a, b, c, d, e, f, x, y] (0, 0) _ hp hg Tryz.underlying51 rfl infoK4
theorem results_S4 {fn : Func} {p : Tmp} (h : fn.results = #[.cell p 140]) {tmps : Array Value} {w : World} {g : Nat} {a b c d : Value} {T : TypeId}
    (hp : tmps.getD p undef = .pointer (some ⟨g, 0, none⟩)) (hg : CB w T g [a, b, c, d]) :
    (results fn tmps).run Tryz.prog w = .ok (.agg #[a, b, c, d]) w :=
  results_cell_row h tmps _ g _ #[a, b, c, d] (0, 0) _ hp hg Tryz.underlying140 rfl infoS4
set_option maxHeartbeats 800000 in
set_option maxRecDepth 100000 in
theorem r8keys (w : World) :
    Calls Tryz.prog 30 #[] w fun e w' => Below w.heap.size w w' ∧ ∃ a b c d p q x y, e = .returned (.agg #[a, b, c, d, p, q, x, y]) ∧ OwnL w' w.heap.size a kn0 ∧ OwnL w' w.heap.size b ke0 ∧ OwnL w' w.heap.size c kn1 ∧ OwnL w' w.heap.size d ke1 ∧ OwnL w' w.heap.size p kn2 ∧ OwnL w' w.heap.size q ke2 ∧ OwnL w' w.heap.size x kn3 ∧ OwnL w' w.heap.size y ke3 := by
  go_enter Tryz.func30, Tryz.ntmps30
  go_wp2
  refine bodyPost_ret (results_K8 rfl rfl (((((((((CB.new w _ [_, _, _, _, _, _, _, _]).alloc _).alloc _).alloc _).alloc _).alloc _).alloc _).alloc _).alloc _)) rfl ⟨(((((((((Below.refl w.heap.size w).alloc (Nat.le_refl _) _).alloc (by simp <;> omega) _).alloc (by simp <;> omega) _).alloc (by simp <;> omega) _).alloc (by simp <;> omega) _).alloc (by simp <;> omega) _).alloc (by simp <;> omega) _).alloc (by simp <;> omega) _).alloc (by simp <;> omega) _, _, _, _, _, _, _, _, _, rfl, (((((((own_litN kn0 (w.heap.size + 1) 8 _ (by simp) rfl (by decide) rfl (by simp <;> omega)).alloc _).alloc _).alloc _).alloc _).alloc _).alloc _).alloc _, ((((((own_litN ke0 (w.heap.size + 1 + 1) 1 _ (by simp) rfl (by decide) rfl (by simp <;> omega)).alloc _).alloc _).alloc _).alloc _).alloc _).alloc _, (((((own_litN kn1 (w.heap.size + 1 + 1 + 1) 8 _ (by simp) rfl (by decide) rfl (by simp <;> omega)).alloc _).alloc _).alloc _).alloc _).alloc _, ((((own_litN ke1 (w.heap.size + 1 + 1 + 1 + 1) 1 _ (by simp) rfl (by decide) rfl (by simp <;> omega)).alloc _).alloc _).alloc _).alloc _, (((own_litN kn2 (w.heap.size + 1 + 1 + 1 + 1 + 1) 8 _ (by simp) rfl (by decide) rfl (by simp <;> omega)).alloc _).alloc _).alloc _, ((own_litN ke2 (w.heap.size + 1 + 1 + 1 + 1 + 1 + 1) 1 _ (by simp) rfl (by decide) rfl (by simp <;> omega)).alloc _).alloc _, (own_litN kn3 (w.heap.size + 1 + 1 + 1 + 1 + 1 + 1 + 1) 6 _ (by simp) rfl (by decide) rfl (by simp <;> omega)).alloc _, own_litN ke3 (w.heap.size + 1 + 1 + 1 + 1 + 1 + 1 + 1 + 1) 1 _ (by simp) rfl (by decide) rfl (by simp <;> omega)⟩
set_option maxHeartbeats 800000 in
set_option maxRecDepth 100000 in
theorem r8secrets (w : World) :
    Calls Tryz.prog 128 #[] w fun e w' => Below w.heap.size w w' ∧ ∃ a b c d, e = .returned (.agg #[a, b, c, d]) ∧ OwnL w' w.heap.size a kd0 ∧ OwnL w' w.heap.size b kd1 ∧ OwnL w' w.heap.size c kd2 ∧ OwnL w' w.heap.size d kd3 := by
  go_enter Tryz.func128, Tryz.ntmps128
  go_wp2
  refine bodyPost_ret (results_S4 rfl rfl (((((CB.new w _ [_, _, _, _]).alloc _).alloc _).alloc _).alloc _)) rfl ⟨(((((Below.refl w.heap.size w).alloc (Nat.le_refl _) _).alloc (by simp <;> omega) _).alloc (by simp <;> omega) _).alloc (by simp <;> omega) _).alloc (by simp <;> omega) _, _, _, _, _, rfl, (((own_litN kd0 (w.heap.size + 1) 8 _ (by simp) rfl (by decide) rfl (by simp <;> omega)).alloc _).alloc _).alloc _, ((own_litN kd1 (w.heap.size + 1 + 1) 8 _ (by simp) rfl (by decide) rfl (by simp <;> omega)).alloc _).alloc _, (own_litN kd2 (w.heap.size + 1 + 1 + 1) 8 _ (by simp) rfl (by decide) rfl (by simp <;> omega)).alloc _, own_litN kd3 (w.heap.size + 1 + 1 + 1 + 1) 6 _ (by simp) rfl (by decide) rfl (by simp <;> omega)⟩
theorem infoKy8 : (Tryz.prog.info? 25).map (·.size) = some 2 := by kernel_rfl
theorem part_key (cs : Array Value) (i : Nat) (W : World) : (part 25 cs i).run Tryz.prog W = .ok (.agg (cs.extract i (i + 2))) W := by
  obtain ⟨t, hi, hs⟩ := Option.map_eq_some_iff.1 infoKy8
  simp [part, isAgg, run_underlying (P := Tryz.prog) Tryz.underlying25, sizeOf, typeInfo, hi, hs, Sem.run_bind, Result.andThen]
theorem part_list (cs : Array Value) (i : Nat) (v : Value) (h : cs[i]? = some v) (W : World) : (part 23 cs i).run Tryz.prog W = .ok v W := by
  simp [part, isAgg, run_underlying (P := Tryz.prog) Tryz.underlying23, h, Sem.run_bind, Result.andThen]
/-- The i-th key, or secret, of those. -/
theorem pick4K {a b c d p q x y : Value} {w : World} {B : Nat} (h : OwnL w B a kn0 ∧ OwnL w B b ke0 ∧ OwnL w B c kn1 ∧ OwnL w B d ke1 ∧ OwnL w B p kn2 ∧ OwnL w B q ke2 ∧ OwnL w B x kn3 ∧ OwnL w B y ke3) (i : Nat) (hi : i < 4) :
    ∃ vN vE, OwnL w B vN (knL i) ∧ OwnL w B vE (keL i) ∧ ∀ W : World, (Instr.index 51 (.agg #[a, b, c, d, p, q, x, y]) (.int .i64 (i : Nat))).run Tryz.prog W = .ok (.agg #[vN, vE]) W := by
  obtain ⟨h0, h1, h2, h3, h4, h5, h6, h7⟩ := h
  rcases (show i = 0 ∨ i = 1 ∨ i = 2 ∨ i = 3 by omega) with rfl | rfl | rfl | rfl
  · exact ⟨a, b, h0, h1, fun W => by simp [Instr.index, run_underlying Tryz.underlying51, asIntOf, Sem.run_bind, Result.andThen, part_key]⟩
  · exact ⟨c, d, h2, h3, fun W => by simp [Instr.index, run_underlying Tryz.underlying51, asIntOf, Sem.run_bind, Result.andThen, part_key]⟩
  · exact ⟨p, q, h4, h5, fun W => by simp [Instr.index, run_underlying Tryz.underlying51, asIntOf, Sem.run_bind, Result.andThen, part_key]⟩
  · exact ⟨x, y, h6, h7, fun W => by simp [Instr.index, run_underlying Tryz.underlying51, asIntOf, Sem.run_bind, Result.andThen, part_key]⟩
theorem pick4S {a b c d : Value} {w : World} {B : Nat} (h : OwnL w B a kd0 ∧ OwnL w B b kd1 ∧ OwnL w B c kd2 ∧ OwnL w B d kd3) (i : Nat) (hi : i < 4) :
    ∃ v, OwnL w B v (kdL i) ∧ ∀ W : World, (Instr.index 140 (.agg #[a, b, c, d]) (.int .i64 (i : Nat))).run Tryz.prog W = .ok v W := by
  obtain ⟨h0, h1, h2, h3⟩ := h
  rcases (show i = 0 ∨ i = 1 ∨ i = 2 ∨ i = 3 by omega) with rfl | rfl | rfl | rfl
  · exact ⟨a, h0, fun W => by simp [Instr.index, run_underlying Tryz.underlying140, asIntOf, Sem.run_bind, Result.andThen, part_list]⟩
  · exact ⟨b, h1, fun W => by simp [Instr.index, run_underlying Tryz.underlying140, asIntOf, Sem.run_bind, Result.andThen, part_list]⟩
  · exact ⟨c, h2, fun W => by simp [Instr.index, run_underlying Tryz.underlying140, asIntOf, Sem.run_bind, Result.andThen, part_list]⟩
  · exact ⟨d, h3, fun W => by simp [Instr.index, run_underlying Tryz.underlying140, asIntOf, Sem.run_bind, Result.andThen, part_list]⟩

/-! works. -/
theorem kn_ok (i : Nat) (hi : i < 4) : KeyOk (val (knL i)) (val (keL i)) := by
  rcases (show i = 0 ∨ i = 1 ∨ i = 2 ∨ i = 3 by omega) with rfl | rfl | rfl | rfl <;> decide +kernel
theorem kn_bd (i : Nat) (hi : i < 4) : (Bd (knL i) ∧ (knL i).length ≤ 8) ∧ Bd (keL i) ∧ (keL i).length = 1 := by
  rcases (show i = 0 ∨ i = 1 ∨ i = 2 ∨ i = 3 by omega) with rfl | rfl | rfl | rfl <;> (unfold Bd; decide +kernel)
theorem own_raw {w : World} {B : Nat} {v : Value} {l : List Nat} (h : OwnL w B v l) (hb : Bd l) (hl : l.length ≤ 1000) : Raw w v (val l) := by
  obtain ⟨a, c, rfl, hr⟩ := own64.form h
  have hc : l.length ≤ c ∧ (a = none → c = 0) := ⟨(own64.room h).1, (own64.room h).2⟩
  exact ⟨a, c, l, rfl, hc.1, hc.2, hr, hb, rfl, hl⟩
theorem rd_cb8 {w : World} {t : TypeId} {g : Nat} {xs : List Nat} (h : CB w t g (u8s xs)) : Rd .u8 w (some ⟨g, 0, none⟩) xs := fun _ _ => ⟨g, 0, rfl, fun i hi => by
  rw [Nat.zero_add, h.cell]
  simp [u8s, List.getElem?_eq_getElem hi, List.getD]⟩
theorem raw8_nil (w : World) : Raw8 w (.slice none 0 0) [] := ⟨none, 0, rfl, by decide, (fun _ => rfl), (fun j hj => absurd hj (by simp)), (fun x hx => by cases hx)⟩
def two64 : List Nat := List.replicate 63 0 ++ [2]
def eight64 : List Nat := List.replicate 63 0 ++ [8]
theorem raise_two {k : Int} {b : List Nat} (h : RaiseTells (val kn0) (val ke0) two64 k b) : k = 0 ∧ b = eight64 := by
  have hko : KeyOk (val kn0) (val ke0) := kn_ok 0 (by decide)
  have hsz : szN (val kn0) = 64 := by decide +kernel
  have hb2 : bval two64 = 2 := by decide +kernel
  rcases h with ⟨h, _⟩ | ⟨_, h, _⟩ | ⟨_, _, h, h1, h2, h3⟩
  · exact absurd hko h
  · exact absurd ⟨by rw [hsz]; rfl, by rw [hb2]; decide +kernel⟩ h
  · refine ⟨h, bval_inj h2 (by unfold B8; decide +kernel) (by rw [h1, hsz]; rfl) ?_⟩
    rw [h3, hb2]
    decide +kernel
theorem ver_two {m : List Nat} {v : Int} (h : VerTells (val kn0) (val ke0) m two64 v) : v = 82 := by
  obtain ⟨k, b, h1, rfl⟩ := h
  obtain ⟨rfl, rfl⟩ := raise_two h1
  rw [if_pos rfl, if_neg]
  intro h2
  have h3 := congrArg (fun l : List Nat => l.getD 1 0) h2
  have h4 : eight64.getD 1 0 = 0 := by decide
  have h5 : (encL (shaN m) (szN (val kn0))).getD 1 0 = 1 := rfl
  simp only [h4, h5] at h3
  omega
def zeros (n : Nat) : List Nat := List.replicate n 0
theorem make_n (n : Nat) (hn : n ≤ 1000000) (W : World) : (Instr.makeSlice 40 (.int .i64 (n : Nat)) (.int .i64 (n : Nat))).run Tryz.prog W = .ok (.slice (some ⟨W.heap.size, 0, none⟩) n n) (W.alloc (.cells (u8s (zeros n)).toArray 5)) := by
  obtain ⟨i, hi, hz, hsz, hb⟩ := info_parts info8
  have e : madeCells (Value.int .u8 0).cells (n * 1) = (u8s (zeros n)).toArray := by
    apply Array.ext'
    rw [Nat.mul_one, show (Value.int .u8 0).cells = #[.int .u8 0] from rfl, toList_madeCells_one, u8s, zeros, List.map_replicate]
    rfl
  rw [run_make (P := Tryz.prog) W 40 5 i (.int .u8 0) Tryz.underlying40 hi hz .i64 .i64 n n (by omega) (by omega) (by rw [hb]; omega) (by omega), hsz, Int.toNat_natCast, e]
theorem make_64 (W : World) : (Instr.makeSlice 40 (.int .i64 64) (.int .i64 64)).run Tryz.prog W = .ok (.slice (some ⟨W.heap.size, 0, none⟩) 64 64) (W.alloc (.cells (u8s (zeros 64)).toArray 5)) := make_n 64 (by decide) W
def seven20 : List Nat := 7 :: List.replicate 19 0
set_option maxHeartbeats 800000 in
set_option maxRecDepth 100000 in
theorem works8_any (w : World) (hT : Trig w) (hF : Five w) :
    Calls Tryz.prog 29 #[] w fun e w' => e = .returned (.bool true) ∧ Below w.heap.size w w' := by
  have HT := Lib.hid (fun (W : World) (h : Below w.heap.size w W) => And.intro (hT.below h) (hF.below h))
  clear hT hF
  go_enter Tryz.func29, Tryz.ntmps29
  go_wp2_with fail
  refine (r8keys _).mono ?_
  rintro e w1 ⟨hb, a, b, c, d, p, q, x, y, rfl, hks⟩
  obtain ⟨vN, vE, oN, oE, hix⟩ := pick4K hks 0 (by decide)
  have hix : ∀ W : World, (Instr.index 51 (.agg #[a, b, c, d, p, q, x, y]) (.int .i64 0)).run Tryz.prog W = .ok (.agg #[vN, vE]) W := hix
  have rN := own_raw oN (kn_bd 0 (by decide)).1.1 (by decide)
  have rE := own_raw oE (kn_bd 0 (by decide)).2.1 (by decide)
  obtain ⟨aN, lN, cN, rfl⟩ := rN.sl
  obtain ⟨aE, lE, cE, rfl⟩ := rE.sl
  have HN := Lib.hid (And.intro rN rE)
  have HB := Lib.hid hb
  clear hb hks rN rE oN oE
  have hmk := make_64
  have hk0 := KeyAt.new HN.out.1 HN.out.2
  obtain ⟨g, hg⟩ : ∃ g, g = w1.heap.size := ⟨_, rfl⟩
  rw [← hg] at hk0
  have HGB : Hid (w.heap.size ≤ g) := by show _ ≤ _; rw [hg]; exact HB.out.size
  go_upto_region 3 with fail
  rw [← hg]
  have hb2 : Below w1.heap.size w1 (w1.alloc (KB (.slice aN lN cN) (.slice aE lE cE))) := (Below.refl _ _).alloc (Nat.le_refl _) _
  have hgs : (w1.alloc (KB (.slice aN lN cN) (.slice aE lE cE))).heap.size = g + 1 := by simp [hg]
  have HB := Lib.hid (HB.out.trans (hb2.mono HB.out.size))
  generalize w1.alloc (KB (.slice aN lN cN) (.slice aE lE cE)) = w2 at *
  have hcb := CB.new w2 5 (u8s (zeros 64))
  have h23 := (Below.refl w2.heap.size w2).alloc (Nat.le_refl _) (.cells (u8s (zeros 64)).toArray 5)
  have HB := Lib.hid (HB.out.alloc HB.out.size (.cells (u8s (zeros 64)).toArray 5))
  rw [hgs] at hcb
  have hlt := hcb.lt
  generalize w2.alloc (.cells (u8s (zeros 64)).toArray 5) = w3 at *
  have hcell : w3.cell? ⟨g + 1, 63, none⟩ = some (.int .u8 0) := by rw [hcb.cell]; rfl
  have hfree := hcb.free 63
  have HCB := Lib.hid hcb
  have HK2 := Lib.hid (And.intro hk0 (And.intro hgs h23))
  clear hmk hk0 hcb hgs hb2 HN hg h23
  go_upto_region 4 with fail
  have hcs := HCB.out.set 63 (.int .u8 2)
  have hset : (u8s (zeros 64)).set 63 (.int .u8 2) = u8s two64 := rfl
  rw [hset] at hcs
  have HK : Hid (KeyAt (w3.setCell ⟨g + 1, 63, none⟩ (.int .u8 2)) g (.slice aN lN cN) (.slice aE lE cE) (val (knL 0)) (val (keL 0))) :=
    HK2.out.1.below (HK2.out.2.2.setCell (p := ⟨g + 1, 63, none⟩) (by rw [HK2.out.2.1]; exact Nat.le_refl _) _)
  have HB := Lib.hid (HB.out.setCell (p := ⟨g + 1, 63, none⟩) (by have := HGB.out; show _ ≤ g + 1; omega) (.int .u8 2))
  clear hcell hfree hset HCB hlt hix HK2
  generalize w3.setCell ⟨g + 1, 63, none⟩ (.int .u8 2) = w4 at *
  have HS : Hid (Raw8 w4 (.slice (some ⟨g + 1, 0, none⟩) 64 64) two64) := ⟨_, 64, rfl, by decide, (fun h => by cases h), rd_cb8 hcs, by unfold B8; decide⟩
  have hc0 := HK.out.c0
  have hc1 := HK.out.c1
  clear hcs
  go_wp2_with fail
  refine (p_raise (HT.out _ HB.out).1 HK.out.rN HK.out.rE HS.out (by decide)).mono ?_
  rintro e w5 ⟨hb, v5, k5, b5, rfl, ho5, hQ⟩
  obtain ⟨rfl, rfl⟩ := raise_two hQ
  obtain ⟨a5, c5, rfl, -, -, hr5⟩ := own8_form ho5
  have HK := Lib.hid (HK.out.below hb)
  have HS := Lib.hid (HS.out.below hb)
  have HR5 := Lib.hid hr5
  have HB := Lib.hid (HB.out.trans (hb.mono HB.out.size))
  have hl5 : eight64.length = 64 := by decide
  rw [hl5]
  clear hb ho5 hQ hr5 hc0 hc1 hl5
  go_wp2_with fail
  refine (p_encoded seven20 46 _ rfl (by unfold B8; decide) (by decide) (by decide)).mono ?_
  rintro e w6 ⟨hb, v6, k6, b6, rfl, hE, ho6⟩
  obtain ⟨rfl, hb6⟩ : k6 = 0 ∧ b6 = encL seven20 46 := by
    rcases hE with ⟨h, _⟩ | ⟨_, _, h1, h2⟩
    · omega
    · exact ⟨h1, h2⟩
  obtain ⟨a6, c6, rfl, -, -, hr6⟩ := own8_form ho6
  have hl6 : b6.length = 46 := by rw [hb6]; rfl
  rw [hl6]
  have HK := Lib.hid (HK.out.below hb)
  have HS := Lib.hid (HS.out.below hb)
  have hr5 := HR5.out.below hb
  have HB := Lib.hid (HB.out.trans (hb.mono HB.out.size))
  obtain ⟨q5, o5, rfl⟩ := hr5.isAt (by decide)
  obtain ⟨q6, o6, rfl⟩ := hr6.isAt (by omega)
  have x63 : w6.cell? ⟨q5, o5 + 63, none⟩ = some (.int .u8 8) := hr5.cell (i := 63) (by decide)
  have x62 : w6.cell? ⟨q5, o5 + 62, none⟩ = some (.int .u8 0) := hr5.cell (i := 62) (by decide)
  have y0 : w6.cell? ⟨q6, o6, none⟩ = some (.int .u8 0) := by have h := hr6.cell (i := 0) (by omega); rw [hb6] at h; exact h
  have y1 : w6.cell? ⟨q6, o6 + 1, none⟩ = some (.int .u8 1) := by have h := hr6.cell (i := 1) (by omega); rw [hb6] at h; exact h
  have y9 : w6.cell? ⟨q6, o6 + 9, none⟩ = some (.int .u8 255) := by have h := hr6.cell (i := 9) (by omega); rw [hb6] at h; exact h
  have y10 : w6.cell? ⟨q6, o6 + 10, none⟩ = some (.int .u8 0) := by have h := hr6.cell (i := 10) (by omega); rw [hb6] at h; exact h
  have y11 : w6.cell? ⟨q6, o6 + 11, none⟩ = some (.int .u8 48) := by have h := hr6.cell (i := 11) (by omega); rw [hb6] at h; exact h
  have y26 : w6.cell? ⟨q6, o6 + 26, none⟩ = some (.int .u8 7) := by have h := hr6.cell (i := 26) (by omega); rw [hb6] at h; exact h
  have hc0 := HK.out.c0
  have hc1 := HK.out.c1
  clear hb ho6 hE hr5 hr6 HR5 hb6 hl6
  go_wp2_with fail
  refine (p_size HK.out.rN ⟨_, _, _, rfl⟩).mono ?_
  rw [show szN (val (knL 0)) = 64 by decide +kernel]
  rintro e w7 ⟨hb, rfl⟩
  have HK := Lib.hid (HK.out.below hb)
  have HS := Lib.hid (HS.out.below hb)
  have HB := Lib.hid (HB.out.trans (hb.mono HB.out.size))
  clear hb hc0 hc1 x63 x62 y0 y1 y9 y10 y11 y26
  go_wp2_with fail
  have hb1 : Below w7.heap.size w7 (w7.alloc (.cells #[.int .u64 15] 47)) := (Below.refl _ _).alloc (Nat.le_refl _) _
  have hb2 : Below w7.heap.size w7 ((w7.alloc (.cells #[.int .u64 15] 47)).alloc (.cells #[.int .u64 3] 47)) := hb1.alloc hb1.size _
  have r15 : Raw ((w7.alloc (.cells #[.int .u64 15] 47)).alloc (.cells #[.int .u64 3] 47)) (.slice (some ⟨w7.heap.size, 0, none⟩) 1 1) 15 := (raw_lit w7 15 (by decide)).below ((Below.refl _ _).alloc (Nat.le_refl _) _)
  have r3 : Raw ((w7.alloc (.cells #[.int .u64 15] 47)).alloc (.cells #[.int .u64 3] 47)) (.slice (some ⟨w7.heap.size + 1, 0, none⟩) 1 1) 3 := by
    have h := raw_lit (w7.alloc (.cells #[.int .u64 15] 47)) 3 (by decide)
    rw [show (w7.alloc (.cells #[.int .u64 15] 47)).heap.size = w7.heap.size + 1 by simp] at h
    exact h
  have HB2 := Lib.hid hb2
  refine (p_check r15 r3).mono ?_
  clear r15 r3 hb1 hb2
  rintro e w8 ⟨hb, hor⟩
  obtain rfl : e = .returned (.int .i64 80) := by
    rcases hor with ⟨h, _⟩ | ⟨_, h⟩
    · exact absurd h (by decide +kernel)
    · exact h
  have hb9 := HB2.out.trans (hb.mono HB2.out.size)
  have HK := Lib.hid (HK.out.below hb9)
  have HS := Lib.hid (HS.out.below hb9)
  have HB := Lib.hid (HB.out.trans (hb9.mono HB.out.size))
  clear hb hb9 hor HB2
  have hc0 := HK.out.c0
  have hc1 := HK.out.c1
  go_wp2_with fail
  refine (p_verify (m := []) (s := two64) (HT.out _ HB.out).1 (HT.out _ HB.out).2 HK.out.rN HK.out.rE (raw8_nil _) HS.out (by decide) (by decide)).mono ?_
  rintro e w9 ⟨hb, v, rfl, hV⟩
  obtain rfl := ver_two hV
  have HB := Lib.hid (HB.out.trans (hb.mono HB.out.size))
  clear hb hV hc0 hc1
  go_wp2
  go_ret
  exact ⟨rfl, HB.out⟩
end Go.Proofs.YtaookoejdnkkoaaGreatDoor
