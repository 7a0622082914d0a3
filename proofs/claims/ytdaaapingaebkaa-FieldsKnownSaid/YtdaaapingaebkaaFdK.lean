import Derived.Test.YtdaaapingaebkaaPtK
namespace Go.Proofs.Ytdaaapingaebkaa
open Go.RowKit

/-! fields: what earlier texts hold besides PtK, for a seat of fields. -/
theorem run_appS {P : Program} {w : World} (T ty E : TypeId) (hT : P.underlying T = some (.slice E)) {z : Value} {S bytes : Nat} (hI : (P.info? E).map (fun i => (i.zero, i.size, i.bytes)) = some (some z, S, bytes)) (hzs : z.cells.size = S) (hS : 0 < S) (hby : bytes ≤ 128)
    (B : Nat) (v : Value) (n : Nat) (xs : List Value) (hown : w.ownsRow B E S v n xs) (b : Nat) (cs : List Value) (hl : cs.length = S)
    (hc : ∀ j u, cs[j]? = some u → w.cell? ⟨b, j, none⟩ = some u) (h1 : ∀ u ∈ cs, u.oneCell' = true) (hn : n + 1 ≤ 1099511627776) (hB : B ≤ w.heap.size) :
    ∃ g cap w', (Builtin.append_ #[T, T] ty #[v, .slice (some ⟨b, 0, none⟩) 1 1]).run P w = .ok (.slice (some ⟨g, 0, none⟩) (n + 1) cap) w' ∧
      w'.ownsRow B E S (.slice (some ⟨g, 0, none⟩) (n + 1) cap) (n + 1) (xs ++ cs) ∧ w.grownBy w' v.ownBlock ∧ B ≤ g ∧ g < w'.heap.size ∧ (v.ownBlock = some g ∨ g = w.heap.size) := by
  obtain ⟨i, hi, hz, hsz, hb⟩ := info_parts hI
  have hnews : ∀ (j : Nat) u, cs[j]? = some u → w.cell? ((⟨b, 0, none⟩ : Addr).add j) = some u := by
    intro j u hj
    rw [show (⟨b, 0, none⟩ : Addr).add j = ⟨b, j, none⟩ by unfold Addr.add; split <;> simp_all]
    exact hc j u hj
  have hbytes : (n + 1) * bytes ≤ 140737488355328 := Nat.le_trans (Nat.mul_le_mul hn hby) (by decide)
  have hl1 : cs.length = 1 * S := by omega
  obtain ⟨v', w', hr, hown', hg, _⟩ := run_append_own (P := P) w B T ty E i z S bytes hT hi hz hsz hb hzs hS v n xs hown ⟨b, 0, none⟩ 1 1 cs hl1 hnews h1 (by simp only [maxLen]; omega) hbytes hB
  have key : ∀ g cap w1, (Builtin.append_ #[T, T] ty #[v, .slice (some ⟨b, 0, none⟩) 1 1]).run P w = .ok (.slice (some ⟨g, 0, none⟩) (n + 1) cap) w1 → (v.ownBlock = some g ∨ g = w.heap.size) →
      ∃ g cap w', (Builtin.append_ #[T, T] ty #[v, .slice (some ⟨b, 0, none⟩) 1 1]).run P w = .ok (.slice (some ⟨g, 0, none⟩) (n + 1) cap) w' ∧
      w'.ownsRow B E S (.slice (some ⟨g, 0, none⟩) (n + 1) cap) (n + 1) (xs ++ cs) ∧ w.grownBy w' v.ownBlock ∧ B ≤ g ∧ g < w'.heap.size ∧ (v.ownBlock = some g ∨ g = w.heap.size) := by
    intro g cap w1 hr1 hor
    rw [hr] at hr1
    have hr2 : v' = .slice (some ⟨g, 0, none⟩) (n + 1) cap ∧ w' = w1 := by simpa using hr1
    obtain ⟨rfl, rfl⟩ := hr2
    have hl := hown'.lt g rfl
    exact ⟨g, cap, w', hr, hown', hg, hl.1, hl.2, hor⟩
  rcases hown.2 with ⟨rfl, rfl⟩ | ⟨g, cap, cur, rfl, hbg, hgg, hnc, hcm, hcs, htake⟩
  · have hr1 := run_append_nil (P := P) w T ty E i z hT hi hz ⟨b, 0, none⟩ 1 1 cs (by rw [hsz]; exact hl1) hnews (by omega) (by omega) (by rw [hb]; omega)
    exact key _ _ _ hr1 (.inr rfl)
  · by_cases hroom : n + 1 ≤ cap
    · have hfit : n * i.size + cs.length ≤ cur.size := by
        rw [hsz, hcs, hl]
        have : (n + 1) * S ≤ cap * S := Nat.mul_le_mul_right _ hroom
        rw [Nat.add_mul] at this
        omega
      have hr1 := run_append_room (P := P) w T ty E i hT hi g n cap cur hgg ⟨b, 0, none⟩ 1 1 cs (by rw [hsz]; exact hl1) hnews h1 hroom hfit
      exact key _ _ _ hr1 (.inl rfl)
    · have hr1 := run_append_grow (P := P) w T ty E i z hT hi hz ⟨g, 0, none⟩ n cap xs (by rw [hsz]; exact hown.1) (hown.cells (g := g) rfl) ⟨b, 0, none⟩ 1 1 cs (by rw [hsz]; exact hl1) hnews (by omega) (by omega) (growslice_fits (by omega) (by rw [hb]; exact hbytes))
      exact key _ _ _ hr1 (.inr rfl)
theorem wpl_appS (T E : TypeId) (hT : Try.prog.underlying T = some (.slice E)) {z : Value} {S bytes : Nat} (hI : (Try.prog.info? E).map (fun i => (i.zero, i.size, i.bytes)) = some (some z, S, bytes)) (hzs : z.cells.size = S) (hS : 0 < S) (hby : bytes ≤ 128)
    {w : World} {ops : Array Oper} {rest : List Oper} {o : Oper} {a : Act} {Q : Exit → Act → World → Prop} (hgd : o.guard = none) (s x : Operand)
    (ho : o.op = .call { callee := .builtin .append, args := #[s, x], argTypes := #[T, T] })
    (B : Nat) (v : Value) (n : Nat) (xs : List Value) (hs : a.eval s = v) (hown : w.ownsRow B E S v n xs) (b : Nat) (cs : List Value) (hl : cs.length = S) (hx : a.eval x = .slice (some ⟨b, 0, none⟩) 1 1)
    (hc : ∀ j u, cs[j]? = some u → w.cell? ⟨b, j, none⟩ = some u) (h1 : ∀ u ∈ cs, u.oneCell' = true) (hn : n + 1 ≤ 1099511627776) (hB : B ≤ w.heap.size)
    (h : ∀ g cap w', w'.ownsRow B E S (.slice (some ⟨g, 0, none⟩) (n + 1) cap) (n + 1) (xs ++ cs) → w.grownBy w' v.ownBlock → B ≤ g → g < w'.heap.size → Hid (v.ownBlock = some g ∨ g = w.heap.size) →
      wpList Try.prog ops Q rest (a.put o.dst (.slice (some ⟨g, 0, none⟩) (n + 1) cap)) w') :
    wpList Try.prog ops Q (o :: rest) a w := by
  refine wpList_plain hgd fun K hK => ?_
  obtain ⟨g, cap, w', hr, hown', hg, hBg, hlt, hor⟩ := run_appS (P := Try.prog) T o.type E hT hI hzs hS hby B v n xs hown b cs hl hc h1 hn hB
  unfold Oper.wp execOp
  simp only [ho, resolve, invoke, builtin, Sem.run_bind, Sem.run_pure, Result.andThen_ok, List.map_toArray, List.map_cons, List.map_nil, hs, hx, hr]
  exact hK _ _ (h g cap w' hown' hg hBg hlt hor)
/-- A whole value into a block that is known whole. -/
theorem wpl_storeS {w : World} {ops : Array Oper} {rest : List Oper} {o : Oper} {a : Act} {Q : Exit → Act → World → Prop} (ty : TypeId) (x y : Operand) (ho : o.op = .store ty x y) (hgd : o.guard = none)
    {t : TypeId} {g : Nat} {cur : List Value} (hc : CB w t g cur) (hx : a.eval x = .pointer (some ⟨g, 0, none⟩)) {vs : Array Value} (hy : a.eval y = .agg vs) (hn : vs.size = cur.length) (hi : (Try.prog.info? ty).map (·.size) = some cur.length) (h1 : (vs.toList.all fun v => v.oneCell') = true)
    (h : ∀ w', CB w' t g vs.toList → Chg (fun k => k = g) w w' → w'.heap.size = w.heap.size → wpList Try.prog ops Q rest (a.put o.dst undef) w') : wpList Try.prog ops Q (o :: rest) a w := by
  refine wpList_plain hgd fun K hK => ?_
  refine wp_storec ty x y ho g 0 cur.length hx vs.toList (by simpa using hy) (by simpa using hn) hc hi (by omega) (List.all_eq_true.1 h1) fun w' h2 h3 h4 => hK _ _ (h w' ?_ h3 h4)
  have e : splice cur 0 vs.toList = vs.toList := by
    unfold splice
    simp [hn]
  rw [e] at h2
  exact h2
theorem Chg.ownsS {S : Nat → Prop} {w w' : World} (h : Chg S w w') {B E n k : Nat} {v : Value} {xs : List Value} (ho : w.ownsRow B E k v n xs) (hn : ∀ k, v.ownBlock = some k → ¬ S k) : w'.ownsRow B E k v n xs := by
  refine ⟨ho.1, ?_⟩
  rcases ho.2 with h0 | ⟨g, cap, cur, rfl, hb, hg, rest⟩
  · exact .inl h0
  · exact .inr ⟨g, cap, cur, rfl, hb, h.heap hg (hn g rfl), rest⟩
theorem ownsS_base {w : World} {B B' E n k : Nat} {v : Value} {xs : List Value} (ho : w.ownsRow B E k v n xs) (hB : B' ≤ B) : w.ownsRow B' E k v n xs := by
  refine ⟨ho.1, ?_⟩
  rcases ho.2 with h0 | ⟨g, cap, cur, rfl, hb, rest⟩
  · exact .inl h0
  · exact .inr ⟨g, cap, cur, rfl, Nat.le_trans hB hb, rest⟩
theorem own_slice {w : World} {B E S n : Nat} {v : Value} {xs : List Value} (h : w.ownsRow B E S v n xs) : ∃ a c, v = .slice a n c := by
  rcases h.2 with ⟨rfl, rfl⟩ | ⟨g, c, _, rfl, _⟩
  · exact ⟨none, 0, rfl⟩
  · exact ⟨_, _, rfl⟩
theorem all_one {cs : List Value} (h : (cs.all fun v => v.oneCell') = true) : ∀ u ∈ cs, u.oneCell' = true := List.all_eq_true.1 h
/-- A row of cells lies behind a slice. -/
def RowAt (w : World) (a : Option Addr) (cs : List Value) : Prop := cs = [] ∨ ∃ b off, a = some ⟨b, off, none⟩ ∧ w.rangeAt b off cs
theorem RowAt.mono {w w' : World} {a : Option Addr} {cs : List Value} (h : RowAt w a cs) (hb : ∀ p v, w.cell? p = some v → w'.cell? p = some v) : RowAt w' a cs := by
  rcases h with h | ⟨b, off, e, h⟩
  · exact .inl h
  · exact .inr ⟨b, off, e, fun j v hv => hb _ _ (h j v hv)⟩
theorem Chg.drewN {S : Nat → Prop} {a w : World} (h : Chg S a w) (n : Nat) : Chg S a (w.drewN n) := ⟨h.os, h.tape, h.output, h.size, h.block⟩
theorem CB.drewN {w : World} {t : TypeId} {g : Nat} {cs : List Value} (h : CB w t g cs) (n : Nat) : CB (w.drewN n) t g cs := h
theorem bsN_from (s : ByteArray) (i : Nat) : bsN (s.extract i s.size) = (bsN s).drop i := by
  rw [bsN_extract, List.take_of_length_le]
  rw [List.length_drop, bsN_len]
  omega
/-- A letter at a place. -/
theorem drop_at {l : List Nat} {i : Nat} (h : i < l.length) : l.drop i = at0 l i :: l.drop (i + 1) := by
  rw [at0_getElem h]; exact List.drop_eq_getElem_cons h
theorem ret_bool {a b : Bool} (h : a = b) : Ending.returned (.bool a) = .returned (.bool b) := by rw [h]
theorem results_cbD {fn : Func} {p q : Tmp} {T : TypeId} {al : Nat} {ae : TypeId} (h : fn.results = #[.cell p T, .tmp q]) {tmps : Array Value} {w : World} {g : Nat} {t : TypeId} {cs : List Value} {k : Value}
    (hp : tmps.getD p undef = .pointer (some ⟨g, 0, none⟩)) (hq : tmps.getD q undef = k) (hg : CB w t g cs) (hu : Try.prog.underlying T = some (.array al ae)) (hi : (Try.prog.info? T).map (·.size) = some cs.length) :
    (results fn tmps).run Try.prog w = .ok (.tuple #[.agg cs.toArray, k]) w := by
  rw [results_cell_tmp h, hp, hq]
  simp [asAddr, Result.andThen, run_loadVar_row (P := Try.prog) w g t T cs.toArray (0, 0) (.array al ae) hg hu rfl (by rw [hi]; simp)]
theorem index_list (l : List UInt8) (c : UInt8) : (Lib.indexByte l c = -1 ∧ c.toNat ∉ l.map UInt8.toNat) ∨
    ∃ i : Nat, Lib.indexByte l c = (i : Int) ∧ i < l.length ∧ l.map UInt8.toNat = (l.map UInt8.toNat).take i ++ c.toNat :: (l.map UInt8.toNat).drop (i + 1) ∧ c.toNat ∉ (l.map UInt8.toNat).take i := by
  induction l with
  | nil => exact .inl ⟨rfl, by simp⟩
  | cons b t ih =>
    unfold Lib.indexByte
    by_cases hbc : b = c
    · subst hbc
      exact .inr ⟨0, by simp, by simp, by simp, by simp⟩
    · have hn : (b == c) = false := by simpa using hbc
      have hne : b.toNat ≠ c.toNat := fun e => hbc (UInt8.toNat_inj.1 e)
      rw [hn]
      rcases ih with ⟨h1, h2⟩ | ⟨i, h1, h2, h3, h4⟩
      · refine .inl ⟨by simp [h1], ?_⟩
        rw [List.map_cons, List.mem_cons]
        rintro (h | h)
        · exact hne h.symm
        · exact h2 h
      · refine .inr ⟨i + 1, ?_, by simp; omega, ?_, ?_⟩
        · simp [h1]
        · simp only [List.map_cons, List.take_succ_cons, List.drop_succ_cons, List.cons_append]
          exact congrArg _ h3
        · rw [List.map_cons, List.take_succ_cons, List.mem_cons]
          rintro (h | h)
          · exact hne h.symm
          · exact h4 h
theorem results_cell_tmp2 {fn : Func} {p u v : Tmp} {ty : TypeId} (h : fn.results = #[.cell p ty, .tmp u, .tmp v]) (tmps : Array Value) (P : Program) (w : World) :
    (results fn tmps).run P w =
      ((asAddr (tmps.getD p undef)).run P w).andThen fun a w₁ => ((loadVar ty a).run P w₁).andThen fun x w₂ => .ok (.tuple #[x, tmps.getD u undef, tmps.getD v undef]) w₂ := by
  simp only [results, h]
  simp [Sem.run_bind, Result.andThen]
theorem results_cbT3 {fn : Func} {p q r : Tmp} {T : TypeId} {fs : Array Field} (h : fn.results = #[.cell p T, .tmp q, .tmp r]) {tmps : Array Value} {w : World} {g : Nat} {t : TypeId} {cs : List Value} {k k2 : Value}
    (hp : tmps.getD p undef = .pointer (some ⟨g, 0, none⟩)) (hq : tmps.getD q undef = k) (hr : tmps.getD r undef = k2) (hg : CB w t g cs) (hu : Try.prog.underlying T = some (.struct fs)) (hi : (Try.prog.info? T).map (·.size) = some cs.length) :
    (results fn tmps).run Try.prog w = .ok (.tuple #[.agg cs.toArray, k, k2]) w := by
  rw [results_cell_tmp2 h, hp, hq, hr]
  simp [asAddr, Result.andThen, run_loadVar_row (P := Try.prog) w g t T cs.toArray (0, 0) (.struct fs) hg hu rfl (by rw [hi]; simp)]
end Go.Proofs.Ytdaaapingaebkaa
