import Derived.Test.YteanpdiceaijhaaDoorNatA
namespace Go.Proofs.YteanpdiceaijhaaDoor
open Go.RowKit

/-- Many elements more behind a row: the block is the row's own, or a new one. -/
theorem run_appN {P : Program} {w : World} (T ty E : TypeId) (hT : P.underlying T = some (.slice E)) {z : Value} {bytes : Nat} (hI : (P.info? E).map (fun i => (i.zero, i.size, i.bytes)) = some (some z, 1, bytes)) (hzs : z.cells.size = 1) (hby : bytes ≤ 32)
    (B : Nat) (v : Value) (n : Nat) (xs : List Value) (hown : w.ownsRow B E 1 v n xs) (ad : Option Addr) (m c : Nat) (news : List Value) (hl : news.length = m)
    (hc : 0 < m → ∃ p, ad = some p ∧ ∀ (j : Nat) u, news[j]? = some u → w.cell? (p.add j) = some u) (h0 : m = 0 → ad = none → c = 0) (h1 : ∀ u ∈ news, u.oneCell' = true) (hn : n + m ≤ 4398046511104) (hB : B ≤ w.heap.size) :
    ∃ v' w', (Builtin.append_ #[T, T] ty #[v, .slice ad m c]).run P w = .ok v' w' ∧ w'.ownsRow B E 1 v' (n + m) (xs ++ news) ∧ w.grownBy w' v.ownBlock ∧ (∀ k, v'.ownBlock = some k → v.ownBlock = some k ∨ k = w.heap.size) ∧ (v.ownBlock = none → n + m = 0 → v' = .slice none 0 0) := by
  obtain ⟨i, hi, hz, hsz, hb⟩ := info_parts hI
  have hbytes : (n + m) * bytes ≤ 140737488355328 := Nat.le_trans (Nat.mul_le_mul hn hby) (by decide)
  cases ad with
  | none =>
    have hm : m = 0 := Nat.eq_zero_of_not_pos (fun h => by obtain ⟨p, hp, _⟩ := hc h; cases hp)
    subst hm
    obtain rfl := h0 rfl rfl
    obtain rfl : news = [] := List.eq_nil_of_length_eq_zero hl
    refine ⟨v, w, run_append_owned_none (P := P) w B T ty E i 1 hT hi v n xs hown, by simpa using hown, ⟨rfl, rfl, rfl, Nat.le_refl _, fun _ _ _ => rfl⟩, fun k hk => .inl hk, fun h1 h2 => ?_⟩
    rcases hown.2 with ⟨h, _⟩ | ⟨g, cap, cur, rfl, _⟩
    · exact h
    · cases h1
  | some p =>
    have hnews : ∀ (j : Nat) u, news[j]? = some u → w.cell? (p.add j) = some u := by
      intro j u hj
      have hlt : j < news.length := (List.getElem?_eq_some_iff.1 hj).1
      obtain ⟨p', hp', hc'⟩ := hc (by omega)
      cases hp'
      exact hc' j u hj
    obtain ⟨v', w', hr, hown', hg, hnil⟩ := run_append_own (P := P) w B T ty E i z 1 bytes hT hi hz hsz hb hzs (by decide) v n xs hown p m c news (by simpa using hl) hnews h1 (by simp only [maxLen]; omega) hbytes hB
    refine ⟨v', w', hr, hown', hg, ?_, fun h1 h2 => ?_⟩
    · have key : ∀ g cap w1, (Builtin.append_ #[T, T] ty #[v, .slice (some p) m c]).run P w = .ok (.slice (some ⟨g, 0, none⟩) (n + m) cap) w1 → (v.ownBlock = some g ∨ g = w.heap.size) →
          ∀ k, v'.ownBlock = some k → v.ownBlock = some k ∨ k = w.heap.size := by
        intro g cap w1 hr1 hor k hk
        rw [hr] at hr1
        have hr2 : v' = .slice (some ⟨g, 0, none⟩) (n + m) cap ∧ w' = w1 := by simpa using hr1
        rw [hr2.1] at hk
        obtain rfl : g = k := by simpa [Value.ownBlock] using hk
        exact hor
      rcases hown.2 with ⟨rfl, rfl⟩ | ⟨g, cap, cur, rfl, hbg, hgg, hnc, hcm, hcs, htake⟩
      · by_cases hm : m = 0
        · have := hnil.2 ⟨rfl, hm⟩
          subst this
          intro k hk; cases hk
        · have hr1 := run_append_nil (P := P) w T ty E i z hT hi hz p m c news (by rw [hsz]; simpa using hl) hnews (by omega) (by omega) (by rw [hb]; rw [Nat.zero_add] at hbytes; exact Nat.le_trans hbytes (by decide))
          exact key _ _ _ (by simpa using hr1) (.inr rfl)
      · by_cases hroom : n + m ≤ cap
        · have hr1 := run_append_room (P := P) w T ty E i hT hi g n cap cur hgg p m c news (by rw [hsz]; simpa using hl) hnews h1 hroom (by rw [hsz]; omega)
          exact key _ _ _ hr1 (.inl rfl)
        · have hr1 := run_append_grow (P := P) w T ty E i z hT hi hz ⟨g, 0, none⟩ n cap xs (by rw [hsz]; exact hown.1) (hown.cells (g := g) rfl) p m c news (by rw [hsz]; simpa using hl) hnews (by omega) (by omega) (growslice_fits (by omega) (by rw [hb]; exact hbytes))
          exact key _ _ _ hr1 (.inr rfl)
    · refine hnil.2 ⟨?_, by omega⟩
      rcases hown.2 with ⟨h, _⟩ | ⟨g, cap, cur, rfl, _⟩
      · exact h
      · cases h1

theorem wpl_appN (T E : TypeId) (hT : Tryd.prog.underlying T = some (.slice E)) {z : Value} {bytes : Nat} (hI : (Tryd.prog.info? E).map (fun i => (i.zero, i.size, i.bytes)) = some (some z, 1, bytes)) (hzs : z.cells.size = 1) (hby : bytes ≤ 32)
    {w : World} {ops : Array Oper} {rest : List Oper} {o : Oper} {a : Act} {Q : Exit → Act → World → Prop} (hgd : o.guard = none) (s x : Operand)
    (ho : o.op = .call { callee := .builtin .append, args := #[s, x], argTypes := #[T, T] })
    (B : Nat) (v : Value) (n : Nat) (xs : List Value) (hs : a.eval s = v) (hown : w.ownsRow B E 1 v n xs) (ad : Option Addr) (m c : Nat) (hx : a.eval x = .slice ad m c) (news : List Value) (hl : news.length = m)
    (hc : 0 < m → ∃ p, ad = some p ∧ ∀ (j : Nat) u, news[j]? = some u → w.cell? (p.add j) = some u) (h0 : m = 0 → ad = none → c = 0) (h1 : ∀ u ∈ news, u.oneCell' = true) (hn : n + m ≤ 4398046511104) (hB : B ≤ w.heap.size)
    (h : ∀ v' w', w'.ownsRow B E 1 v' (n + m) (xs ++ news) → w.grownBy w' v.ownBlock → Hid (∀ k, v'.ownBlock = some k → v.ownBlock = some k ∨ k = w.heap.size) → Hid (v.ownBlock = none → n + m = 0 → v' = .slice none 0 0) →
      wpList Tryd.prog ops Q rest (a.put o.dst v') w') :
    wpList Tryd.prog ops Q (o :: rest) a w := by
  refine wpList_plain hgd fun K hK => ?_
  obtain ⟨v', w', hr, hown', hg, hor, hnil⟩ := run_appN (P := Tryd.prog) T o.type E hT hI hzs hby B v n xs hown ad m c news hl hc h0 h1 hn hB
  unfold Oper.wp execOp
  simp only [ho, resolve, invoke, builtin, Sem.run_bind, Sem.run_pure, Result.andThen_ok, List.map_toArray, List.map_cons, List.map_nil, hs, hx, hr]
  exact hK _ _ (h v' w' hown' hg hor hnil)

/-- Reading a slice's cells for an append. -/
theorem Rd.news {k : IntKind} {w : World} {a : Option Addr} {xs : List Nat} (h : Rd k w a xs) : 0 < xs.length → ∃ p, a = some p ∧ ∀ (j : Nat) u, (xs.map fun (x : Nat) => Value.int k x)[j]? = some u → w.cell? (p.add j) = some u := by
  intro h0
  obtain ⟨b, off, rfl⟩ := h.isAt h0
  refine ⟨_, rfl, fun j u hj => ?_⟩
  have hlt : j < xs.length := by simpa using (List.getElem?_eq_some_iff.1 hj).1
  have := h.cell hlt
  rw [at0_getElem hlt] at this
  have e : u = .int k (xs[j] : Nat) := by simpa [hlt] using hj.symm
  subst e
  have e2 : (⟨b, off, none⟩ : Addr).add j = ⟨b, off + j, none⟩ := by unfold Addr.add; split <;> simp_all
  rw [e2]; exact this

/-- An array with a piece written over. -/
def putL (cur : Array Value) (off : Nat) (zs : List Nat) : Array Value := (cur.toList.take off ++ (u64s zs ++ cur.toList.drop (off + zs.length))).toArray
theorem putL_nil (cur : Array Value) (off : Nat) : putL cur off [] = cur := by simp [putL, u64s]
theorem putL_size {cur : Array Value} {off : Nat} {zs : List Nat} (h : off + zs.length ≤ cur.size) : (putL cur off zs).size = cur.size := by
  simp [putL, u64s]; omega
theorem putL_in {cur : Array Value} {off i : Nat} {zs : List Nat} (h : off + zs.length ≤ cur.size) (hi : i < zs.length) : (putL cur off zs)[off + i]? = some (.int .u64 (at0 zs i : Nat)) := by
  have h1 : (cur.toList.take off).length = off := by simp; omega
  simp only [putL, List.getElem?_toArray]
  rw [List.getElem?_append_right (by omega), h1, Nat.add_sub_cancel_left, List.getElem?_append_left (by rw [u64s_len]; exact hi), u64s_get _ _ hi]
theorem putL_out {cur : Array Value} {off j : Nat} {zs : List Nat} (h : off + zs.length ≤ cur.size) (hj : j < off ∨ off + zs.length ≤ j) : (putL cur off zs)[j]? = cur[j]? := by
  have h1 : (cur.toList.take off).length = off := by simp; omega
  simp only [putL, List.getElem?_toArray]
  rcases hj with hj | hj
  · rw [List.getElem?_append_left (by omega), List.getElem?_take, if_pos hj]; simp
  · rw [List.getElem?_append_right (by omega), h1, List.getElem?_append_right (by rw [u64s_len]; omega), u64s_len, List.getElem?_drop]
    simp only [Array.getElem?_toList]
    congr 1; omega
theorem putL_snoc {cur : Array Value} {off z : Nat} {zs : List Nat} (h : off + zs.length < cur.size) : (putL cur off zs).setIfInBounds (off + zs.length) (.int .u64 (z : Nat)) = putL cur off (zs ++ [z]) := by
  apply Array.ext_getElem?
  intro j
  rw [Array.getElem?_setIfInBounds]
  by_cases e : off + zs.length = j
  · subst e
    rw [if_pos rfl, if_pos (by rw [putL_size (by omega)]; exact h), putL_in (i := zs.length) (by simp; omega) (by simp)]
    have := at0_append_right (xs := zs) (ys := [z]) 0
    rw [Nat.add_zero] at this
    rw [this]; rfl
  · rw [if_neg e]
    by_cases h2 : j < off ∨ off + (zs ++ [z]).length ≤ j
    · rw [putL_out (by simp; omega) h2, putL_out (by omega) (by simp at h2; omega)]
    · simp at h2
      obtain ⟨i, rfl⟩ : ∃ i, j = off + i := ⟨j - off, by omega⟩
      rw [putL_in (by omega) (by omega), putL_in (by simp; omega) (by simp; omega), at0_append_left (by omega)]
theorem putL_putL {cur : Array Value} {off : Nat} {zs ys : List Nat} (h : off + zs.length ≤ cur.size) (hl : zs.length = ys.length) : putL (putL cur off zs) off ys = putL cur off ys := by
  apply Array.ext_getElem?
  intro j
  have hs := putL_size h
  by_cases h2 : j < off ∨ off + ys.length ≤ j
  · rw [putL_out (by omega) h2, putL_out (by omega) (by omega), putL_out (by omega) h2]
  · obtain ⟨i, rfl⟩ : ∃ i, j = off + i := ⟨j - off, by omega⟩
    rw [putL_in (by omega) (by omega), putL_in (by omega) (by omega)]

/-- A block of cells. -/
def Blk (w : World) (g : Nat) (cur : Array Value) : Prop := w.heap[g]? = some (.cells cur 55 (0, 0))
theorem Blk.cell {w : World} {g : Nat} {cur : Array Value} (h : Blk w g cur) (i : Nat) : w.cell? ⟨g, i, none⟩ = cur[i]? := by unfold Blk at h; simp [World.cell?, h]
theorem Blk.free {w : World} {g : Nat} {cur : Array Value} (h : Blk w g cur) (i : Nat) : w.frozen? ⟨g, i, none⟩ = false := by unfold Blk at h; simp [World.frozen?, h]
theorem Blk.lt {w : World} {g : Nat} {cur : Array Value} (h : Blk w g cur) : g < w.heap.size := lt_of_block h
theorem Blk.set {w : World} {g : Nat} {cur : Array Value} (h : Blk w g cur) (i : Nat) (u : Value) : Blk (w.setCell ⟨g, i, none⟩ u) g (cur.setIfInBounds i u) := heap_setCell_same w g i cur _ u h
theorem Blk.chg {w w' : World} {g : Nat} {cur : Array Value} {S : Nat → Prop} (h : Blk w g cur) (hc : Chg S w w') (hS : ¬ S g) : Blk w' g cur := hc.heap h hS
/-- A piece of it that is a list of limbs. -/
def Sg (cur : Array Value) (off : Nat) (xs : List Nat) : Prop := off + xs.length ≤ cur.size ∧ ∀ i, i < xs.length → cur[off + i]? = some (.int .u64 (at0 xs i : Nat))
theorem Sg.rd {w : World} {g off : Nat} {cur : Array Value} {xs : List Nat} (h : Sg cur off xs) (hb : Blk w g cur) : Rd .u64 w (some ⟨g, off, none⟩) xs :=
  fun _ _ => ⟨g, off, rfl, fun i hi => by rw [hb.cell]; have := h.2 i hi; unfold at0 at this; exact this⟩
theorem putL_sg {cur : Array Value} {off : Nat} {zs : List Nat} (h : off + zs.length ≤ cur.size) : Sg (putL cur off zs) off zs := ⟨by rw [putL_size h]; exact h, fun i hi => putL_in h hi⟩
/-- A row that the call owns: its block. -/
theorem own64.blk {w : World} {B : Nat} {a : Addr} {n c : Nat} {zs : List Nat} (h : own64 w B (.slice (some a) n c) zs) : ∃ g cur, a = ⟨g, 0, none⟩ ∧ n = zs.length ∧ B ≤ g ∧ Blk w g cur ∧ n ≤ c ∧ c ≤ maxLen ∧ cur.size = c ∧ Sg cur 0 zs := by
  rcases h.2 with ⟨hv, h0⟩ | ⟨g, c', cur, hv, hb, hg, hn, hm, hs, ht⟩
  · cases hv
  · cases hv
    refine ⟨g, cur, rfl, rfl, hb, hg, hn, hm, by simpa using hs, by simp at hs; omega, fun i hi => ?_⟩
    have h2 := u64s_get zs i hi
    rw [← ht, List.getElem?_take, if_pos (by omega)] at h2
    rw [Nat.zero_add]
    simpa using h2
theorem own64_of_blk {w : World} {B g c : Nat} {cur : Array Value} {zs : List Nat} (hb : Blk w g cur) (hB : B ≤ g) (hn : zs.length ≤ c) (hm : c ≤ maxLen) (hs : cur.size = c) (hz : Sg cur 0 zs) : own64 w B (.slice (some ⟨g, 0, none⟩) zs.length c) zs := by
  refine ⟨by simp [u64s], .inr ⟨g, c, cur, rfl, hB, hb, hn, hm, by simpa using hs, ?_⟩⟩
  apply List.ext_getElem?
  intro i
  rw [List.getElem?_take]
  by_cases hi : i < zs.length
  · rw [if_pos (by omega), u64s_get _ _ hi]
    have := hz.2 i hi
    rw [Nat.zero_add] at this
    simpa using this
  · rw [if_neg (by omega), List.getElem?_eq_none (by rw [u64s_len]; omega)]
end Go.Proofs.YteanpdiceaijhaaDoor
