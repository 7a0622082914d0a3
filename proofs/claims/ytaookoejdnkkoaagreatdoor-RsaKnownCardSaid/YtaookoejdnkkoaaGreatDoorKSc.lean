import Derived.Test.YtaookoejdnkkoaaGreatDoorKSb
namespace Go.Proofs.YtaookoejdnkkoaaGreatDoor
open Go.RowKit

def hcells (s : S5) (buf : List Nat) (n : Nat) : List Value := s.cells ++ (u8s buf ++ [.int .u64 (n : Nat)])
theorem hcells_len (s : S5) (buf : List Nat) (n : Nat) (h : buf.length = 64) : (hcells s buf n).length = 70 := by simp [hcells, S5.cells, u8s, h]
theorem hcells_n (s : S5) (buf : List Nat) (n : Nat) (h : buf.length = 64) : (hcells s buf n)[69]? = some (.int .u64 (n : Nat)) := by
  unfold hcells
  rw [List.getElem?_append_right (by simp [S5.cells]), List.getElem?_append_right (by simp [S5.cells, u8s, h])]
  simp [S5.cells, u8s, h]
theorem hcells_s (s : S5) (buf : List Nat) (n i : Nat) (h : i < 5) : (hcells s buf n)[i]? = some (.int .u32 (s.at i)) := by
  unfold hcells
  rw [List.getElem?_append_left (by simp [S5.cells]; omega), cells_at _ _ h]
theorem hcells_buf (s : S5) (buf : List Nat) (n : Nat) (h : buf.length = 64) : ((hcells s buf n).drop 5).take 64 = u8s buf := by
  unfold hcells
  rw [List.drop_left' (by rfl), List.take_left' (by simp [u8s, h])]
theorem hcells_splice (s : S5) (buf : List Nat) (n o : Nat) (xs : List Nat) (h : o + xs.length ≤ buf.length) : splice (hcells s buf n) (5 + o) (u8s xs) = hcells s (splice buf o xs) n := by
  have hl : s.cells.length = 5 := rfl
  unfold splice hcells
  rw [List.take_append, List.drop_append, hl, List.take_of_length_le (by rw [hl]; omega), List.drop_of_length_le (by rw [hl]; omega), List.nil_append, show 5 + o - 5 = o by omega, u8s_len, show 5 + o + xs.length - 5 = o + xs.length by omega]
  rw [List.take_append_of_le_length (by rw [u8s_len]; omega), List.drop_append_of_le_length (by rw [u8s_len]; omega)]
  simp [u8s, List.map_take, List.map_drop]
theorem hcells_setn (s : S5) (buf : List Nat) (n k : Nat) (h : buf.length = 64) : (hcells s buf n).set 69 (.int .u64 (k : Nat)) = hcells s buf k := by
  have hl : s.cells.length = 5 := rfl
  unfold hcells
  rw [List.set_append_right _ _ (by rw [hl]; decide), hl, List.set_append_right _ _ (by rw [u8s_len, h]; decide), u8s_len, h]
  rfl
theorem hcells_sets (s t : S5) (buf : List Nat) (n : Nat) : splice (hcells s buf n) 0 t.cells = hcells t buf n := by
  unfold splice hcells; rfl

theorem hcells_one (s : S5) (buf : List Nat) (n : Nat) : ∀ v ∈ hcells s buf n, v.oneCell' = true := by
  intro v hv
  unfold hcells at hv
  rcases List.mem_append.1 hv with h | h
  · exact cells_one s v h
  · rcases List.mem_append.1 h with h | h
    · exact u8s_one _ v h
    · obtain rfl := List.mem_singleton.1 h; rfl
theorem infoH : (Tryz.prog.info? 177).map (fun i => (i.zero, i.size)) = some (some (.agg (hcells ⟨0, 0, 0, 0, 0⟩ (z8 64) 0).toArray), 70) := by kernel_rfl
theorem built0 : Tryz.prog.built 177 [(0, .agg start5.cells.toArray)] = some (hcells start5 (z8 64) 0).toArray := by kernel_rfl

/-- What a Hash holds, when m was written. -/
def HSt (w : World) (g : Nat) (m : List Nat) : Prop := ∃ buf, buf.length = 64 ∧ (∀ x ∈ buf, x < 256) ∧ CB w 177 g (hcells (blocks5 start5 m (m.length / 64)) buf m.length) ∧ buf.take (m.length % 64) = m.drop (64 * (m.length / 64))
theorem HSt.chg {w w' : World} {g : Nat} {m : List Nat} {S : Nat → Prop} (h : HSt w g m) (hc : Chg S w w') (hS : ¬ S g) : HSt w' g m := by
  obtain ⟨buf, h1, h2, h3, h4⟩ := h
  exact ⟨buf, h1, h2, h3.chg hc hS, h4⟩
theorem HSt.below {w w' : World} {g : Nat} {m : List Nat} (h : HSt w g m) (hb : Below w.heap.size w w') : HSt w' g m := by
  obtain ⟨buf, h1, h2, h3, h4⟩ := h
  exact ⟨buf, h1, h2, h3.below hb, h4⟩
theorem HSt.lt {w : World} {g : Nat} {m : List Nat} (h : HSt w g m) : g < w.heap.size := by
  obtain ⟨buf, h1, h2, h3, h4⟩ := h
  exact h3.lt
/-- The package's beginning. -/
def Five (w : World) : Prop := ∀ i, i < 5 → w.cell? ⟨0, i, none⟩ = some (.int .u32 (start5.at i))
theorem Five.below {w w' : World} (h : Five w) (hb : Below w.heap.size w w') : Five w' := fun i hi => below_cell hb _ _ (h i hi)

theorem wp_buildc {P : Program} {o : Oper} {a : Act} {w : World} {K : Act → World → Prop} {Q : Exit → Act → World → Prop} (t : TypeId) (parts : Array (Nat × Operand)) (ho : o.op = .build t parts) (cells : Array Value)
    (hc : P.built t (parts.map fun (i, x) => (i, a.eval x)).toList = some cells) (h : K (a.put o.dst (.agg cells)) w) : o.wp P a w K Q := by
  unfold Oper.wp execOp
  simp only [ho, Sem.run_bind, run_build w t _ cells hc, Result.andThen_ok]
  exact h

set_option maxHeartbeats 800000 in
set_option maxRecDepth 100000 in
theorem new_any (w : World) (hF : Five w) : Calls Tryz.prog 119 #[] w fun e w' => e = .returned (.pointer (some ⟨w.heap.size, 0, none⟩)) ∧ HSt w' w.heap.size [] ∧ Below w.heap.size w w' := by
  have f0 : w.cell? ⟨0, 0, none⟩ = some (.int .u32 1732584193) := hF 0 (by decide)
  have f1 : w.cell? ⟨0, 1, none⟩ = some (.int .u32 4023233417) := hF 1 (by decide)
  have f2 : w.cell? ⟨0, 2, none⟩ = some (.int .u32 2562383102) := hF 2 (by decide)
  have f3 : w.cell? ⟨0, 3, none⟩ = some (.int .u32 271733878) := hF 3 (by decide)
  have f4 : w.cell? ⟨0, 4, none⟩ = some (.int .u32 3285377520) := hF 4 (by decide)
  go_enter Tryz.func119, Tryz.ntmps119
  go_upto_region 1 with fail
  refine wp_region_lit ?_
  refine wpList_plain rfl fun K1 hK1 => ?_
  go_simp
  refine hK1 _ _ ?_
  clear hK1 K1
  refine wpList_plain rfl fun K1 hK1 => wp_buildc 177 #[(0, .tmp 1)] rfl (hcells start5 (z8 64) 0).toArray (by simp only [List.map_toArray, List.map_cons, List.map_nil]; exact built0) (hK1 _ _ ?_)
  clear hK1 K1
  generalize hH : hcells start5 (z8 64) 0 = H
  go_wp2
  go_ret
  subst hH
  exact ⟨rfl, ⟨z8 64, z8_len _, fun x hx => by rw [List.eq_of_mem_replicate hx]; decide, CB.new _ _ _, rfl⟩, (Below.refl _ _).alloc (Nat.le_refl _) _⟩

theorem info8s : (Tryz.prog.info? 5).map (·.size) = some 1 := by kernel_rfl
/-- Bytes laid behind those that stand there. -/
theorem lay_more {M xs buf : List Nat} (hb : buf.length = 64) (hpre : buf.take (M.length % 64) = M.drop (64 * (M.length / 64))) (hx : M.length % 64 + xs.length < 64) :
    (splice buf (M.length % 64) xs).take ((M ++ xs).length % 64) = (M ++ xs).drop (64 * ((M ++ xs).length / 64)) ∧ blocks5 start5 (M ++ xs) ((M ++ xs).length / 64) = blocks5 start5 M (M.length / 64) := by
  have e1 : (M ++ xs).length / 64 = M.length / 64 := by rw [List.length_append]; omega
  have e2 : (M ++ xs).length % 64 = M.length % 64 + xs.length := by rw [List.length_append]; omega
  rw [e1, e2]
  refine ⟨?_, blocks5_append _ _ _ _ (by omega)⟩
  rw [List.drop_append_of_le_length (by omega), ← hpre]
  unfold splice
  have hl : (buf.take (M.length % 64)).length = M.length % 64 := by rw [List.length_take]; omega
  rw [← List.append_assoc, List.take_left' (by rw [List.length_append, hl])]
theorem lay_full {M xs buf : List Nat} (hb : buf.length = 64) (hpre : buf.take (M.length % 64) = M.drop (64 * (M.length / 64))) (hx : M.length % 64 + xs.length = 64) :
    (M ++ xs).length % 64 = 0 ∧ blocks5 start5 (M ++ xs) ((M ++ xs).length / 64) = block5 (blocks5 start5 M (M.length / 64)) (splice buf (M.length % 64) xs) ∧ (M ++ xs).drop (64 * ((M ++ xs).length / 64)) = [] := by
  have e1 : (M ++ xs).length / 64 = M.length / 64 + 1 := by rw [List.length_append]; omega
  have e2 : (M ++ xs).length % 64 = 0 := by rw [List.length_append]; omega
  rw [e1]
  refine ⟨e2, ?_, List.drop_of_length_le (by rw [List.length_append]; omega)⟩
  rw [blocks5, blocks5_append _ _ _ _ (by omega)]
  congr 1
  rw [List.drop_append_of_le_length (by omega), ← hpre]
  unfold splice
  have hl : (buf.take (M.length % 64)).length = M.length % 64 := by rw [List.length_take]; omega
  rw [List.drop_of_length_le (by rw [hb]; omega), List.append_nil, List.take_of_length_le (by rw [List.length_append, hl]; omega)]
theorem splice_len {α : Type} (L : List α) (o : Nat) (xs : List α) (h : o + xs.length ≤ L.length) : (splice L o xs).length = L.length := length_splice L o xs h
theorem splice_byte {L xs : List Nat} (o : Nat) (hL : ∀ x ∈ L, x < 256) (hx : ∀ x ∈ xs, x < 256) : ∀ x ∈ splice L o xs, x < 256 := by
  intro x h
  unfold splice at h
  rcases List.mem_append.1 h with h | h
  · exact hL x (List.mem_of_mem_take h)
  · rcases List.mem_append.1 h with h | h
    · exact hx x h
    · exact hL x (List.mem_of_mem_drop h)

def WS (g B : Nat) (k : Nat) : Prop := k = g ∨ B ≤ k

set_option maxHeartbeats 1600000 in
set_option maxRecDepth 100000 in
theorem write_pos (g : Nat) (m : List Nat) (bb off len cap : Nat) (l : List Nat) (w : World) (hS : HSt w g m) (hl : l.length = len) (hpos : 0 < len) (hbig : m.length + len ≤ 1099511627776) (hcap : len ≤ cap)
    (hb : ∀ x ∈ l, x < 256) (hc : ∀ i, i < len → w.cell? ⟨bb, off + i, none⟩ = some (.int .u8 ((l.getD i 0 : Nat) : Int))) (hne : bb ≠ g) (hbw : bb < w.heap.size) :
    Calls Tryz.prog 120 #[.pointer (some ⟨g, 0, none⟩), .slice (some ⟨bb, off, none⟩) len cap] w fun e w' => e = .returned (.tuple #[]) ∧ HSt w' g (m ++ l) ∧ Chg (WS g w.heap.size) w w' := by
  have HC := Lib.hid hc
  have HB := Lib.hid hb
  have HS := Lib.hid hS
  have hgw : g < w.heap.size := hS.lt
  clear hc hb hS
  go_enter Tryz.func120, Tryz.ntmps120
  go_wp2
  go_loopw [1] (fun v wr => ∃ (j k c : Nat) (a : Option Addr), v = .slice a k c ∧ Hid (j + k = len) ∧ k ≤ c ∧ Hid (0 < k → a = some ⟨bb, off + j, none⟩) ∧ Hid (HSt wr g (m ++ l.take j)) ∧ Hid (Chg (WS g w.heap.size) w wr)) (fun v _ => lenOf v)
  case atStart => exact ⟨0, len, cap, some ⟨bb, off, none⟩, rfl, Nat.zero_add _, hcap, fun _ => rfl, by show HSt w g _; rw [List.take_zero, List.append_nil]; exact HS.out, Chg.refl _ _⟩
  case round =>
    clear HS
    obtain ⟨j, k, c, a, rfl, HJ, hkc, HA, HS, HW⟩ := hrel
    by_cases hk : 0 < k
    · obtain rfl := HA.out hk
      have hj := HJ.out
      obtain ⟨M, hM⟩ : ∃ M, M = m ++ l.take j := ⟨_, rfl⟩
      have HMM := Lib.hid hM
      have hMl : M.length = m.length + j := by rw [hM, List.length_append, List.length_take]; omega
      rw [← hM] at HS
      clear hM
      obtain ⟨buf, hbl, hbb, hcb, hpre⟩ := HS.out
      obtain ⟨n0, hn0⟩ : ∃ n0, n0 = M.length := ⟨_, rfl⟩
      obtain ⟨r, hr⟩ : ∃ r, r = M.length % 64 := ⟨_, rfl⟩
      obtain ⟨d, hd⟩ : ∃ d, d = Nat.min k (64 - r) := ⟨_, rfl⟩
      have hd2 : d ≤ k ∧ d ≤ 64 - r ∧ (d = k ∨ d = 64 - r) ∧ 0 < d := by
        rw [hd]; have h1 := Nat.min_le_left k (64 - r); have h2 := Nat.min_le_right k (64 - r)
        have h3 : Nat.min k (64 - r) = k ∨ Nat.min k (64 - r) = 64 - r := by rcases Nat.le_total k (64 - r) with h | h; exact .inl (Nat.min_eq_left h); exact .inr (Nat.min_eq_right h)
        refine ⟨h1, h2, h3, ?_⟩
        rcases h3 with h | h <;> rw [h] <;> omega
      obtain ⟨n1, hn1⟩ : ∃ n1, n1 = n0 + d := ⟨_, rfl⟩
      obtain ⟨xs, hxs⟩ : ∃ xs, xs = (l.drop j).take d := ⟨_, rfl⟩
      have hxl : xs.length = d := by rw [hxs]; simp; omega
      have HXB : Hid (∀ x ∈ xs, x < 256) := fun x hx => HB.out x (by rw [hxs] at hx; exact List.mem_of_mem_drop (List.mem_of_mem_take hx))
      have HXC : Hid (∀ i v, (u8s xs)[i]? = some v → wr.cell? ⟨bb, off + j + i, none⟩ = some v) := fun i v hv => by
        have hi : i < d := by rw [← hxl, ← u8s_len]; exact (List.getElem?_eq_some_iff.1 hv).1
        have h1 := HW.out.cell (HC.out (j + i) (by omega)) (fun h => by rcases h with h | h; exact hne h; exact absurd hbw (Nat.not_lt.2 h))
        rw [show off + j + i = off + (j + i) by omega, h1, ← hv, hxs, u8s, List.getElem?_map, List.getElem?_take, if_pos hi, List.getElem?_drop, List.getD_eq_getElem?_getD, List.getElem?_eq_getElem (by omega)]
        rfl
      obtain ⟨s0, hs0⟩ : ∃ s0, s0 = blocks5 start5 M (M.length / 64) := ⟨_, rfl⟩
      rw [← hs0, ← hn0] at hcb
      have HS0 := Lib.hid hs0
      clear hs0
      have hcc : wr.cell? ⟨g, 69, none⟩ = some (.int .u64 ((n0 : Nat) : Int)) := by rw [hcb.cell, hcells_n _ _ _ hbl]
      have er : (n0 : Int).tmod 64 = (r : Int) := by rw [Int.tmod_eq_emod_of_nonneg (by omega)]; omega
      have hr64 : r < 64 := by omega
      have hr64' : (64 : Nat) ≠ r := by omega
      have zr0 : (0 : Int) ≤ (r : Int) := by omega
      have zr1 : (r : Int) ≤ 64 := by omega
      have HCB := Lib.hid hcb
      have HBUF : Hid (buf.length = 64 ∧ (∀ x ∈ buf, x < 256) ∧ buf.take (M.length % 64) = M.drop (64 * (M.length / 64))) := ⟨hbl, hbb, hpre⟩
      have HR := Lib.hid hr
      have HD := Lib.hid hd
      have HD2 := Lib.hid hd2
      have HN1 : Hid (n1 = n0 + d ∧ n0 = M.length ∧ M.length = m.length + j) := ⟨hn1, hn0, hMl⟩
      have HXS : Hid (xs = (l.drop j).take d ∧ xs.length = d) := ⟨hxs, hxl⟩
      have HSS : Hid (wr.cell? ⟨g, 69, none⟩ = some (.int .u64 ((n0 : Nat) : Int))) := hcc
      clear hbl hbb hpre hcb hcc hr hd hd2 hn1 hn0 hMl hxs hxl HS hj
      go_upto_region 2 with fail
      refine wp_region_tail (fun W => W.cell? ⟨g, 69, none⟩ = some (.int .u64 ((n0 : Nat) : Int))) 11 (by kernel_rfl) ?_
      refine wpAnyT_take (i := 0) (v := ?_) rfl (by kernel_rfl) (by kernel_rfl) (by kernel_rfl) (by kernel_rfl) rfl (by kernel_rfl) (fun _ _ _ h => h) (Or.inl ⟨by rfl, ?_⟩) HSS.out ?_
      case refine_2 => (rintro W hc; go_simp; try (with_reducible rfl))
      refine wpAnyT_take (i := 1) (v := ?_) rfl (by kernel_rfl) (by kernel_rfl) (by kernel_rfl) (by kernel_rfl) rfl (by kernel_rfl) (fun _ _ _ h => h) (Or.inl ⟨by rfl, ?_⟩) HSS.out ?_
      case refine_2 => (rintro W hc; go_simp; try (with_reducible rfl))
      refine wpAnyT_take (i := 2) (v := ?_) rfl (by kernel_rfl) (by kernel_rfl) (by kernel_rfl) (by kernel_rfl) rfl (by kernel_rfl) (fun _ _ _ h => h) (Or.inl ⟨by rfl, ?_⟩) HSS.out ?_
      case refine_2 => (rintro W hc; go_simp; try (with_reducible rfl))
      refine wpAnyT_take (i := 3) (v := ?_) rfl (by kernel_rfl) (by kernel_rfl) (by kernel_rfl) (by kernel_rfl) rfl (by kernel_rfl) (fun _ _ _ h => h) (Or.inl ⟨by rfl, ?_⟩) HSS.out ?_
      case refine_2 => (rintro W hc; go_simp; try (with_reducible rfl))
      refine wpAnyT_take (i := 4) (v := ?_) rfl (by kernel_rfl) (by kernel_rfl) (by kernel_rfl) (by kernel_rfl) rfl (by kernel_rfl) (fun _ _ _ h => h) (Or.inl ⟨by rfl, ?_⟩) HSS.out ?_
      case refine_2 => (rintro W hc; go_simp; try (with_reducible rfl))
      refine wpAnyT_take (i := 5) (v := ?_) rfl (by kernel_rfl) (by kernel_rfl) (by kernel_rfl) (by kernel_rfl) rfl (by kernel_rfl) (fun _ _ _ h => h) (Or.inl ⟨by rfl, ?_⟩) HSS.out ?_
      case refine_2 => (rintro W hc; go_simp; try (with_reducible rfl))
      refine wpAnyT_take (i := 6) (v := ?_) rfl (by kernel_rfl) (by kernel_rfl) (by kernel_rfl) (by kernel_rfl) rfl (by kernel_rfl) (fun _ _ _ h => h) (Or.inl ⟨by rfl, ?_⟩) HSS.out ?_
      case refine_2 => (rintro W hc; go_simp; try (with_reducible rfl))
      refine wpAnyT_take (i := 7) (v := ?_) rfl (by kernel_rfl) (by kernel_rfl) (by kernel_rfl) (by kernel_rfl) rfl (by kernel_rfl) (fun _ _ _ h => h) (Or.inl ⟨by rfl, ?_⟩) HSS.out ?_
      case refine_2 => (rintro W hc; go_simp; try (with_reducible rfl))
      refine wpAnyT_take (i := 8) (v := ?_) rfl (by kernel_rfl) (by kernel_rfl) (by kernel_rfl) (by kernel_rfl) rfl (by kernel_rfl) (fun _ _ _ h => h) (Or.inl ⟨by rfl, ?_⟩) HSS.out ?_
      case refine_2 => (rintro W hc; go_simp; try (with_reducible rfl))
      refine wpAnyT_take (i := 9) (v := ?_) rfl (by kernel_rfl) (by kernel_rfl) (by kernel_rfl) (by kernel_rfl) rfl (by kernel_rfl) (fun _ _ _ h => h) (Or.inl ⟨by rfl, ?_⟩) HSS.out ?_
      case refine_2 => (rintro W hc; go_simp; try (with_reducible rfl))
      refine wpAnyT_op (i := 10) (by kernel_rfl) rfl (by rfl) (fun K hK => ?_)
      refine wp_copy (.tmp 18) (.tmp 19) 40 40 rfl 5 Tryz.underlying40 info8s g (5 + r) (64 - r) (64 - r) ⟨bb, off + j, none⟩ k c (by go_simp) (by go_simp) (show CB wr.drew _ _ _ from HCB.out) (u8s xs) (by rw [u8s_len, HXS.out.2, HD.out]) (fun i v hv => ?_) (by rw [u8s_len, HXS.out.2, hcells_len _ _ _ HBUF.out.1]; have := HD2.out.2.1; omega) (u8s_one _) fun w4 C4 hch hsz => hK _ _ (fun _ => ?_) ?_
      · have : (⟨bb, off + j, none⟩ : Addr).add i = ⟨bb, off + j + i, none⟩ := by unfold Addr.add; split <;> simp_all
        rw [this]; exact HXC.out i v hv
      · rw [C4.cell, hcells_splice _ _ _ _ _ (by rw [HXS.out.2, HBUF.out.1]; have := HD2.out.2.1; omega), hcells_n _ _ _ (by rw [splice_len _ _ _ (by rw [HXS.out.2, HBUF.out.1]; have := HD2.out.2.1; omega)]; exact HBUF.out.1)]
      clear hK K
      refine wpAnyT_last (i := 11) (by kernel_rfl) rfl (by rfl) (by kernel_rfl) (by kernel_rfl) (fun K hK => ?_)
      rw [show goInt (((u8s xs).length : Nat) : Int) = .int .i64 ((d : Nat) : Int) by rw [u8s_len, HXS.out.2]; rfl]
      go_simp
      refine hK _ _ ?_
      clear hK K HSS
      obtain ⟨buf2, hbuf2⟩ : ∃ buf2, buf2 = splice buf r xs := ⟨_, rfl⟩
      have hfit : r + xs.length ≤ buf.length := by rw [HXS.out.2, HBUF.out.1]; have := HD2.out.2.1; omega
      have hb2l : buf2.length = 64 := by rw [hbuf2, splice_len _ _ _ hfit]; exact HBUF.out.1
      have hb2b : ∀ x ∈ buf2, x < 256 := by rw [hbuf2]; exact splice_byte _ HBUF.out.2.1 HXB.out
      rw [hcells_splice _ _ _ _ _ hfit, ← hbuf2] at C4
      have hW4 : Chg (WS g w.heap.size) w w4 := HW.out.step ⟨hch.os, hch.tape, hch.output, hch.size, hch.block⟩ (fun i hi _ => .inl hi)
      have C5 := C4.set 69 (.int .u64 ((n1 : Nat) : Int))
      rw [hcells_setn _ _ _ _ hb2l] at C5
      have HW5 := Lib.hid (hW4.setCell (p := ⟨g, 69, none⟩) (.inl rfl) (.int .u64 ((n1 : Nat) : Int)))
      have kn : w4.cell? ⟨g, 69, none⟩ = some (.int .u64 ((n0 : Nat) : Int)) := by rw [C4.cell, hcells_n _ _ _ hb2l]
      have fn := C4.free 69
      have HC5 := Lib.hid C5
      have HB2 : Hid (buf2 = splice buf r xs ∧ buf2.length = 64 ∧ ∀ x ∈ buf2, x < 256) := ⟨hbuf2, hb2l, hb2b⟩
      have hnn := HN1.out
      have hdd := HD2.out
      have hjj := HJ.out
      have u1 : IntKind.u64.wrap (d : Int) = (d : Int) := by rw [IntKind.wrap_u64]; omega
      have e1 : (n0 : Int) + (d : Int) = (n1 : Int) := by omega
      have u2 : IntKind.u64.wrap (n1 : Int) = (n1 : Int) := by rw [IntKind.wrap_u64]; omega
      have dk : d ≤ k := hdd.1
      have hMx : Hid (m ++ l.take (j + d) = M ++ xs) := by
        show _ = _
        rw [HMM.out, HXS.out.1, List.append_assoc, List.take_add]
      have hMn : Hid ((M ++ xs).length = n1) := by show _ = _; rw [List.length_append, HXS.out.2]; omega
      obtain ⟨A', hA'⟩ : ∃ A' : Option Addr, (if c = d then some (⟨bb, off + j, none⟩ : Addr) else some ⟨bb, off + j + d, none⟩) = A' := ⟨_, rfl⟩
      have hnext : Hid (0 < k - d → A' = some ⟨bb, off + (j + d), none⟩) := fun h => by
        rw [← hA', if_neg (by omega)]; congr 2; omega
      have HKD : Hid (j + d + (k - d) = len) := by show _ = _; have := HJ.out; omega
      have kdc : k - d ≤ c - d := by omega
      clear hbuf2 hfit hb2l hb2b hch hsz hW4 C4 C5 hnn hjj
      by_cases h0 : n1 % 64 = 0
      · have e2 : (n1 : Int).tmod 64 = 0 := by rw [Int.tmod_eq_emod_of_nonneg (by omega)]; omega
        have hfull : r + d = 64 := by have := HN1.out; have := HR.out; omega
        have HF := Lib.hid (lay_full (M := M) (xs := xs) HBUF.out.1 HBUF.out.2.2 (by rw [HXS.out.2, ← HR.out]; exact hfull))
        clear hdd h0 hfull
        go_upto_region 6 with fail
        have HS6 : Hid ((w4.setCell ⟨g, 69, none⟩ (.int .u64 ((n1 : Nat) : Int))).cell? ⟨g, 0, none⟩ = some (.int .u32 s0.a) ∧ (w4.setCell ⟨g, 69, none⟩ (.int .u64 ((n1 : Nat) : Int))).cell? ⟨g, 1, none⟩ = some (.int .u32 s0.b) ∧ (w4.setCell ⟨g, 69, none⟩ (.int .u64 ((n1 : Nat) : Int))).cell? ⟨g, 2, none⟩ = some (.int .u32 s0.c) ∧ (w4.setCell ⟨g, 69, none⟩ (.int .u64 ((n1 : Nat) : Int))).cell? ⟨g, 3, none⟩ = some (.int .u32 s0.d) ∧ (w4.setCell ⟨g, 69, none⟩ (.int .u64 ((n1 : Nat) : Int))).cell? ⟨g, 4, none⟩ = some (.int .u32 s0.e) ∧ (w4.setCell ⟨g, 69, none⟩ (.int .u64 ((n1 : Nat) : Int))).rangeAt g 5 (u8s buf2)) := ⟨(HC5.out.cell 0).trans (hcells_s _ _ _ 0 (by decide)), (HC5.out.cell 1).trans (hcells_s _ _ _ 1 (by decide)), (HC5.out.cell 2).trans (hcells_s _ _ _ 2 (by decide)), (HC5.out.cell 3).trans (hcells_s _ _ _ 3 (by decide)), (HC5.out.cell 4).trans (hcells_s _ _ _ 4 (by decide)),
          by have := HC5.out.range 5 64; rwa [hcells_buf _ _ _ HB2.out.2.1] at this⟩
        refine wp_region_tail (fun W => (W).cell? ⟨g, 0, none⟩ = some (.int .u32 s0.a) ∧ (W).cell? ⟨g, 1, none⟩ = some (.int .u32 s0.b) ∧ (W).cell? ⟨g, 2, none⟩ = some (.int .u32 s0.c) ∧ (W).cell? ⟨g, 3, none⟩ = some (.int .u32 s0.d) ∧ (W).cell? ⟨g, 4, none⟩ = some (.int .u32 s0.e) ∧ (W).rangeAt g 5 (u8s buf2)) 12 (by kernel_rfl) ?_
        refine wpAnyT_take (i := 0) (v := ?_) rfl (by kernel_rfl) (by kernel_rfl) (by kernel_rfl) (by kernel_rfl) rfl (by kernel_rfl) (fun _ _ _ h => h) (Or.inl ⟨by rfl, ?_⟩) HS6.out ?_
        case refine_2 => (rintro W ⟨c0, c1, c2, c3, c4, -⟩; go_simp; try (with_reducible rfl))
        refine wpAnyT_take (i := 1) (v := ?_) rfl (by kernel_rfl) (by kernel_rfl) (by kernel_rfl) (by kernel_rfl) rfl (by kernel_rfl) (fun _ _ _ h => h) (Or.inl ⟨by rfl, ?_⟩) HS6.out ?_
        case refine_2 => (rintro W ⟨c0, c1, c2, c3, c4, -⟩; go_simp; try (with_reducible rfl))
        refine wpAnyT_take (i := 2) (v := ?_) rfl (by kernel_rfl) (by kernel_rfl) (by kernel_rfl) (by kernel_rfl) rfl (by kernel_rfl) (fun _ _ _ h => h) (Or.inl ⟨by rfl, ?_⟩) HS6.out ?_
        case refine_2 => (rintro W ⟨c0, c1, c2, c3, c4, -⟩; go_simp; try (with_reducible rfl))
        refine wpAnyT_take (i := 3) (v := ?_) rfl (by kernel_rfl) (by kernel_rfl) (by kernel_rfl) (by kernel_rfl) rfl (by kernel_rfl) (fun _ _ _ h => h) (Or.inl ⟨by rfl, ?_⟩) HS6.out ?_
        case refine_2 => (rintro W ⟨c0, c1, c2, c3, c4, -⟩; go_simp; try (with_reducible rfl))
        refine wpAnyT_take (i := 4) (v := ?_) rfl (by kernel_rfl) (by kernel_rfl) (by kernel_rfl) (by kernel_rfl) rfl (by kernel_rfl) (fun _ _ _ h => h) (Or.inl ⟨by rfl, ?_⟩) HS6.out ?_
        case refine_2 => (rintro W ⟨c0, c1, c2, c3, c4, -⟩; go_simp; try (with_reducible rfl))
        refine wpAnyT_take (i := 5) (v := ?_) rfl (by kernel_rfl) (by kernel_rfl) (by kernel_rfl) (by kernel_rfl) rfl (by kernel_rfl) (fun _ _ _ h => h) (Or.inl ⟨by rfl, ?_⟩) HS6.out ?_
        case refine_2 => (rintro W ⟨c0, c1, c2, c3, c4, -⟩; go_simp; try (with_reducible rfl))
        refine wpAnyT_take (i := 6) (v := ?_) rfl (by kernel_rfl) (by kernel_rfl) (by kernel_rfl) (by kernel_rfl) rfl (by kernel_rfl) (fun _ _ _ h => h) (Or.inl ⟨by rfl, ?_⟩) HS6.out ?_
        case refine_2 => (rintro W ⟨c0, c1, c2, c3, c4, -⟩; go_simp; try (with_reducible rfl))
        refine wpAnyT_take (i := 7) (v := ?_) rfl (by kernel_rfl) (by kernel_rfl) (by kernel_rfl) (by kernel_rfl) rfl (by kernel_rfl) (fun _ _ _ h => h) (Or.inl ⟨by rfl, ?_⟩) HS6.out ?_
        case refine_2 => (rintro W ⟨c0, c1, c2, c3, c4, -⟩; go_simp; try (with_reducible rfl))
        refine wpAnyT_take (i := 8) (v := .agg (u8s buf2).toArray) rfl (by kernel_rfl) (by kernel_rfl) (by kernel_rfl) (by kernel_rfl) rfl (by kernel_rfl) (fun _ _ _ h => h) (yieldsIf_load_mid (by rfl) 175 (.tmp 46) rfl g 5 (by go_simp) (u8s buf2) _ (fun W hW => hW.2.2.2.2.2) Tryz.underlying175 rfl (by rw [(zero_of_info infoB64).2, u8s_len, HB2.out.2.1])) HS6.out ?_
        refine wpAnyT_op (i := 9) (by kernel_rfl) rfl (by rfl) (fun K hK => ?_)
        go_simp
        go_at_call 166
        refine (behind_any s0 buf2 _ HB2.out.2.1 HB2.out.2.2).mono ?_
        rintro e w6 ⟨rfl, hb6⟩
        go_simp
        have C6 : CB w6 177 g (hcells s0 buf2 n1) := CB.below (w := (w4.setCell ⟨g, 69, none⟩ (.int .u64 ((n1 : Nat) : Int))).drew) HC5.out hb6
        have HW6 : Chg (WS g w.heap.size) w w6 := HW5.out.step (b := w4.setCell ⟨g, 69, none⟩ (.int .u64 ((n1 : Nat) : Int))) (T := fun k => (w4.setCell ⟨g, 69, none⟩ (.int .u64 ((n1 : Nat) : Int))).heap.size ≤ k) ⟨hb6.os, hb6.tape, hb6.output, (Chg.of_below hb6).size, (Chg.of_below hb6).block⟩ (fun i hi h => by have := HW5.out.size; omega)
        have HS7 : Hid (w6.cell? ⟨g, 0, none⟩ = some (.int .u32 s0.a) ∧ w6.cell? ⟨g, 1, none⟩ = some (.int .u32 s0.b) ∧ w6.cell? ⟨g, 2, none⟩ = some (.int .u32 s0.c) ∧ w6.cell? ⟨g, 3, none⟩ = some (.int .u32 s0.d) ∧ w6.cell? ⟨g, 4, none⟩ = some (.int .u32 s0.e) ∧ w6.rangeAt g 5 (u8s buf2)) := ⟨(C6.cell 0).trans (hcells_s _ _ _ 0 (by decide)), (C6.cell 1).trans (hcells_s _ _ _ 1 (by decide)), (C6.cell 2).trans (hcells_s _ _ _ 2 (by decide)), (C6.cell 3).trans (hcells_s _ _ _ 3 (by decide)), (C6.cell 4).trans (hcells_s _ _ _ 4 (by decide)), by have := C6.range 5 64; rwa [hcells_buf _ _ _ HB2.out.2.1] at this⟩
        refine hK _ _ (fun _ => HS7.out) ?_
        clear hK K hb6 HS6
        refine wpAnyT_op (i := 10) (by kernel_rfl) rfl (by rfl) (fun K hK => ?_)
        go_simp
        refine hK _ _ (fun _ => HS7.out) ?_
        clear hK K
        refine wpAnyT_op (i := 11) (by kernel_rfl) rfl (by rfl) (fun K hK => ?_)
        go_simp
        refine hK _ _ (fun _ => HS7.out) ?_
        clear hK K
        clear HS7
        refine wpAnyT_last (i := 12) (by kernel_rfl) rfl (by rfl) (by kernel_rfl) (by kernel_rfl) (fun K hK => ?_)
        refine wp_storec 174 (.tmp 50) (.tmp 48) rfl g 0 5 rfl (block5 s0 buf2).cells rfl rfl C6 (zero_of_info infoF5).2 (by rw [hcells_len _ _ _ HB2.out.2.1]; decide) (cells_one _) fun w7 C7 hch hsz => hK _ _ ?_
        clear hK K
        rw [hcells_sets] at C7
        have HW7 := Lib.hid (HW6.step (⟨hch.os, hch.tape, hch.output, hch.size, hch.block⟩ : Chg (fun k => k = g) w6 w7) (fun i hi _ => .inl hi))
        have HC7 := Lib.hid C7
        clear hch hsz C7 C6 HW6
        go_wp2
        go_roundw
        case rel =>
          refine ⟨j + d, k - d, c - d, A', ⟨rfl, rfl, rfl⟩, HKD.out, kdc, hnext.out, ?_⟩
          show HSt w7 g (m ++ l.take (j + d))
          rw [hMx.out]
          refine ⟨buf2, HB2.out.2.1, HB2.out.2.2, ?_, ?_⟩
          · rw [HF.out.2.1, hMn.out, ← HS0.out]
            have e := HB2.out.1
            rw [HR.out] at e
            rw [← e]; exact HC7.out
          · rw [HF.out.1, HF.out.2.2, List.take_zero]
        case measure => simp [lenOf]; have := HD2.out; omega
      · obtain ⟨r1, hr1⟩ : ∃ r1, r1 = n1 % 64 := ⟨_, rfl⟩
        have e2 : (n1 : Int).tmod 64 = (r1 : Int) := by rw [Int.tmod_eq_emod_of_nonneg (by omega)]; omega
        have e3 : ((r1 : Int) == 0) = false := by simp; omega
        have hless : r + d < 64 := by have := HN1.out; have := HR.out; omega
        have HF := Lib.hid (lay_more (M := M) (xs := xs) HBUF.out.1 HBUF.out.2.2 (by rw [HXS.out.2, ← HR.out]; exact hless))
        clear hdd h0 hr1 hless
        go_wp2
        go_roundw
        case rel =>
          refine ⟨j + d, k - d, c - d, _, rfl, HKD.out, kdc, hnext.out, ?_, HW5.out⟩
          show HSt (w4.setCell ⟨g, 69, none⟩ (.int .u64 ((n1 : Nat) : Int))) g (m ++ l.take (j + d))
          rw [hMx.out]
          refine ⟨buf2, HB2.out.2.1, HB2.out.2.2, ?_, ?_⟩
          · rw [HF.out.2, hMn.out, ← HS0.out]; exact HC5.out
          · have e := HB2.out.1
            rw [HR.out] at e
            rw [e]; exact HF.out.1
        case measure => simp [lenOf]; have := HD2.out; omega
    · obtain rfl : k = 0 := by omega
      go_wp2
      refine bodyPost_end (results_none rfl _ _ _) rfl ⟨rfl, ?_, HW.out⟩
      have e : l.take j = l := List.take_of_length_le (by have := HJ.out; omega)
      have h := HS.out
      rw [e] at h
      exact h

theorem WS.mono {g B k : Nat} (h : WS g B k) : k = g ∨ B ≤ k := h
set_option maxHeartbeats 800000 in
set_option maxRecDepth 100000 in
theorem write_any (g : Nat) (m : List Nat) (a : Option Addr) (len cap : Nat) (l : List Nat) (w : World) (hS : HSt w g m) (hl : l.length = len) (hbig : m.length + len ≤ 1099511627776) (hcap : len ≤ cap)
    (hb : ∀ x ∈ l, x < 256) (hr : Rd .u8 w a l) (hne : 0 < len → ∀ p, a = some p → p.block ≠ g) :
    Calls Tryz.prog 120 #[.pointer (some ⟨g, 0, none⟩), .slice a len cap] w fun e w' => e = .returned (.tuple #[]) ∧ HSt w' g (m ++ l) ∧ Chg (WS g w.heap.size) w w' := by
  by_cases h0 : 0 < len
  · obtain ⟨bb, off, rfl, hc⟩ := hr.get (by omega)
    have hbw : bb < w.heap.size := World.block_lt_of_cell? w ⟨bb, off + 0, none⟩ (hc 0 (by omega))
    exact write_pos g m bb off len cap l w hS hl h0 hbig hcap hb (fun i hi => hc i (by omega)) (hne h0 _ rfl) hbw
  · obtain rfl : len = 0 := by omega
    obtain rfl := List.eq_nil_of_length_eq_zero hl
    have HS := Lib.hid hS
    clear hS hr
    go_enter Tryz.func120, Tryz.ntmps120
    go_wp2
    go_loopw [1] (fun v wr => v = .slice a 0 cap ∧ wr = w) (fun _ _ => 0)
    case atStart => exact ⟨rfl, rfl⟩
    case round =>
      obtain ⟨rfl, rfl⟩ := hrel
      go_wp2
      exact bodyPost_end (results_none rfl _ _ _) rfl ⟨rfl, by rw [List.append_nil]; exact HS.out, Chg.refl _ _⟩

theorem bcells_one (s : S5) : ∀ v ∈ bcells s, v.oneCell' = true := by
  intro v hv; obtain ⟨x, _, rfl⟩ := List.mem_map.1 hv; rfl
theorem Chg.of_ws {g B : Nat} {w w' : World} (h : Chg (WS g w.heap.size) w w') (hB : B ≤ w.heap.size) (hg : B ≤ g) : Below B w w' :=
  h.below hB (fun k hk => by rcases hk with rfl | h; exact hg; omega)

set_option maxHeartbeats 1600000 in
set_option maxRecDepth 100000 in
theorem hsum_any (g : Nat) (m : List Nat) (w : World) (hS : HSt w g m) (hbig : m.length ≤ 549755813888) :
    Calls Tryz.prog 121 #[.pointer (some ⟨g, 0, none⟩)] w fun e w' => e = .returned (.agg (shaC m).toArray) ∧ Below w.heap.size w w' := by
  have hz := (zero_of_info info20).1
  have hzH := (zero_of_info infoH).1
  have hpl := padN_lt m.length
  have hgl := hS.lt
  have HS := Lib.hid hS
  clear hS
  go_enter Tryz.func121, Tryz.ntmps121
  go_upto_region 3 with fail
  have HR := Lib.hid (CB.new w 50 (u8s (z8 20)))
  have HS := Lib.hid (HS.out.below ((Below.refl _ _).alloc (Nat.le_refl _) (.cells (u8s (z8 20)).toArray 50)))
  have HB := Lib.hid ((Below.refl w.heap.size w).alloc (Nat.le_refl _) (.cells (u8s (z8 20)).toArray 50))
  generalize w.alloc (.cells (u8s (z8 20)).toArray 50) = W0 at *
  have hgw : w.heap.size < W0.heap.size := HR.out.lt
  obtain ⟨buf, hbl, hbb, hcb, hpre⟩ := HS.out
  obtain ⟨H, hH⟩ : ∃ H, H = hcells (blocks5 start5 m (m.length / 64)) buf m.length := ⟨_, rfl⟩
  have hHl : H.length = 70 := by rw [hH]; exact hcells_len _ _ _ hbl
  have hHn : H[69]? = some (.int .u64 ((m.length : Nat) : Int)) := by rw [hH]; exact hcells_n _ _ _ hbl
  rw [← hH] at hcb
  have HH := Lib.hid hH
  clear hH
  refine wp_region_lit ?_
  refine wpList_plain rfl fun K1 hK1 => ?_
  go_simp
  refine hK1 _ _ ?_
  clear hK1 K1
  refine wpList_plain rfl fun K1 hK1 => ?_
  go_simp
  refine hK1 _ _ ?_
  clear hK1 K1
  refine wpList_plain rfl fun K1 hK1 => wp_loadc 177 (.tmp 8) rfl g 0 70 rfl hcb _ Tryz.underlying177 rfl (zero_of_info infoH).2 (by rw [hHl]; exact Nat.le_refl _) H (by rw [List.drop_zero]; exact List.take_of_length_le (by rw [hHl]; exact Nat.le_refl _)) (hK1 _ _ ?_)
  clear hK1 K1
  obtain ⟨Z, hZ⟩ : ∃ Z, Z = hcells ⟨0, 0, 0, 0, 0⟩ (z8 64) 0 := ⟨_, rfl⟩
  rw [← hZ] at hzH
  have hZl : Z.length = 70 := by rw [hZ]; rfl
  clear hZ
  refine wpList_plain rfl fun K1 hK1 => ?_
  go_simp
  refine hK1 _ _ ?_
  clear hK1 K1
  have C3 := CB.new W0 177 Z
  have hcb := hcb.alloc (.cells Z.toArray 177)
  have HR := Lib.hid (HR.out.alloc (.cells Z.toArray 177))
  have HB := Lib.hid (HB.out.alloc HB.out.size (.cells Z.toArray 177))
  have hg3 : g < W0.heap.size := HS.out.lt
  have hsz1 : W0.heap.size < (W0.alloc (.cells Z.toArray 177)).heap.size := by simp
  generalize W0.heap.size = g3 at *
  generalize W0.alloc (.cells Z.toArray 177) = W1 at *
  refine wpList_plain rfl fun K1 hK1 => wp_storec 177 (.tmp 3) (.tmp 9) rfl g3 0 70 rfl H rfl hHl C3 (zero_of_info infoH).2 (by rw [hZl]; exact Nat.le_refl _) (by rw [HH.out]; exact hcells_one _ _ _) fun w2 C2 hch hsz => hK1 _ _ ?_
  clear hK1 K1
  rw [splice_all (by rw [hHl, hZl])] at C2
  have S3 : HSt w2 g3 m := ⟨buf, hbl, hbb, by rw [← HH.out]; exact C2, hpre⟩
  have kn : w2.cell? ⟨g, 69, none⟩ = some (.int .u64 ((m.length : Nat) : Int)) := by rw [(hcb.chg hch (by omega)).cell]; exact hHn
  have HR := Lib.hid (HR.out.chg hch (by omega))
  have HB := Lib.hid (HB.out.trans (hch.below HB.out.size (fun k hk => by omega)))
  have hsz2 : g3 < w2.heap.size := C2.lt
  clear hch hsz C3 C2 hcb hHl hHn HH hZl hzH hz hbl hbb hpre HS hsz1
  go_upto_region 5 with (first
    | (go_at_call 167; refine (spad_any m.length _ (by omega)).mono ?_; rintro e w3 ⟨g2, c2, rfl, hown2, hb2⟩
       have S3 := S3.below hb2
       have HR := Lib.hid (HR.out.below hb2)
       have HB := Lib.hid (HB.out.trans (hb2.mono HB.out.size))
       have hg23 : g2 ≠ g3 := by have := (hown2.lt g2 rfl).1; omega
       have hc2 : padN m.length + 9 ≤ c2 := by
         rcases hown2.2 with ⟨h, _⟩ | ⟨g', c', cur, h, _, _, hn, _⟩
         · cases h
         · cases h; exact hn
       have hr2 := own_rdw hown2
       have hsz3 : w2.heap.size ≤ w3.heap.size := (Chg.of_below hb2).size
       clear hown2 hb2 kn)
    | (go_at_call 120; refine (write_any g3 m (some ⟨g2, 0, none⟩) (padN m.length + 9) c2 (padI m.length) _ S3 (padI_len _) (by omega) hc2 (pad_byte _) hr2 (fun _ p hp => by obtain rfl := Option.some.inj hp; exact hg23)).mono ?_; rintro e w4 ⟨rfl, S4, hw4⟩))
  have HR := Lib.hid (HR.out.chg hw4 (fun h => by rcases h with h | h <;> omega))
  have HB := Lib.hid (HB.out.trans (hw4.of_ws (by omega) (by omega)))
  obtain ⟨buf4, hbl4, hbb4, hcb4, hpre4⟩ := S4
  obtain ⟨S, hSS⟩ : ∃ S, S = blocks5 start5 (m ++ padI m.length) ((m ++ padI m.length).length / 64) := ⟨_, rfl⟩
  have HSF : Hid (sha5 m = S) := by show _ = _; rw [hSS]; rfl
  rw [← hSS] at hcb4
  have k0 : w4.cell? ⟨g3, 0, none⟩ = some (.int .u32 S.a) := (hcb4.cell 0).trans (hcells_s _ _ _ 0 (by decide))
  have k1 : w4.cell? ⟨g3, 1, none⟩ = some (.int .u32 S.b) := (hcb4.cell 1).trans (hcells_s _ _ _ 1 (by decide))
  have k2 : w4.cell? ⟨g3, 2, none⟩ = some (.int .u32 S.c) := (hcb4.cell 2).trans (hcells_s _ _ _ 2 (by decide))
  have k3 : w4.cell? ⟨g3, 3, none⟩ = some (.int .u32 S.d) := (hcb4.cell 3).trans (hcells_s _ _ _ 3 (by decide))
  have k4 : w4.cell? ⟨g3, 4, none⟩ = some (.int .u32 S.e) := (hcb4.cell 4).trans (hcells_s _ _ _ 4 (by decide))
  clear hw4 hbl4 hbb4 hcb4 hpre4 hSS S3 hr2
  refine wp_region_lit ?_
  refine wpList_plain rfl fun K1 hK1 => ?_
  go_simp
  refine hK1 _ _ ?_
  clear hK1 K1
  refine wpList_plain rfl fun K1 hK1 => ?_
  go_simp
  refine hK1 _ _ ?_
  clear hK1 K1
  refine wpList_plain rfl fun K1 hK1 => ?_
  go_simp
  go_at_call 168
  refine (fbytes_any S _).mono ?_
  rintro e w5 ⟨rfl, hb5⟩
  go_simp
  refine hK1 _ _ ?_
  clear hK1 K1
  have HR := Lib.hid (HR.out.below hb5)
  have HB := Lib.hid (HB.out.trans (hb5.mono HB.out.size))
  clear hb5 k0 k1 k2 k3 k4
  refine wpList_plain rfl fun K1 hK1 => wp_storec 50 (.tmp 2) (.tmp 18) rfl (w.heap.size) 0 20 rfl (bcells S) rfl (bcells_len S) HR.out (zero_of_info info20).2 (by simp [u8s, z8]) (bcells_one S) fun w6 C6 hch hsz => hK1 _ _ ?_
  clear hK1 K1
  rw [splice_all (by rw [bcells_len]; simp [u8s, z8])] at C6
  have HE := Lib.hid (bcells_len S)
  obtain ⟨G, hG⟩ : ∃ G, G = bcells S := ⟨_, rfl⟩
  rw [← hG] at C6 HE
  have HG := Lib.hid hG
  clear hG
  go_wp2
  refine bodyPost_ret (ret_row rfl rfl C6 _ Tryz.underlying50 rfl (by rw [(zero_of_info info20).2, HE.out])) rfl ⟨by rw [HG.out, shaC, HSF.out], ?_⟩
  exact HB.out.trans (hch.below HB.out.size (fun k hk => by omega))

set_option maxHeartbeats 1600000 in
set_option maxRecDepth 100000 in
theorem ssum_any (a : Option Addr) (len cap : Nat) (l : List Nat) (w : World) (hl : l.length = len) (hbig : len ≤ 549755813888) (hcap : len ≤ cap) (hb : ∀ x ∈ l, x < 256) (hr : Rd .u8 w a l) (hF : Five w) :
    Calls Tryz.prog 73 #[.slice a len cap] w fun e w' => e = .returned (.agg (shaC l).toArray) ∧ Below w.heap.size w w' := by
  have hz := (zero_of_info info20).1
  have HR0 := Lib.hid hr
  have HRX := Lib.hid hr
  have HF := Lib.hid (hF.below ((Below.refl _ _).alloc (Nat.le_refl _) (.cells (u8s (z8 20)).toArray 50)))
  clear hr hF
  go_enter Tryz.func73, Tryz.ntmps73
  go_upto_region 1 with fail
  have HR := Lib.hid (CB.new w 50 (u8s (z8 20)))
  have HRD := Lib.hid (HR0.out.below ((Below.refl _ _).alloc (Nat.le_refl _) (.cells (u8s (z8 20)).toArray 50)))
  have HB := Lib.hid ((Below.refl w.heap.size w).alloc (Nat.le_refl _) (.cells (u8s (z8 20)).toArray 50))
  have hgw : w.heap.size < (w.alloc (.cells (u8s (z8 20)).toArray 50)).heap.size := by simp
  generalize w.alloc (.cells (u8s (z8 20)).toArray 50) = W0 at *
  clear hz HR0
  go_upto_region 3 with (first
    | (go_at_call 119; refine (new_any _ HF.out).mono ?_; rintro e w1 ⟨rfl, S1, hb1⟩
       have HR := Lib.hid (HR.out.below hb1)
       have HRD := Lib.hid (HRD.out.below hb1)
       have HB := Lib.hid (HB.out.trans (hb1.mono HB.out.size))
       have hsz1 : W0.heap.size ≤ w1.heap.size := (Chg.of_below hb1).size
       clear hb1)
    | (go_at_call 120; refine (write_any W0.heap.size [] a len cap l _ S1 hl (by simp; omega) hcap hb HRD.out (fun h0 p hp => by obtain ⟨bb, off, e, hc⟩ := HRX.out.get (by omega); rw [e] at hp; obtain rfl := Option.some.inj hp; have := World.block_lt_of_cell? w ⟨bb, off + 0, none⟩ (hc 0 (by omega)); show bb ≠ _; have h2 : bb < w.heap.size := this; omega)).mono ?_; rintro e w2 ⟨rfl, S2, hw2⟩))
  rw [List.nil_append] at S2
  have HR := Lib.hid (HR.out.chg hw2 (fun h => by rcases h with h | h <;> omega))
  have HB := Lib.hid (HB.out.trans (hw2.of_ws (by omega) (by omega)))
  clear hw2 HRD HF
  refine wp_region_lit ?_
  refine wpList_plain rfl fun K1 hK1 => ?_
  go_simp
  refine hK1 _ _ ?_
  clear hK1 K1
  refine wpList_plain rfl fun K1 hK1 => ?_
  go_simp
  go_at_call 121
  refine (hsum_any _ l _ S2 (by omega)).mono ?_
  rintro e w5 ⟨rfl, hb5⟩
  go_simp
  refine hK1 _ _ ?_
  clear hK1 K1
  have HR := Lib.hid (HR.out.below hb5)
  have HB := Lib.hid (HB.out.trans (hb5.mono HB.out.size))
  obtain ⟨S, hSS⟩ : ∃ S, S = sha5 l := ⟨_, rfl⟩
  have HSF : Hid (sha5 l = S) := hSS.symm
  rw [show shaC l = bcells S by rw [hSS]; rfl]
  clear hb5 hSS S2 S1
  refine wpList_plain rfl fun K1 hK1 => wp_storec 50 (.tmp 2) (.tmp 9) rfl (w.heap.size) 0 20 rfl (bcells S) rfl (bcells_len S) HR.out (zero_of_info info20).2 (by simp [u8s, z8]) (bcells_one S) fun w6 C6 hch hsz => hK1 _ _ ?_
  clear hK1 K1
  rw [splice_all (by rw [bcells_len]; simp [u8s, z8])] at C6
  have HE := Lib.hid (bcells_len S)
  obtain ⟨G, hG⟩ : ∃ G, G = bcells S := ⟨_, rfl⟩
  rw [← hG] at C6 HE
  have HG := Lib.hid hG
  clear hG
  go_wp2
  refine bodyPost_ret (ret_row rfl rfl C6 _ Tryz.underlying50 rfl (by rw [(zero_of_info info20).2, HE.out])) rfl ⟨by rw [HG.out, shaC, HSF.out], ?_⟩
  exact HB.out.trans (hch.below HB.out.size (fun k hk => by omega))
end Go.Proofs.YtaookoejdnkkoaaGreatDoor
