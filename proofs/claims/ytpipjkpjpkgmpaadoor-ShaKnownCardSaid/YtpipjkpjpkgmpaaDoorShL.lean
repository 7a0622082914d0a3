import Derived.Test.YtpipjkpjpkgmpaaDoorShG
import Derived.Test.YtpipjkpjpkgmpaaDoorShI
import Derived.Test.YtpipjkpjpkgmpaaDoorShK
namespace Go.Proofs.YtpipjkpjpkgmpaaDoor
open Go.RowKit

def hcells (s : S5) (buf : List Nat) (n : Nat) : List Value := s.cells ++ (u8s buf ++ [.int .u64 (n : Nat)])
theorem hcells_len (s : S5) (buf : List Nat) (n : Nat) (h : buf.length = 64) : (hcells s buf n).length = 70 := by simp [hcells, S5.cells, u8s, h]
theorem hcells_n (s : S5) (buf : List Nat) (n : Nat) (h : buf.length = 64) : (hcells s buf n)[69]? = some (.int .u64 (n : Nat)) := by
  unfold hcells
  rw [List.getElem?_append_right (by simp [S5.cells]), List.getElem?_append_right (by simp [S5.cells, u8s, h])]
  simp [S5.cells, u8s, h]
theorem hcells_s (s : S5) (buf : List Nat) (n i : Nat) (h : i < 5) : (hcells s buf n)[i]? = some (.int .u32 (s.at i)) := by
  unfold hcells
  rw [List.getElem?_append_left (by simp [S5.cells]; omega), cells_at _ _ h]
theorem hcells_buf (s : S5) (buf : List Nat) (n : Nat) (h : buf.length = 64) : ((hcells s buf n).drop 5).take 64 = u8s buf := by
  unfold hcells
  rw [List.drop_left' (by rfl), List.take_left' (by simp [u8s, h])]
theorem hcells_splice (s : S5) (buf : List Nat) (n o : Nat) (xs : List Nat) (h : o + xs.length ≤ buf.length) : splice (hcells s buf n) (5 + o) (u8s xs) = hcells s (splice buf o xs) n := by
  have hl : s.cells.length = 5 := rfl
  unfold splice hcells
  rw [List.take_append, List.drop_append, hl, List.take_of_length_le (by rw [hl]; omega), List.drop_of_length_le (by rw [hl]; omega), List.nil_append, show 5 + o - 5 = o by omega, u8s_len, show 5 + o + xs.length - 5 = o + xs.length by omega]
  rw [List.take_append_of_le_length (by rw [u8s_len]; omega), List.drop_append_of_le_length (by rw [u8s_len]; omega)]
  simp [u8s, List.map_take, List.map_drop]
theorem hcells_setn (s : S5) (buf : List Nat) (n k : Nat) (h : buf.length = 64) : (hcells s buf n).set 69 (.int .u64 (k : Nat)) = hcells s buf k := by
  have hl : s.cells.length = 5 := rfl
  unfold hcells
  rw [List.set_append_right _ _ (by rw [hl]; decide), hl, List.set_append_right _ _ (by rw [u8s_len, h]; decide), u8s_len, h]
  rfl
theorem hcells_sets (s t : S5) (buf : List Nat) (n : Nat) : splice (hcells s buf n) 0 t.cells = hcells t buf n := by
  unfold splice hcells; rfl

theorem hcells_one (s : S5) (buf : List Nat) (n : Nat) : ∀ v ∈ hcells s buf n, v.oneCell' = true := by
  intro v hv
  unfold hcells at hv
  rcases List.mem_append.1 hv with h | h
  · exact cells_one s v h
  · rcases List.mem_append.1 h with h | h
    · exact u8s_one _ v h
    · obtain rfl := List.mem_singleton.1 h; rfl
theorem infoH : (Tryd.prog.info? 59).map (fun i => (i.zero, i.size)) = some (some (.agg (hcells ⟨0, 0, 0, 0, 0⟩ (z8 64) 0).toArray), 70) := by kernel_rfl
theorem built0 : Tryd.prog.built 59 [(0, .agg start5.cells.toArray)] = some (hcells start5 (z8 64) 0).toArray := by kernel_rfl

/-- What a Hash holds, when m was written. -/
def HSt (w : World) (g : Nat) (m : List Nat) : Prop := ∃ buf, buf.length = 64 ∧ (∀ x ∈ buf, x < 256) ∧ CB w 59 g (hcells (blocks5 start5 m (m.length / 64)) buf m.length) ∧ buf.take (m.length % 64) = m.drop (64 * (m.length / 64))
theorem HSt.chg {w w' : World} {g : Nat} {m : List Nat} {S : Nat → Prop} (h : HSt w g m) (hc : Chg S w w') (hS : ¬ S g) : HSt w' g m := by
  obtain ⟨buf, h1, h2, h3, h4⟩ := h
  exact ⟨buf, h1, h2, h3.chg hc hS, h4⟩
theorem HSt.below {w w' : World} {g : Nat} {m : List Nat} (h : HSt w g m) (hb : Below w.heap.size w w') : HSt w' g m := by
  obtain ⟨buf, h1, h2, h3, h4⟩ := h
  exact ⟨buf, h1, h2, h3.below hb, h4⟩
theorem HSt.lt {w : World} {g : Nat} {m : List Nat} (h : HSt w g m) : g < w.heap.size := by
  obtain ⟨buf, h1, h2, h3, h4⟩ := h
  exact h3.lt
/-- The package's beginning. -/
def Five (w : World) : Prop := ∀ i, i < 5 → w.cell? ⟨0, i, none⟩ = some (.int .u32 (start5.at i))
theorem Five.below {w w' : World} (h : Five w) (hb : Below w.heap.size w w') : Five w' := fun i hi => below_cell hb _ _ (h i hi)

theorem wp_buildc {P : Program} {o : Oper} {a : Act} {w : World} {K : Act → World → Prop} {Q : Exit → Act → World → Prop} (t : TypeId) (parts : Array (Nat × Operand)) (ho : o.op = .build t parts) (cells : Array Value)
    (hc : P.built t (parts.map fun (i, x) => (i, a.eval x)).toList = some cells) (h : K (a.put o.dst (.agg cells)) w) : o.wp P a w K Q := by
  unfold Oper.wp execOp
  simp only [ho, Sem.run_bind, run_build w t _ cells hc, Result.andThen_ok]
  exact h

set_option maxHeartbeats 800000 in
theorem new_any (w : World) (hF : Five w) : Calls Tryd.prog 10 #[] w fun e w' => e = .returned (.pointer (some ⟨w.heap.size, 0, none⟩)) ∧ HSt w' w.heap.size [] ∧ Below w.heap.size w w' := by
  have f0 : w.cell? ⟨0, 0, none⟩ = some (.int .u32 1732584193) := hF 0 (by decide)
  have f1 : w.cell? ⟨0, 1, none⟩ = some (.int .u32 4023233417) := hF 1 (by decide)
  have f2 : w.cell? ⟨0, 2, none⟩ = some (.int .u32 2562383102) := hF 2 (by decide)
  have f3 : w.cell? ⟨0, 3, none⟩ = some (.int .u32 271733878) := hF 3 (by decide)
  have f4 : w.cell? ⟨0, 4, none⟩ = some (.int .u32 3285377520) := hF 4 (by decide)
  go_enter Tryd.func10, Tryd.ntmps10
  go_upto_region 1 with fail
  refine wp_region_lit ?_
  refine wpList_plain rfl fun K1 hK1 => ?_
  go_simp
  refine hK1 _ _ ?_
  clear hK1 K1
  refine wpList_plain rfl fun K1 hK1 => wp_buildc 59 #[(0, .tmp 1)] rfl (hcells start5 (z8 64) 0).toArray (by simp only [List.map_toArray, List.map_cons, List.map_nil]; exact built0) (hK1 _ _ ?_)
  clear hK1 K1
  generalize hH : hcells start5 (z8 64) 0 = H
  go_wp2
  go_ret
  subst hH
  exact ⟨rfl, ⟨z8 64, z8_len _, fun x hx => by rw [List.eq_of_mem_replicate hx]; decide, CB.new _ _ _, rfl⟩, (Below.refl _ _).alloc (Nat.le_refl _) _⟩
end Go.Proofs.YtpipjkpjpkgmpaaDoor
