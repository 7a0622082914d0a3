import Derived.Test.YteanpdiceaijhaaDoorRefA
namespace Go.Proofs.YteanpdiceaijhaaDoor
open Go.RowKit

theorem own64.set {w : World} {B g n c : Nat} {zs : List Nat} (h : own64 w B (.slice (some ⟨g, 0, none⟩) n c) zs) (j x : Nat) : own64 (w.setCell ⟨g, j, none⟩ (.int .u64 (x : Nat))) B (.slice (some ⟨g, 0, none⟩) n c) (zs.set j x) := by
  have hn : n = zs.length := (own64.rd h).1
  subst hn
  unfold own64 at h ⊢
  rw [← u64s_set, List.length_set]
  exact (World.ownsRow.stored h j _).1
theorem own64.cell {w : World} {B g n c : Nat} {zs : List Nat} (h : own64 w B (.slice (some ⟨g, 0, none⟩) n c) zs) {j : Nat} (hj : j < zs.length) : w.cell? ⟨g, j, none⟩ = some (.int .u64 (at0 zs j : Nat)) := by
  have hn : n = zs.length := (own64.rd h).1
  subst hn
  rw [World.ownsRow.cellAt h j (by omega), u64s_get _ _ hj]
theorem own64.free {w : World} {B g n c : Nat} {zs : List Nat} (h : own64 w B (.slice (some ⟨g, 0, none⟩) n c) zs) (j : Nat) : w.frozen? ⟨g, j, none⟩ = false := by
  have hn : n = zs.length := (own64.rd h).1
  subst hn
  exact World.ownsRow.frozenAt h j
theorem own64.isAt {w : World} {B : Nat} {v : Value} {zs : List Nat} (h : own64 w B v zs) (h0 : 0 < zs.length) : ∃ g c, v = .slice (some ⟨g, 0, none⟩) zs.length c ∧ B ≤ g ∧ g < w.heap.size := owns_some h h0
theorem take_set_snoc {ws : List Nat} {k x : Nat} (h : k < ws.length) : (ws.set k x).take (k + 1) = ws.take k ++ [x] := by
  rw [List.take_add_one, List.take_set_of_le (Nat.le_refl k)]
  simp [h]
theorem drop_set_succ {ws : List Nat} {k x : Nat} : (ws.set k x).drop (k + 1) = ws.drop (k + 1) := by
  rw [List.drop_set_of_lt (by omega)]
theorem Hd.set {ws : List Nat} {k x : Nat} (h : Hd ws) (hx : x < 4294967296) : Hd (ws.set k x) := fun y hy => by
  rcases List.mem_or_eq_of_mem_set hy with hy | rfl
  · exact h y hy
  · exact hx
theorem drop_eq_tail {ws hs : List Nat} {k : Nat} (h : ws.drop k = hs.drop k) : ws.drop (k + 1) = hs.drop (k + 1) := by
  rw [← List.drop_drop, h, List.drop_drop]
theorem drop_eq_at0 {ws hs : List Nat} {k : Nat} (h : ws.drop k = hs.drop k) : at0 ws k = at0 hs k := by
  have h1 := at0_drop (xs := ws) (i := 0) (n := k)
  have h2 := at0_drop (xs := hs) (i := 0) (n := k)
  rw [Nat.add_zero] at h1 h2
  rw [← h1, ← h2, h]
theorem ten_step {ws hs : List Nat} {k x cy c0 : Nat} (hk : k < ws.length) (hv : v32 (ws.take k) + 4294967296 ^ k * cy = 10 * v32 (hs.take k) + c0) (hx : v32 (hs.take (k + 1)) = v32 (hs.take k) + 4294967296 ^ k * x) :
    v32 ((ws.set k ((x * 10 + cy) % 4294967296)).take (k + 1)) + 4294967296 ^ (k + 1) * ((x * 10 + cy) / 4294967296) = 10 * v32 (hs.take (k + 1)) + c0 := by
  rw [take_set_snoc hk, v32_snoc, List.length_take, Nat.min_eq_left (by omega), hx, Nat.pow_succ]
  generalize 4294967296 ^ k = p at *
  have e : p * ((x * 10 + cy) % 4294967296) + p * 4294967296 * ((x * 10 + cy) / 4294967296) = p * (x * 10 + cy) := by rw [Nat.mul_assoc, ← Nat.mul_add, Nat.mod_add_div]
  rw [Nat.mul_add, ← Nat.mul_assoc] at e
  omega

/-- What the document's Parse answers. -/
def RParsePost (l : List UInt8) (w : World) (e : Ending) (w' : World) : Prop :=
  Below w.heap.size w w' ∧
  ((65536 < l.length ∧ e = .returned (.tuple #[.slice none 0 0, .int .i64 3])) ∨
   (l.length ≤ 65536 ∧ decB l = false ∧ e = .returned (.tuple #[.slice none 0 0, .int .i64 12])) ∨
   (l.length ≤ 65536 ∧ decB l = true ∧ 18446744073709551616 ^ 128 ≤ dval l ∧ e = .returned (.tuple #[.slice none 0 0, .int .i64 3])) ∨
   (l.length ≤ 65536 ∧ decB l = true ∧ dval l < 18446744073709551616 ^ 128 ∧ ∃ v zs, e = .returned (.tuple #[v, .int .i64 0]) ∧ own64 w' w.heap.size v zs ∧ Num zs (dval l)))
theorem cn32_ge {hs : List Nat} (hc : Cn hs) (hp : 0 < hs.length) : 4294967296 ^ (hs.length - 1) ≤ v32 hs := by
  have h3 := v32_at hs (hs.length - 1) (by omega)
  have hcn := hc hp
  have h4 : 4294967296 ^ (hs.length - 1) * 1 ≤ 4294967296 ^ (hs.length - 1) * (at0 hs (hs.length - 1) + 4294967296 * v32 (hs.drop (hs.length - 1 + 1))) := Nat.mul_le_mul_left _ (by omega)
  omega
theorem cn32_of_ge {ws : List Nat} (hh : Hd ws) (h : 0 < ws.length → 4294967296 ^ (ws.length - 1) ≤ v32 ws) : Cn ws := by
  intro hp e
  have h1 := v32_take_drop ws (ws.length - 1) (by omega)
  have h2 : ws.drop (ws.length - 1) = [0] := by
    rw [List.drop_eq_getElem_cons (by omega), List.drop_of_length_le (by omega), ← at0_getElem (by omega), e]
  have h3 := v32_lt (hh.take (ws.length - 1))
  rw [List.length_take, Nat.min_eq_left (by omega)] at h3
  have h4 := h hp
  rw [h2] at h1
  simp only [v32] at h1
  omega
theorem dval_mono (l : List UInt8) (k : Nat) : dval (l.take k) ≤ dval l := by
  have h := dval_append (l.take k) (l.drop k)
  rw [List.take_append_drop] at h
  have h2 : dval (l.take k) * 1 ≤ dval (l.take k) * 10 ^ (l.drop k).length := Nat.mul_le_mul_left _ (Nat.pow_pos (by decide))
  omega
theorem decB_true {l : List UInt8} (h0 : 0 < l.length) (hd : ∀ c ∈ l, isDig c = true) : decB l = true := by
  have : l.all isDig = true := List.all_eq_true.2 hd
  simp [decB, this, h0]
theorem pow_128 : (4294967296 : Nat) ^ 256 = 18446744073709551616 ^ 128 := by decide +kernel

end Go.Proofs.YteanpdiceaijhaaDoor
