import Derived.Test.YtpipjkpjpkgmpaaDoorShC
import Derived.Test.YtpipjkpjpkgmpaaDoorShT
import Derived.BigRegion
namespace Go.Proofs.YtpipjkpjpkgmpaaDoor
open Go.RowKit

section laws
variable {P : Program}
/-- 'copy' into a block that is known whole. -/
theorem wp_copy {op : Oper} {a : Act} {w : World} {K : Act → World → Prop} {Q : Exit → Act → World → Prop} (d s : Operand) (dT sT : TypeId)
    (ho : op.op = .call { callee := .builtin .copy, args := #[d, s], argTypes := #[dT, sT] }) (elem : TypeId) (hu : P.underlying dT = some (.slice elem)) (hsz : (P.info? elem).map (·.size) = some 1)
    (g off dLen dCap : Nat) (ad : Addr) (sLen sCap : Nat) (hd : a.eval d = .slice (some ⟨g, off, none⟩) dLen dCap) (hs : a.eval s = .slice (some ad) sLen sCap)
    {t : TypeId} {cur : List Value} (hg : CB w t g cur) (cs : List Value) (hn : cs.length = Nat.min sLen dLen)
    (hsrc : ∀ j v, cs[j]? = some v → w.cell? (ad.add j) = some v) (hfit : off + cs.length ≤ cur.length) (h1 : ∀ v ∈ cs, v.oneCell' = true)
    (h : ∀ w', CB w' t g (splice cur off cs) → Chg (fun k => k = g) w w' → w'.heap.size = w.heap.size → K (a.put op.dst (goInt cs.length)) w') : op.wp P a w K Q := by
  have hrun := run_copy_row (P := P) w dT sT op.type elem g off dLen dCap ad sLen sCap cur.toArray t cs hu hsz hg hn hsrc (by simpa using hfit) h1
  have hk := h (w.setRow g (splice cur off cs).toArray) (setRow_heap w g _ _ t (0, 0) hg) ⟨rfl, rfl, rfl, by simp, fun k _ hk => setRow_other w g k _ hk⟩ (by simp)
  unfold Oper.wp
  simp [execOp, ho, resolve, invoke, builtin, hd, hs, hrun, Result.andThen]
  exact hk
end laws

theorem or_join (a b k : Nat) (hk : k ≤ 32) (ha : a * 2 ^ k < 4294967296) (hb : b < 2 ^ k) : bits .or .u32 ((a * 2 ^ k : Nat) : Int) (b : Nat) = ((a * 2 ^ k + b : Nat) : Int) := by
  have h2 : (2 : Nat) ^ k ≤ 2 ^ 32 := Nat.pow_le_pow_right (by decide) hk
  rw [u32_or_nat _ _ ha (by omega), nat_join k _ _ (Nat.mul_mod_left _ _) hb]
theorem wrap_i64_nat (n : Nat) (h : n < 9223372036854775808) : IntKind.i64.wrap (n : Int) = (n : Int) := by
  simp [IntKind.wrap, IntKind.bits, IntKind.signed]; omega
theorem Chg.drawN {S : Nat → Prop} (w : World) (n : Nat) : Chg S w (w.drewN n) := ⟨rfl, rfl, rfl, Nat.le_refl _, fun _ _ _ => rfl⟩
def pw (b : List Nat) (i : Nat) : Nat → Nat
  | 0 => 0
  | m + 1 => pw b i m * 256 + b.getD (4 * i + m) 0
theorem pw_four (b : List Nat) (i : Nat) : wordI b i = (pw b i 4 : Nat) := by simp [wordI, pw]
theorem pw_lt (b : List Nat) (i : Nat) (hb : ∀ i, b.getD i 0 < 256) : ∀ m, pw b i m < 256 ^ m
  | 0 => by simp [pw]
  | m + 1 => by
    have h := pw_lt b i hb m
    have h2 := hb (4 * i + m)
    rw [pw, Nat.pow_succ]
    omega
def st16 (b : List Nat) (k : Nat) : List Int := (List.range 16).map fun i => ((pw b i (min 4 (k - 4 * i)) : Nat) : Int)
theorem st16_len (b : List Nat) (k : Nat) : (st16 b k).length = 16 := by simp [st16]
theorem st16_zero (b : List Nat) : st16 b 0 = z32 16 := by simp [st16, pw, z32, List.map_const']
theorem st16_all (b : List Nat) : st16 b 64 = words16 b := by
  unfold st16 words16
  apply List.map_congr_left
  intro i hi
  have := List.mem_range.1 hi
  rw [pw_four, show min 4 (64 - 4 * i) = 4 by omega]
theorem st16_at (b : List Nat) (k i : Nat) (h : i < 16) : (st16 b k).getD i 0 = ((pw b i (min 4 (k - 4 * i)) : Nat) : Int) := by
  simp [st16, List.getD, h]
theorem st16_next (b : List Nat) (k : Nat) (h : k < 64) : (st16 b k).set (k / 4) ((pw b (k / 4) (k % 4) * 256 + b.getD k 0 : Nat) : Int) = st16 b (k + 1) := by
  apply List.ext_getElem (by simp [st16])
  intro i h1 h2
  simp only [st16, List.length_map, List.length_range] at h2
  rw [List.getElem_set]
  simp only [st16, List.getElem_map, List.getElem_range]
  by_cases e : k / 4 = i
  · rw [if_pos e, ← e, show min 4 (k + 1 - 4 * (k / 4)) = k % 4 + 1 by omega, pw, show 4 * (k / 4) + k % 4 = k by omega]
  · rw [if_neg e]
    congr 2
    omega
theorem getD_lt {b : List Nat} (hb : ∀ x ∈ b, x < 256) (i : Nat) : b.getD i 0 < 256 := by
  by_cases hi : i < b.length
  · rw [List.getD_eq_getElem?_getD, List.getElem?_eq_getElem hi]; exact hb _ (List.getElem_mem hi)
  · rw [List.getD_eq_getElem?_getD, List.getElem?_eq_none (by omega)]; decide

end Go.Proofs.YtpipjkpjpkgmpaaDoor
