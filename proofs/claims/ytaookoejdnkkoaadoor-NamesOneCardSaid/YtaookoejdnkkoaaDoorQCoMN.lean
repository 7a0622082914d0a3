import Derived.Test.YtaookoejdnkkoaaDoorQ14
namespace Go.Proofs.YtaookoejdnkkoaaDoor
open Go.RowKit

theorem b64Lit_bs (d : Nat) (h : d < 64) : at0 (bsN b64Lit) d = b64D d := by
  rw [bsN_at b64Lit d h]
  exact b64Lit_at d h
theorem strN_ne {a : List Nat} {s : ByteArray} (h : B8 a) (hne : a ≠ bsN s) : ((strN a).toList == s.toList) = false := by
  rw [beq_eq_false_iff_ne]
  intro e
  refine hne ?_
  rw [← bsN_strN h]
  show (strN a).data.toList.map _ = s.data.toList.map _
  rw [← ByteArray.toList_eq, ← ByteArray.toList_eq, e]
theorem strN_eq {a : List Nat} {s : ByteArray} (he : a = bsN s) : strN a = s := by rw [he, strN_bsN]
theorem b64L_8 {b : List Nat} (h : B8 b) : B8 (b64L b) := fun x hx => by
  rw [b64L_enc] at hx
  rcases List.mem_append.1 hx with h1 | h1
  · obtain ⟨y, hy, rfl⟩ := List.mem_map.1 h1
    have := (b64D_lt (encW_64 b h y hy)).1
    omega
  · have := List.eq_of_mem_replicate h1
    omega
theorem p64 (k : Nat) (h : k ≤ 3) : 64 ^ k ≤ 262144 := by
  rcases k with _ | _ | _ | _ | k <;> first | decide | omega

theorem b64_group (cs : List Nat) (q : Nat) (h8 : B8 cs) (h : 3 * q < cs.length) (k : Nat) (hk : k < 4) :
    at0 (b64L cs) (4 * q + k) = if k < min 3 (cs.length - 3 * q) + 1 then b64D (dig4 (xk (cs.drop (3 * q)) 3) k) else 61 := by
  obtain ⟨c', hc⟩ : ∃ c', c' = cs.drop (3 * q) := ⟨_, rfl⟩
  have hl : c'.length = cs.length - 3 * q := by rw [hc, List.length_drop]
  have h8' : B8 c' := by rw [hc]; exact h8.drop _
  have e1 : b64L cs = b64L (cs.take (3 * q)) ++ b64L c' := by
    rw [hc, ← b64L_app _ _ (by rw [List.length_take]; omega), List.take_append_drop]
  have hl1 : (b64L (cs.take (3 * q))).length = 4 * q := by rw [b64L_len, List.length_take]; omega
  obtain ⟨n, hn⟩ : ∃ n, n = min 3 c'.length := ⟨_, rfl⟩
  have e2 : b64L c' = laid4 (xk c' 3) (n + 1) ++ b64L (c'.drop n) := by
    rw [laid4_piece h8' hn (by omega)]
    by_cases h3 : n = 3
    · rw [← b64L_app _ _ (by rw [List.length_take]; omega), List.take_append_drop]
    · rw [List.take_of_length_le (by omega), List.drop_of_length_le (by omega), b64L, List.append_nil]
  rw [e1, ← hl1, at0_append_right, e2, at0_append_left (by rw [laid4_len]; exact hk), ← hl, ← hc, ← hn]
  rw [at0_getElem (by rw [laid4_len]; exact hk)]
  simp [laid4]
theorem digs_zero4 {ys : List Nat} (h8 : B8 ys) (n k : Nat) (hn : n = min 3 ys.length) (h1 : 1 ≤ n) (hk : k < 4) (h : n + 1 ≤ k) : dig4 (xk ys 3) k = 0 := by
  have g0 := h8.at0 0
  have g1 := h8.at0 1
  have ex : xk ys 3 = at0 ys 0 * 65536 + at0 ys 1 * 256 + at0 ys 2 := by
    show ((0 * 256 + at0 ys 0) * 256 + at0 ys 1) * 256 + at0 ys 2 = _
    omega
  have z2 : at0 ys 2 = 0 := at0_out (by omega)
  rw [ex, z2]
  by_cases h2 : n = 1
  · rw [at0_out (show ys.length ≤ 1 by omega)]
    have : k = 2 ∨ k = 3 := by omega
    rcases this with rfl | rfl
    · show _ / 64 % 64 = 0; omega
    · show _ / 1 % 64 = 0; omega
  · have : k = 3 := by omega
    subst this
    show _ / 1 % 64 = 0; omega
theorem top_next (N k : Nat) (hk : k < 4) : N / 2 ^ (24 - 6 * (k + 1)) = N / 2 ^ (24 - 6 * k) * 64 + dig4 N k := by
  have : k = 0 ∨ k = 1 ∨ k = 2 ∨ k = 3 := by omega
  rcases this with rfl | rfl | rfl | rfl
  · show N / 262144 = N / 16777216 * 64 + N / 262144 % 64; omega
  · show N / 4096 = N / 262144 * 64 + N / 4096 % 64; omega
  · show N / 64 = N / 4096 * 64 + N / 64 % 64; omega
  · show N / 1 = N / 64 * 64 + N / 1 % 64; omega
theorem byte_of_xk {ys : List Nat} (h8 : B8 ys) (j : Nat) (hj : j < 3) : xk ys 3 / 2 ^ (16 - 8 * j) % 256 = at0 ys j := by
  have g0 := h8.at0 0
  have g1 := h8.at0 1
  have g2 := h8.at0 2
  have ex : xk ys 3 = at0 ys 0 * 65536 + at0 ys 1 * 256 + at0 ys 2 := by
    show ((0 * 256 + at0 ys 0) * 256 + at0 ys 1) * 256 + at0 ys 2 = _
    omega
  rw [ex]
  have : j = 0 ∨ j = 1 ∨ j = 2 := by omega
  rcases this with rfl | rfl | rfl
  · show _ / 65536 % 256 = _; omega
  · show _ / 256 % 256 = _; omega
  · show _ / 1 % 256 = _; omega

end Go.Proofs.YtaookoejdnkkoaaDoor
