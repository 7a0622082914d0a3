import Derived.Test.YteanpdiceaijhaaDoorTextA
namespace Go.Proofs.YteanpdiceaijhaaDoor
open Go.RowKit

/-- The decimal text of a number. -/
structure IsDec (l : List UInt8) (n : Nat) : Prop where
  dig : ∀ c ∈ l, isDig c = true
  vl : dval l = n
  ne : l ≠ []
  hd : 1 < l.length → l.head? ≠ some 48

theorem dval_inj : ∀ (l k : List UInt8), l.length = k.length → (∀ c ∈ l, isDig c = true) → (∀ c ∈ k, isDig c = true) → dval l = dval k → l = k
  | [], k, hl, _, _, _ => (List.eq_nil_of_length_eq_zero (by simpa using hl.symm)).symm
  | c :: l, [], hl, _, _, _ => by simp at hl
  | c :: l, d :: k, hl, h1, h2, hv => by
    have e : l.length = k.length := by simpa using hl
    rw [dval_cons, dval_cons, e] at hv
    have k1 := dval_lt l (fun x hx => h1 x (by simp [hx]))
    have k2 := dval_lt k (fun x hx => h2 x (by simp [hx]))
    rw [e] at k1
    have d1 : 48 ≤ c.toNat ∧ c.toNat ≤ 57 := by simpa [isDig] using h1 c (by simp)
    have d2 : 48 ≤ d.toNat ∧ d.toNat ≤ 57 := by simpa [isDig] using h2 d (by simp)
    have hp : 0 < 10 ^ k.length := Nat.pow_pos (by decide)
    have hq : c.toNat - 48 = d.toNat - 48 := by
      have g1 : ((c.toNat - 48) * 10 ^ k.length + dval l) / 10 ^ k.length = c.toNat - 48 := by
        rw [Nat.mul_comm, Nat.mul_add_div hp, Nat.div_eq_of_lt k1, Nat.add_zero]
      have g2 : ((d.toNat - 48) * 10 ^ k.length + dval k) / 10 ^ k.length = d.toNat - 48 := by
        rw [Nat.mul_comm, Nat.mul_add_div hp, Nat.div_eq_of_lt k2, Nat.add_zero]
      rw [← g1, hv, g2]
    have hcd : c = d := UInt8.toNat_inj.1 (by omega)
    rw [hq] at hv
    subst hcd
    rw [dval_inj l k e (fun x hx => h1 x (by simp [hx])) (fun x hx => h2 x (by simp [hx])) (by omega)]
theorem dval_head {c : UInt8} {t : List UInt8} (h : isDig c = true) (hc : c ≠ 48) : 10 ^ t.length ≤ dval (c :: t) := by
  have h2 : 48 ≤ c.toNat ∧ c.toNat ≤ 57 := by simpa [isDig] using h
  rw [dval_cons]
  have h3 : c.toNat ≠ 48 := fun e => hc (UInt8.toNat_inj.1 e)
  have h4 : 1 * 10 ^ t.length ≤ (c.toNat - 48) * 10 ^ t.length := Nat.mul_le_mul_right _ (by omega)
  omega
/-- A text that begins with no nought has as many digits as its number tells. -/
theorem IsDec.pow_le {l : List UInt8} {n : Nat} (h : IsDec l n) (h1 : 1 < l.length) : 10 ^ (l.length - 1) ≤ n := by
  cases l with
  | nil => exact absurd rfl h.ne
  | cons c t =>
    have := dval_head (t := t) (h.dig c (by simp)) (fun e => h.hd h1 (by simp [e]))
    rw [h.vl] at this
    simpa using this
theorem IsDec.unique {l k : List UInt8} {n : Nat} (h : IsDec l n) (g : IsDec k n) : l = k := by
  refine dval_inj l k ?_ h.dig g.dig (h.vl.trans g.vl.symm)
  have a1 := dval_lt l h.dig
  have a2 := dval_lt k g.dig
  rw [h.vl] at a1
  rw [g.vl] at a2
  have b1 := List.length_pos_iff.2 h.ne
  have b2 := List.length_pos_iff.2 g.ne
  rcases Nat.lt_trichotomy l.length k.length with hl | hl | hl
  · have c1 := g.pow_le (by omega)
    have c2 : 10 ^ l.length ≤ 10 ^ (k.length - 1) := Nat.pow_le_pow_right (by decide) (by omega)
    omega
  · exact hl
  · have c1 := h.pow_le (by omega)
    have c2 : 10 ^ k.length ≤ 10 ^ (l.length - 1) := Nat.pow_le_pow_right (by decide) (by omega)
    omega
theorem isDec_zero : IsDec [48] 0 := ⟨by decide, by decide, by simp, fun h => absurd h (by decide)⟩

/-- Digits as bytes, the highest first. -/
def txt (m n : Nat) : List UInt8 := (digs m n).reverse.map UInt8.ofNat
theorem txt_succ (m n : Nat) : txt (m + 1) n = UInt8.ofNat (48 + n / 10 ^ m % 10) :: txt m n := by simp [txt, digs_succ]
theorem txt_len (m n : Nat) : (txt m n).length = m := by simp [txt, digs_len]
theorem dig_nat (d : Nat) (h : d < 10) : (UInt8.ofNat (48 + d)).toNat = 48 + d := by
  have : ∀ d : Fin 10, (UInt8.ofNat (48 + d.val)).toNat = 48 + d.val := by decide
  exact this ⟨d, h⟩
theorem txt_dig (m n : Nat) : ∀ c ∈ txt m n, isDig c = true := by
  induction m with
  | zero => intro c hc; simp [txt, digs_zero] at hc
  | succ m ih =>
    intro c hc
    rw [txt_succ] at hc
    rcases List.mem_cons.1 hc with rfl | hc
    · have h1 : n / 10 ^ m % 10 < 10 := Nat.mod_lt _ (by decide)
      have h2 := dig_nat _ h1
      simp only [isDig, h2]
      simp
      omega
    · exact ih c hc
theorem txt_val (m n : Nat) : dval (txt m n) = n % 10 ^ m := by
  induction m with
  | zero => simp [txt, digs_zero, dval, Nat.mod_one]
  | succ m ih =>
    have h1 : n / 10 ^ m % 10 < 10 := Nat.mod_lt _ (by decide)
    rw [txt_succ, dval_cons, dig_nat _ h1, ih, txt_len, Nat.add_sub_cancel_left, Nat.pow_succ, Nat.mod_mul, Nat.mul_comm]
    omega
theorem isDec_trim {l : List UInt8} {n : Nat} (hd : ∀ c ∈ l, isDig c = true) (hv : dval l = n) (hn : 0 < n) : IsDec (Lib.trimLeftB l 48) n := by
  have h1 : dval (Lib.trimLeftB l 48) = n := by rw [dval_trim]; exact hv
  have h2 : Lib.trimLeftB l 48 ≠ [] := fun e => by rw [e] at h1; simp [dval] at h1; omega
  refine ⟨fun c hc => hd c (trim_sub l c hc), h1, h2, fun _ => ?_⟩
  cases ht : Lib.trimLeftB l 48 with
  | nil => exact absurd ht h2
  | cons c t => have := trim_head l c t ht; simpa using this
/-- What Text answers, said by its number. -/
def TextTells (fits : Prop) (n : Nat) (w : World) (e : Ending) (w' : World) : Prop :=
  Below w.heap.size w w' ∧
  ((¬ fits ∧ e = .returned (.tuple #[.string ⟨#[]⟩, .int .i64 3])) ∨
   (fits ∧ ∃ l, IsDec l n ∧ e = .returned (.tuple #[.string ⟨l.toArray⟩, .int .i64 0])))
theorem TextPost.tells {xs : List Nat} {w w' : World} {e : Ending} (bx : Bd xs) (h : TextPost (fl xs) (val xs) w e w') : TextTells (fl xs ≤ 128) (val xs) w e w' := by
  refine ⟨h.1, ?_⟩
  rcases h.2 with ⟨h1, rfl⟩ | ⟨h1, rfl⟩ | ⟨h1, k, h0, h2, h3, rfl⟩
  · exact .inl ⟨by omega, rfl⟩
  · refine .inr ⟨by omega, [48], ?_, rfl⟩
    have h4 := num_fm bx
    have h5 : fm xs = [] := List.eq_nil_of_length_eq_zero (by rw [fm_length]; exact h1)
    rw [h5] at h4
    have h6 : val xs = 0 := h4.vl.symm
    rw [h6]; exact isDec_zero
  · refine .inr ⟨h1, _, isDec_trim (txt_dig (19 * k) (val xs)) (by rw [txt_val]; exact Nat.mod_eq_of_lt h2) ?_, rfl⟩
    have : 0 < 10 ^ (19 * (k - 1)) := Nat.pow_pos (by decide)
    omega
set_option exponentiation.threshold 10000 in
theorem IsDec.len_le {l : List UInt8} {n : Nat} (h : IsDec l n) (hn : n < 18446744073709551616 ^ 128) : l.length ≤ 2467 := by
  refine Nat.le_of_not_lt fun h2 => ?_
  have h3 := h.pow_le (by omega)
  have h4 : 10 ^ 2467 ≤ 10 ^ (l.length - 1) := Nat.pow_le_pow_right (by decide) (by omega)
  have h5 := big_digits
  exact absurd hn (Nat.not_lt.2 (Nat.le_trans h5 (Nat.le_trans h4 h3)))
end Go.Proofs.YteanpdiceaijhaaDoor
