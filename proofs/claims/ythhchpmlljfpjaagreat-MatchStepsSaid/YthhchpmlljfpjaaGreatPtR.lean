import Derived.Test.YthhchpmlljfpjaaGreatPtG
import Derived.Test.YthhchpmlljfpjaaGreatPtO
namespace Go.Proofs.YthhchpmlljfpjaaGreat
open Go.RowKit

/-! Numbers, intervals, signs of repetition. -/
theorem decv_snoc (l : List Nat) (c : Nat) : decv (l ++ [c]) = 10 * decv l + (c - 48) := by unfold decv; rw [List.foldl_append]; rfl
theorem dg_iff (c : Nat) : dg c = true ↔ digit c := by unfold dg digit; simp
def Num3 (l : List Nat) : Prop := 1 ≤ l.length ∧ l.length ≤ 3 ∧ ∀ c ∈ l, digit c
theorem decv_lt {l : List Nat} : ∀ i, i ≤ l.length → (∀ c ∈ l.take i, digit c) → decv (l.take i) < 10 ^ i
  | 0, _, _ => by simp [decv]
  | i + 1, hi, h => by
    have e := take_succ_at0 (xs := l) (k := i) (by omega)
    rw [e] at h ⊢
    rw [decv_snoc, Nat.pow_succ]
    have h1 := decv_lt i (by omega) (fun x hx => h x (List.mem_append_left _ hx))
    have h2 := h (at0 l i) (by simp)
    unfold digit at h2
    omega
/-- The number that a text tells, or none. -/
def NumRet (l : List Nat) (e : Ending) : Prop := (Num3 l ∧ e = .returned (.tuple #[.int .i64 (decv l : Nat), .bool true])) ∨ (¬ Num3 l ∧ e = .returned (.tuple #[.int .i64 0, .bool false]))
set_option maxHeartbeats 800000 in
set_option maxRecDepth 100000 in
theorem p_number (s : ByteArray) (n : Nat) (w : World) (hn : s.size = n) (hbig : n ≤ 1099511627776) :
    Calls Tryz.prog 122 #[.string s] w fun e w' => NumRet (bsN s) e ∧ w = w' := by
  obtain ⟨l, hl⟩ : ∃ l, bsN s = l := ⟨_, rfl⟩
  have hll : l.length = n := by rw [← hl, bsN_len, hn]
  rw [hl]
  by_cases hlen : 1 ≤ n ∧ n ≤ 3
  · obtain ⟨n1, n3⟩ := hlen
    have HL := Lib.hid hl
    have HLL := Lib.hid hll
    have dn : decide ((n : Int) < 1) = false := decide_eq_false (by omega)
    clear hl hll
    go_enter Tryz.func122, Tryz.ntmps122
    go_wp2
    go_loopw [4, 16] (fun nv iv wr => ∃ i v : Nat, i ≤ n ∧ iv = .int .i64 (i : Nat) ∧ nv = .int .i64 (v : Nat) ∧ v < 1000 ∧ Hid (v = decv (l.take i)) ∧ Hid (∀ c ∈ l.take i, digit c) ∧ w = wr) (fun _ iv _ => n - (intOf iv).toNat)
    case atStart => exact ⟨0, 0, by omega, rfl, rfl, by omega, rfl, (by show ∀ c ∈ l.take 0, _; simp), rfl⟩
    case round =>
      obtain ⟨i, v, hi, rfl, rfl, hv, HV, HD, rfl⟩ := hrel
      by_cases hin : i < n
      · obtain ⟨c, hc⟩ : ∃ c, at0 l i = c := ⟨_, rfl⟩
        have hil : i < l.length := by rw [HLL.out]; exact hin
        have hc8 : c < 256 := by rw [← hc, ← HL.out]; exact at8 s i
        have x1 : ∀ W, (Instr.index 9 (.string s) (.int .i64 (i : Int))).run Tryz.prog W = .ok (.int .u8 (c : Nat)) W := idx_str 9 Tryz.underlying9 s i c (by omega) (by rw [HL.out, hc])
        have ht := take_succ_at0 hil
        rw [hc] at ht
        have HT := Lib.hid ht
        obtain ⟨b, hb⟩ : ∃ b, dg c = b := ⟨_, rfl⟩
        have hcall := p_isDigit c w
        rw [hb] at hcall
        have HC : Hid (c ∈ l) := by show c ∈ l; rw [← hc, at0_getElem hil]; exact List.getElem_mem _
        clear ht hc
        cases b
        · have HN : Hid (¬ Num3 l) := fun h => by have := (dg_iff c).2 (h.2.2 c HC.out); rw [hb] at this; cases this
          clear hb
          go_wp2_with (go_at_call 132; refine hcall.mono ?_; rintro e w' ⟨rfl, rfl⟩)
          go_ret2
          exact ⟨.inr ⟨HN.out, rfl⟩, rfl⟩
        · have hcd := (dg_iff c).1 hb
          unfold digit at hcd
          obtain ⟨d1, d2⟩ := hcd
          obtain ⟨d, hd⟩ : ∃ d, c - 48 = d := ⟨_, rfl⟩
          have HD2 : Hid (∀ x ∈ l.take (i + 1), digit x) := by
            show ∀ x ∈ _, _
            rw [HT.out]
            intro x hx
            rcases List.mem_append.1 hx with h | h
            · exact HD.out x h
            · simp at h; rw [h]; exact ⟨d1, d2⟩
          have HV2 : Hid (10 * v + d = decv (l.take (i + 1))) := by show _ = _; rw [HT.out, decv_snoc, ← HV.out, hd]
          have hlt := decv_lt (l := l) (i + 1) (by omega) HD2.out
          rw [← HV2.out] at hlt
          have h10 : 10 ^ (i + 1) ≤ 1000 := Nat.le_trans (Nat.pow_le_pow_right (by decide) (show i + 1 ≤ 3 by omega)) (by decide)
          have hv2 : 10 * v + d < 1000 := by omega
          have e1 : IntKind.u8.wrap ((c : Int) - 48) = (d : Int) := by
            rw [show ((c : Int) - 48) = ((d : Nat) : Int) by omega]; exact wrap_u8_nat d (by omega)
          have hd10 : d < 10 := by omega
          clear hb hd hlt h10
          go_wp2_with (go_at_call 132; refine hcall.mono ?_; rintro e w' ⟨rfl, rfl⟩)
          go_roundw
          case rel => exact ⟨i + 1, 10 * v + d, by omega, by go_num, by go_num, hv2, HV2.out, HD2.out, by trivial⟩
          case measure => simp [intOf]; omega
      · obtain rfl : i = n := by omega
        have hV := HV.out
        have hD := HD.out
        rw [List.take_of_length_le (by rw [HLL.out]; exact Nat.le_refl _)] at hV hD
        have HN : Hid (Num3 l ∧ v = decv l) := ⟨⟨by rw [HLL.out]; exact n1, by rw [HLL.out]; exact n3, hD⟩, hV⟩
        clear hV hD HV HD
        go_wp2
        go_ret2
        exact ⟨.inl ⟨HN.out.1, by rw [← HN.out.2]; rfl⟩, rfl⟩
  · have HN : Hid (¬ Num3 l) := fun h => by unfold Num3 at h; omega
    clear hl hll
    rcases (show n < 1 ∨ (1 ≤ n ∧ 3 < n) by omega) with h | ⟨h, h2⟩
    · obtain rfl : n = 0 := by omega
      go_enter Tryz.func122, Tryz.ntmps122
      go_wp2
      go_ret2
      exact ⟨.inr ⟨HN.out, rfl⟩, rfl⟩
    · clear hlen
      go_enter Tryz.func122, Tryz.ntmps122
      go_wp2
      go_ret2
      exact ⟨.inr ⟨HN.out, rfl⟩, rfl⟩
theorem p_isInterval (m n : Int) (w : World) (hm : -9223372036854775808 ≤ m) (hm2 : m ≤ 9223372036854775807) (hn : -9223372036854775808 ≤ n) (hn2 : n ≤ 9223372036854775807) :
    Calls Tryz.prog 99 #[.int .i64 m, .int .i64 n] w fun e w' => e = .returned (.bool (itv m n)) ∧ w = w' := by
  by_cases h1 : m < 0
  · go_enter Tryz.func99, Tryz.ntmps99
    go_wp2
    go_ret
    exact ⟨ret_bool (by unfold itv; rw [decide_eq_false (show ¬ 0 ≤ m by omega)]; rfl), rfl⟩
  · by_cases h2 : 255 < m
    · have h1' : 0 ≤ m := by omega
      go_enter Tryz.func99, Tryz.ntmps99
      go_wp2
      go_ret
      exact ⟨ret_bool (by unfold itv; rw [decide_eq_false (show ¬ m ≤ 255 by omega)]; simp), rfl⟩
    · have h1' : 0 ≤ m := by omega
      have h2' : m ≤ 255 := by omega
      by_cases h3 : n = -1
      · subst h3
        go_enter Tryz.func99, Tryz.ntmps99
        go_wp2
        go_ret
        exact ⟨ret_bool (by unfold itv; simp; omega), rfl⟩
      · have h3' : (n == -1) = false := by simp; exact h3
        by_cases h4 : m ≤ n
        · go_enter Tryz.func99, Tryz.ntmps99
          go_wp2
          go_ret
          exact ⟨ret_bool (by unfold itv; rw [Bool.eq_iff_iff]; simp; omega), rfl⟩
        · have h4' : n < m := by omega
          go_enter Tryz.func99, Tryz.ntmps99
          go_wp2
          go_ret
          exact ⟨ret_bool (by unfold itv; rw [Bool.eq_iff_iff]; simp; omega), rfl⟩
end Go.Proofs.YthhchpmlljfpjaaGreat
