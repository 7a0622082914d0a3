import Derived.Test.YtdaaapingaebkaaFdR
namespace Go.Proofs.Ytdaaapingaebkaa
open Go.RowKit

/-! fields: the reference's lists, a line's colon, one field. -/
/-- A list of fields lies behind a slice. -/
def FRow (w : World) (v : Value) (fs : List Fd) : Prop := ∃ a cap, v = .slice a fs.length cap ∧ (0 < fs.length → ∃ g, a = some ⟨g, 0, none⟩ ∧ ∀ i (hi : i < fs.length), w.rangeAt g (i * 4) (fs[i]).cells)
theorem FRow.below {w w' : World} {v : Value} {fs : List Fd} (h : FRow w v fs) (hb : Below w.heap.size w w') : FRow w' v fs := by
  obtain ⟨a, cap, rfl, h2⟩ := h
  refine ⟨a, cap, rfl, fun h0 => ?_⟩
  obtain ⟨g, rfl, h3⟩ := h2 h0
  exact ⟨g, rfl, fun i hi j v hv => below_cell hb _ _ (h3 i hi j v hv)⟩
theorem own_frow {w : World} {B : Nat} {v : Value} {fs : List Fd} (h : w.ownsRow B 28 4 v fs.length (fs.flatMap Fd.cells)) : FRow w v fs := by
  obtain ⟨a, cap, rfl⟩ := own_slice h
  refine ⟨a, cap, rfl, fun h0 => ?_⟩
  obtain ⟨g, e, _, h3⟩ := own_fd h rfl h0
  exact ⟨g, e, h3⟩
theorem hasK_at {fs : List Fd} {k i : Nat} (hi : i < fs.length) (h2 : (fs[i]).k = k) : hasK k fs = true := by
  unfold hasK
  rw [List.any_eq_true]
  exact ⟨fs[i], List.getElem_mem hi, decide_eq_true h2⟩
theorem hasK_none {fs : List Fd} {k : Nat} (h : ∀ j (hj : j < fs.length), j < fs.length → (fs[j]).k ≠ k) : hasK k fs = false := by
  unfold hasK
  rw [List.any_eq_false]
  intro f hf
  obtain ⟨i, hi, rfl⟩ := List.getElem_of_mem hf
  simpa using h i hi hi
set_option maxHeartbeats 1000000 in
set_option maxRecDepth 100000 in
theorem r_has (v : Value) (fs : List Fd) (k : Nat) (b : Bool) (w : World) (hr : FRow w v fs) (hlen : fs.length ≤ 65536) (hb : hasK k fs = b) :
    Calls Try.prog 29 #[v, .int .u8 (k : Nat)] w fun e w' => e = .returned (.bool b) ∧ w' = w := by
  obtain ⟨a, cap, rfl, hrow⟩ := hr
  obtain ⟨len, hl⟩ : ∃ len, fs.length = len := ⟨_, rfl⟩
  rw [hl] at hlen ⊢
  have HL := Lib.hid hl
  have HB := Lib.hid hb
  have HROW := Lib.hid hrow
  clear hl hb hrow
  go_enter Try.func29, Try.ntmps29
  go_wp2
  go_loopw [5] (fun iv wr => ∃ i : Nat, i ≤ len ∧ iv = .int .i64 (i : Nat) ∧ Hid (∀ j (hj : j < fs.length), j < i → (fs[j]).k ≠ k) ∧ wr = w) (fun iv _ => len - (intOf iv).toNat)
  case atStart => exact ⟨0, Nat.zero_le _, rfl, fun j _ h => absurd h (Nat.not_lt_zero _), rfl⟩
  case round =>
    obtain ⟨i, hi, rfl, HN, rfl⟩ := hrel
    by_cases hin : i < len
    · have hif : i < fs.length := by rw [HL.out]; exact hin
      obtain ⟨g, rfl, hra⟩ := HROW.out (by omega)
      obtain ⟨f, hf⟩ : ∃ f, f = fs[i] := ⟨_, rfl⟩
      have hra1 := hra i hif
      rw [← hf] at hra1
      obtain ⟨fk, fa, fb, fe⟩ := f
      obtain ⟨z0, -, -, -⟩ := range4 (show wr.rangeAt g (i * 4) [.int .u8 (fk : Nat), .int .i64 (fa : Nat), .int .i64 (fb : Nat), .int .i64 (fe : Nat)] from hra1)
      have HF := Lib.hid hf
      clear hra hra1 hf
      by_cases hk : fk = k
      · have hkb : ((fk : Int) == (k : Int)) = true := by rw [hk]; simp
        obtain rfl : b = true := by rw [← HB.out]; exact hasK_at hif (by rw [← HF.out]; exact hk)
        clear hk
        go_wp2
        go_ret
        exact ⟨rfl, rfl⟩
      · have HN2 : Hid (∀ j (hj : j < fs.length), j < i + 1 → (fs[j]).k ≠ k) := fun j hj h => by
          by_cases he : j = i
          · subst he; rw [← HF.out]; exact hk
          · exact HN.out j hj (by omega)
        have hkb : ((fk : Int) == (k : Int)) = false := by simp; omega
        clear hk
        go_wp2
        go_roundw
        case rel => exact ⟨i + 1, by omega, by go_num, HN2.out, trivial⟩
        case measure => simp [intOf]; omega
    · obtain rfl : i = len := by omega
      obtain rfl : b = false := by rw [← HB.out]; exact hasK_none fun j hj _ => HN.out j hj (by rw [← HL.out]; exact hj)
      go_wp2
      go_ret
      exact ⟨rfl, rfl⟩
theorem colL_step {l : List Nat} {i : Nat} (h : i < l.length) (h58 : at0 l i ≠ 58) (h10 : at0 l i ≠ 10) : colL (l.drop i) = (colL (l.drop (i + 1))).map (· + 1) := by
  rw [drop_at h]
  simp only [colL, h58, h10, if_false]
/-- A colon's place, or -1. -/
def colV (i : Nat) : Option Nat → Int
  | some m => ((i + m : Nat) : Int)
  | none => -1
theorem colV_step (i : Nat) (o : Option Nat) : colV i (o.map (· + 1)) = colV (i + 1) o := by
  cases o with
  | none => rfl
  | some m => show ((i + (m + 1) : Nat) : Int) = ((i + 1 + m : Nat) : Int); omega
set_option maxHeartbeats 1000000 in
set_option maxRecDepth 100000 in
theorem r_colon (s : ByteArray) (n i0 : Nat) (z : Int) (w : World) (hn : s.size = n) (hbig : n ≤ 65536) (hi : i0 ≤ n) (hz : colV i0 (colL ((bsN s).drop i0)) = z) :
    Calls Try.prog 38 #[.string s, .int .i64 (i0 : Nat)] w fun e w' => e = .returned (.int .i64 z) ∧ w' = w := by
  have hsl : (bsN s).length = n := by rw [bsN_len, hn]
  have HSL := Lib.hid hsl
  have HZ := Lib.hid hz
  clear hsl hz
  go_enter Try.func38, Try.ntmps38
  go_wp2
  go_loopw [5] (fun iv wr => ∃ i : Nat, i ≤ n ∧ iv = .int .i64 (i : Nat) ∧ Hid (colV i (colL ((bsN s).drop i)) = z) ∧ wr = w) (fun iv _ => n - (intOf iv).toNat)
  case atStart => exact ⟨i0, hi, rfl, HZ.out, rfl⟩
  case round =>
    obtain ⟨i, hi, rfl, HI, rfl⟩ := hrel
    by_cases hin : i < n
    · have hil : i < (bsN s).length := by rw [HSL.out]; exact hin
      obtain ⟨c, hc⟩ : ∃ c, at0 (bsN s) i = c := ⟨_, rfl⟩
      have x1 : ∀ W, (Instr.index 9 (.string s) (.int .i64 (i : Int))).run Try.prog W = .ok (.int .u8 (c : Nat)) W := idx_str 9 Try.underlying9 s i c (by omega) hc
      have c1 : (0 : Int) ≤ (i : Int) := by omega
      have c2 : (i : Int) < (s.size : Int) := by omega
      have hI := HI.out
      by_cases h10 : c = 10
      · subst h10
        rw [drop_at hil, hc] at hI
        have hzz : z = -1 := by rw [← hI]; rfl
        subst hzz
        clear hc hI hil HI HZ
        go_wp2
        go_ret
        exact ⟨rfl, rfl⟩
      · have e10 : ((c : Int) == 10) = false := by simp; omega
        by_cases h58 : c = 58
        · subst h58
          rw [drop_at hil, hc] at hI
          have hzz : z = (i : Int) := by rw [← hI]; rfl
          subst hzz
          clear hc hI hil HI HZ
          go_wp2
          go_ret
          exact ⟨rfl, rfl⟩
        · have e58 : ((c : Int) == 58) = false := by simp; omega
          rw [colL_step hil (by rw [hc]; exact h58) (by rw [hc]; exact h10), colV_step] at hI
          have HI2 := Lib.hid hI
          clear hc hI hil h10 h58
          go_wp2
          go_roundw
          case rel => exact ⟨i + 1, by omega, by go_num, HI2.out, trivial⟩
          case measure => simp [intOf]; omega
    · obtain rfl : i = n := by omega
      have hI := HI.out
      rw [List.drop_of_length_le (by rw [HSL.out]; exact Nat.le_refl _)] at hI
      have hzz : z = -1 := by rw [← hI]; rfl
      subst hzz
      clear hI HI HZ
      go_wp2
      go_ret
      exact ⟨rfl, rfl⟩
end Go.Proofs.Ytdaaapingaebkaa
