import Derived.Test.YtdaaapingaebkaaFdV
import Derived.Test.YtdaaapingaebkaaFdJ
namespace Go.Proofs.Ytdaaapingaebkaa
open Go.RowKit

/-! fields: the reference's Find, Signed, Same. -/
set_option maxHeartbeats 2000000 in
set_option maxRecDepth 100000 in
theorem r_Find (s : ByteArray) (n k : Nat) (w : World) (hk8 : k < 256) (hn : s.size = n) (r : Res) (hr : (splitR (bsN s)).fin n = r) (t : ByteArray) (b : Bool) (c : Nat) (hv : findV s r k = (t, b, c)) :
    Calls Try.prog 15 #[.string s, .int .u8 (k : Nat)] w fun e w' => e = .returned (.tuple #[.string t, .bool b, .int .i64 (c : Nat)]) ∧ Below w.heap.size w w' := by
  unfold findV at hv
  by_cases hk : k = 0 ∨ 7 < k
  · rw [if_pos hk] at hv
    injection hv with e1 e2
    injection e2 with e2 e3
    subst e1 e2 e3
    rcases hk with h | h
    · subst h
      clear hr
      go_enter Try.func15, Try.ntmps15
      go_wp2
      go_ret3
      exact ⟨rfl, Below.refl _ _⟩
    · have h1 : decide ((k : Int) < 1) = false := decide_eq_false (by omega)
      have h2 : (7 : Int) < (k : Int) := by omega
      have h3 : decide (k < 1) = false := decide_eq_false (by omega)
      have h4 : ((k : Int) = 0) = False := eq_false (by omega)
      clear hr
      go_enter Try.func15, Try.ntmps15
      go_wp2
      go_ret3
      exact ⟨rfl, Below.refl _ _⟩
  · rw [if_neg hk] at hv
    have h1 : decide ((k : Int) < 1) = false := decide_eq_false (by omega)
    have h2 : decide ((7 : Int) < (k : Int)) = false := decide_eq_false (by omega)
    have HS := Lib.hid (fun W => r_Split s n W hn r hr)
    have HV := Lib.hid hv
    have HR := Lib.hid hr
    clear hr hk hv
    go_enter Try.func15, Try.ntmps15
    go_wp2_with fail
    refine (HS.out _).mono ?_
    rintro e w1 ⟨⟨i1, c1, rfl, h2, rfl⟩ | ⟨fs, a, cap, rfl, h2, h3, rfl, h5⟩, hb⟩
    · obtain ⟨e1, e2⟩ := Prod.mk.inj HV.out
      obtain ⟨e2, e3⟩ := Prod.mk.inj e2
      subst e1 e2
      have e3' : c1 = c := e3
      subst e3'
      have hc0 : ((c1 : Int) == 0) = false := by simp; omega
      have HB := Lib.hid hb
      clear hb h2 e3 HV
      go_wp2
      go_ret3
      exact ⟨rfl, HB.out⟩
    · obtain ⟨g, rfl, hg, hrow⟩ := own_fd h5 rfl h2
      obtain ⟨len, hl⟩ : ∃ len, fs.length = len := ⟨_, rfl⟩
      rw [hl] at h2 h3
      have HL := Lib.hid hl
      have HROW := Lib.hid hrow
      have HB1 := Lib.hid hb
      rw [hl]
      clear hb h5 hg hrow hl
      go_wp2
      go_loopw [10] (fun iv wr => ∃ i : Nat, i ≤ len ∧ iv = .int .i64 (i : Nat) ∧ Hid (∀ j (hj : j < fs.length), j < i → (fs[j]).k ≠ k) ∧ wr = w1) (fun iv _ => len - (intOf iv).toNat)
      case atStart => exact ⟨0, Nat.zero_le _, rfl, fun j _ h => absurd h (Nat.not_lt_zero _), rfl⟩
      case round =>
        obtain ⟨i, hi, rfl, HN, rfl⟩ := hrel
        by_cases hin : i < len
        · have hif : i < fs.length := by rw [HL.out]; exact hin
          obtain ⟨f, hf⟩ : ∃ f, f = fs[i] := ⟨_, rfl⟩
          have hra := HROW.out i hif
          rw [← hf] at hra
          obtain ⟨fk, fa, fb, fe⟩ := f
          obtain ⟨z0, z1, z2, z3⟩ := range4 (show wr.rangeAt g (i * 4) [.int .u8 (fk : Nat), .int .i64 (fa : Nat), .int .i64 (fb : Nat), .int .i64 (fe : Nat)] from hra)
          have HF := Lib.hid hf
          clear hra hf
          by_cases hk : fk = k
          · have hp : Res.pick k (.ok fs) = some ⟨fk, fa, fb, fe⟩ := by
              show fs.find? _ = _
              rw [HF.out]
              exact find_at hif HN.out (by rw [← HF.out]; exact hk)
            obtain ⟨t1, t2, t3, t4⟩ := pick_tile hn HR.out hp
            have hv := HV.out
            rw [hp] at hv
            obtain ⟨e1, e2⟩ := Prod.mk.inj hv
            obtain ⟨e2, e3⟩ := Prod.mk.inj e2
            subst e2 e3
            have e1' : s.extract fb fe = t := e1
            have HE1 := Lib.hid e1'
            have c1 : (0 : Int) ≤ (fb : Int) := by omega
            have c2 : (fb : Int) ≤ (fe : Int) := Int.ofNat_le.2 t2
            have c3 : (fe : Int) ≤ (n : Int) := Int.ofNat_le.2 t3
            have hkb : ((fk : Int) == (k : Int)) = true := by rw [hk]; simp
            clear hk hp t1 t2 t3 t4 hv e1 e1'
            go_wp2
            go_quiet (fail)
            rw [HE1.out]
            go_wp2
            go_ret3
            exact ⟨rfl, bel_drewN HB1.out _⟩
          · have HN2 : Hid (∀ j (hj : j < fs.length), j < i + 1 → (fs[j]).k ≠ k) := fun j hj h => by
              by_cases he : j = i
              · subst he; rw [← HF.out]; exact hk
              · exact HN.out j hj (by omega)
            have hkb : ((fk : Int) == (k : Int)) = false := by simp; omega
            clear hk
            go_wp2
            go_roundw
            case rel => exact ⟨i + 1, by omega, by go_num, HN2.out, trivial⟩
            case measure => simp [intOf]; omega
        · obtain rfl : i = len := by omega
          have hp : Res.pick k (.ok fs) = none := find_no fun j hj _ => HN.out j hj (by rw [← HL.out]; exact hj)
          have hv := HV.out
          rw [hp] at hv
          obtain ⟨e1, e2⟩ := Prod.mk.inj hv
          obtain ⟨e2, e3⟩ := Prod.mk.inj e2
          subst e1 e2
          have e3' : 0 = c := e3
          subst e3'
          clear hp hv e3
          go_wp2
          go_ret3
          exact ⟨rfl, HB1.out⟩
set_option maxHeartbeats 2000000 in
set_option maxRecDepth 100000 in
theorem r_Signed (s : ByteArray) (n : Nat) (w : World) (hn : s.size = n) (r : Res) (hr : (splitR (bsN s)).fin n = r) (t : ByteArray) (c : Nat) (hv : signV s r = (t, c)) :
    Calls Try.prog 17 #[.string s] w fun e w' => e = .returned (.tuple #[.string t, .int .i64 (c : Nat)]) ∧ Below w.heap.size w w' := by
  have HS := Lib.hid (fun W => r_Split s n W hn r hr)
  have HV := Lib.hid hv
  have HR := Lib.hid hr
  clear hr hv
  go_enter Try.func17, Try.ntmps17
  go_wp2_with fail
  refine (HS.out _).mono ?_
  rintro e w1 ⟨⟨i1, c1, rfl, h2, rfl⟩ | ⟨fs, a, cap, rfl, h2, h3, rfl, h5⟩, hb⟩
  · obtain ⟨e1, e2⟩ := Prod.mk.inj HV.out
    subst e1 e2
    have hc0 : ((c1 : Int) == 0) = false := by simp; omega
    have HB := Lib.hid hb
    clear hb h2 HV
    go_wp2
    go_ret2
    exact ⟨rfl, HB.out⟩
  · obtain ⟨g, rfl, hg, hrow⟩ := own_fd h5 rfl h2
    obtain ⟨len, hl⟩ : ∃ len, fs.length = len := ⟨_, rfl⟩
    rw [hl] at h2 h3
    have HL := Lib.hid hl
    have HROW := Lib.hid hrow
    have HB1 := Lib.hid hb
    rw [hl]
    clear hb h5 hg hrow hl
    go_wp2
    go_loopw [7] (fun iv wr => ∃ i : Nat, i ≤ len ∧ iv = .int .i64 (i : Nat) ∧ Hid (∀ j (hj : j < fs.length), j < i → (fs[j]).k ≠ 7) ∧ wr = w1) (fun iv _ => len - (intOf iv).toNat)
    case atStart => exact ⟨0, Nat.zero_le _, rfl, fun j _ h => absurd h (Nat.not_lt_zero _), rfl⟩
    case round =>
      obtain ⟨i, hi, rfl, HN, rfl⟩ := hrel
      by_cases hin : i < len
      · have hif : i < fs.length := by rw [HL.out]; exact hin
        obtain ⟨f, hf⟩ : ∃ f, f = fs[i] := ⟨_, rfl⟩
        have hra := HROW.out i hif
        rw [← hf] at hra
        obtain ⟨fk, fa, fb, fe⟩ := f
        obtain ⟨z0, z1, z2, z3⟩ := range4 (show wr.rangeAt g (i * 4) [.int .u8 (fk : Nat), .int .i64 (fa : Nat), .int .i64 (fb : Nat), .int .i64 (fe : Nat)] from hra)
        have HF := Lib.hid hf
        clear hra hf
        by_cases hk : fk = 7
        · have hp : Res.pick 7 (.ok fs) = some ⟨fk, fa, fb, fe⟩ := by
            show fs.find? _ = _
            rw [HF.out]
            exact find_at hif HN.out (by rw [← HF.out]; exact hk)
          obtain ⟨t1, t2, t3, t4⟩ := pick_tile hn HR.out hp
          have hv : signL s (Res.pick 7 (.ok fs)) = (t, c) := HV.out
          rw [hp] at hv
          obtain ⟨e1, e2⟩ := Prod.mk.inj hv
          subst e2
          have e1' : s.extract 0 fa = t := e1
          have HE1 := Lib.hid e1'
          have hfa : fa ≤ n := by
            have h1 : fa < fb := t1
            have h2 : fb ≤ fe := t2
            have h3 : fe ≤ n := t3
            omega
          have c1 : (0 : Int) ≤ (fa : Int) := by omega
          have c3 : (fa : Int) ≤ (n : Int) := by omega
          subst hk
          clear hp t1 t2 t3 t4 hv e1 e1' hfa
          go_wp2
          rw [HE1.out]
          go_ret2
          exact ⟨rfl, HB1.out⟩
        · have HN2 : Hid (∀ j (hj : j < fs.length), j < i + 1 → (fs[j]).k ≠ 7) := fun j hj h => by
            by_cases he : j = i
            · subst he; rw [← HF.out]; exact hk
            · exact HN.out j hj (by omega)
          have hkb : ((fk : Int) == 7) = false := by simp; omega
          clear hk
          go_wp2
          go_roundw
          case rel => exact ⟨i + 1, by omega, by go_num, HN2.out, trivial⟩
          case measure => simp [intOf]; omega
      · obtain rfl : i = len := by omega
        have hp : Res.pick 7 (.ok fs) = none := find_no fun j hj _ => HN.out j hj (by rw [← HL.out]; exact hj)
        have hv : signL s (Res.pick 7 (.ok fs)) = (t, c) := HV.out
        rw [hp] at hv
        obtain ⟨e1, e2⟩ := Prod.mk.inj hv
        subst e1 e2
        clear hp hv
        go_wp2
        go_ret2
        exact ⟨rfl, HB1.out⟩
theorem fd_ne {x y : Fd} (h : x ≠ y) : (((x.k : Int) == (y.k : Int)) && (((x.a : Int) == (y.a : Int)) && (((x.b : Int) == (y.b : Int)) && ((x.e : Int) == (y.e : Int))))) = false := by
  rw [Bool.eq_false_iff]
  intro e
  simp only [Bool.and_eq_true, beq_iff_eq, Int.natCast_inj] at e
  obtain ⟨x1, x2, x3, x4⟩ := x
  obtain ⟨y1, y2, y3, y4⟩ := y
  obtain ⟨e1, e2, e3, e4⟩ := e
  simp only at e1 e2 e3 e4
  subst e1 e2 e3 e4
  exact h rfl
set_option maxHeartbeats 2000000 in
set_option maxRecDepth 100000 in
/-- Two lists of fields that are the same. -/
theorem r_Same (v1 v2 : Value) (fs : List Fd) (w : World) (hlen : fs.length ≤ 65536) (h1 : FRow w v1 fs) (h2 : FRow w v2 fs) :
    Calls Try.prog 13 #[v1, v2] w fun e w' => e = .returned (.bool true) ∧ Below w.heap.size w w' := by
  obtain ⟨a1, cap1, rfl, hr1⟩ := h1
  obtain ⟨a2, cap2, rfl, hr2⟩ := h2
  obtain ⟨len, hl⟩ : ∃ len, fs.length = len := ⟨_, rfl⟩
  rw [hl] at hlen ⊢
  have HL := Lib.hid hl
  have HR1 := Lib.hid hr1
  have HR2 := Lib.hid hr2
  clear hl hr1 hr2
  go_enter Try.func13, Try.ntmps13
  go_wp2
  go_loopw [5] (fun iv wr => ∃ i : Nat, i ≤ len ∧ iv = .int .i64 (i : Nat) ∧ Hid (Below w.heap.size w wr)) (fun iv _ => len - (intOf iv).toNat)
  case atStart => exact ⟨0, Nat.zero_le _, rfl, Below.refl _ _⟩
  case round =>
    obtain ⟨i, hi, rfl, HB⟩ := hrel
    by_cases hin : i < len
    · have hif : i < fs.length := by rw [HL.out]; exact hin
      obtain ⟨g1, rfl, hra1⟩ := HR1.out (by rw [HL.out]; omega)
      obtain ⟨g2, rfl, hra2⟩ := HR2.out (by rw [HL.out]; omega)
      obtain ⟨f, hf⟩ : ∃ f, f = fs[i] := ⟨_, rfl⟩
      have hx1 := hra1 i hif
      have hx2 := hra2 i hif
      rw [← hf] at hx1 hx2
      obtain ⟨fk, fa, fb, fe⟩ := f
      have hy1 : wr.rangeAt g1 (i * 4) (Fd.cells ⟨fk, fa, fb, fe⟩) := fun j v hv => below_cell HB.out _ _ (hx1 j v hv)
      have hy2 : wr.rangeAt g2 (i * 4) (Fd.cells ⟨fk, fa, fb, fe⟩) := fun j v hv => below_cell HB.out _ _ (hx2 j v hv)
      obtain ⟨z0, z1, z2, z3⟩ := range4 (show wr.rangeAt g1 (i * 4) [.int .u8 (fk : Nat), .int .i64 (fa : Nat), .int .i64 (fb : Nat), .int .i64 (fe : Nat)] from hy1)
      obtain ⟨y0, y1, y2, y3⟩ := range4 (show wr.rangeAt g2 (i * 4) [.int .u8 (fk : Nat), .int .i64 (fa : Nat), .int .i64 (fb : Nat), .int .i64 (fe : Nat)] from hy2)
      clear hra1 hra2 hx1 hx2 hy1 hy2 hf
      go_wp2
      go_region
      all_goals
        go_wp2
        go_roundw
        case rel => exact ⟨i + 1, by omega, by go_num, HB.out.drew⟩
        case measure => simp [intOf]; omega
    · obtain rfl : i = len := by omega
      go_wp2
      go_ret
      exact ⟨rfl, HB.out⟩
end Go.Proofs.Ytdaaapingaebkaa
