import Derived.Test.YtdaaapingaebkaaFdE
namespace Go.Proofs.Ytdaaapingaebkaa
open Go.RowKit

/-! fields: the kinds of a list; where fields end. -/
def kK (fs : List Fd) : List Value := kL (hasK 1 fs) (hasK 2 fs) (hasK 3 fs) (hasK 4 fs) (hasK 5 fs) (hasK 6 fs) (hasK 7 fs)
def KOk (fs : List Fd) : Prop := ∀ f ∈ fs, 1 ≤ f.k ∧ f.k ≤ 7
theorem KOk.app {fs : List Fd} (h : KOk fs) (f : Fd) (h1 : 1 ≤ f.k) (h7 : f.k ≤ 7) : KOk (fs ++ [f]) := by
  intro x hx
  rcases List.mem_append.1 hx with hx | hx
  · exact h x hx
  · obtain rfl := List.mem_singleton.1 hx
    exact ⟨h1, h7⟩
theorem any_has {fs : List Fd} (h : KOk fs) : (hasK 1 fs || hasK 2 fs || hasK 3 fs || hasK 4 fs || hasK 5 fs || hasK 6 fs || hasK 7 fs) = !fs.isEmpty := by
  cases fs with
  | nil => rfl
  | cons f r =>
    obtain ⟨h1, h7⟩ := h f (by simp)
    have : ∀ k, hasK k (f :: r) = (decide (f.k = k) || hasK k r) := fun k => by simp [hasK]
    rcases (show f.k = 1 ∨ f.k = 2 ∨ f.k = 3 ∨ f.k = 4 ∨ f.k = 5 ∨ f.k = 6 ∨ f.k = 7 by omega) with u | u | u | u | u | u | u
    all_goals simp [this, u]
theorem nth_has (fs : List Fd) {k : Nat} (h1 : 1 ≤ k) (h7 : k ≤ 7) : ([hasK 1 fs, hasK 2 fs, hasK 3 fs, hasK 4 fs, hasK 5 fs, hasK 6 fs, hasK 7 fs])[k - 1]? = some (hasK k fs) := by
  rcases (show k = 1 ∨ k = 2 ∨ k = 3 ∨ k = 4 ∨ k = 5 ∨ k = 6 ∨ k = 7 by omega) with u | u | u | u | u | u | u
  all_goals
    subst u
    rfl
/-- One kind more, told. -/
def WiRet (fs : List Fd) (f : Fd) (e : Ending) : Prop :=
  (ordK fs f.k = 0 ∧ e = .returned (.tuple #[.agg (kK (fs ++ [f])).toArray, .int .i64 0])) ∨ (∃ c, ordK fs f.k = c ∧ c ≠ 0 ∧ e = .returned (.tuple #[.agg (kL false false false false false false false).toArray, .int .i64 (c : Nat)]))
theorem f_with (fs : List Fd) (f : Fd) (w : World) (hfs : KOk fs) (h1 : 1 ≤ f.k) (h7 : f.k ≤ 7) :
    Calls Try.prog 41 #[.agg (kK fs).toArray, .int .u8 (f.k : Nat)] w fun e w' => WiRet fs f e ∧ Below w.heap.size w w' := by
  have hany := any_has hfs
  have hn := nth_has fs h1 h7
  by_cases hk : hasK f.k fs = true
  · rw [hk] at hn
    refine (f_with_twice _ _ _ _ _ _ _ f.k w h1 h7 hn).mono ?_
    rintro e w' ⟨he, hb⟩
    exact ⟨.inr ⟨132, by simp [ordK, hk], by decide, he⟩, hb⟩
  · have hk' : hasK f.k fs = false := by simpa using hk
    rw [hk'] at hn
    by_cases hs : hasK 7 fs = true
    · have h76 : f.k ≤ 6 := by
        rcases Nat.lt_or_ge f.k 7 with h | h
        · omega
        · rw [show f.k = 7 by omega] at hk'; rw [hk'] at hs; cases hs
      have hn6 : ([hasK 1 fs, hasK 2 fs, hasK 3 fs, hasK 4 fs, hasK 5 fs, hasK 6 fs])[f.k - 1]? = some false := by
        rw [← hn]
        rcases (show f.k = 1 ∨ f.k = 2 ∨ f.k = 3 ∨ f.k = 4 ∨ f.k = 5 ∨ f.k = 6 by omega) with u | u | u | u | u | u
        all_goals
          rw [u]
          rfl
      have := f_with_last (hasK 1 fs) (hasK 2 fs) (hasK 3 fs) (hasK 4 fs) (hasK 5 fs) (hasK 6 fs) f.k w h1 h76 hn6
      rw [kK, hs]
      refine this.mono ?_
      rintro e w' ⟨he, hb⟩
      exact ⟨.inr ⟨133, by simp [ordK, hk', hs], by decide, he⟩, hb⟩
    · have hs' : hasK 7 fs = false := by simpa using hs
      by_cases hf : f.k = 1 ∧ fs.isEmpty = false
      · refine (f_with_first _ _ _ _ _ _ _ f.k w ?_ hs' hf.1 (by rw [hany, hf.2]; rfl)).mono ?_
        · rw [hf.1] at hk'; exact hk'
        · rintro e w' ⟨he, hb⟩
          exact ⟨.inr ⟨133, by rw [hf.1] at hk'; simp [ordK, hk', hf.1, hf.2], by decide, he⟩, hb⟩
      · refine (f_with_ok _ _ _ _ _ _ _ f.k w h1 h7 hs' hn (fun h => ?_)).mono ?_
        · rw [hany]
          cases hx : fs.isEmpty with
          | true => rfl
          | false => exact absurd ⟨h, hx⟩ hf
        · rintro e w' ⟨he, hb⟩
          refine ⟨.inl ⟨?_, ?_⟩, hb⟩
          · unfold ordK
            rw [hk', hs']
            by_cases h : f.k = 1
            · cases hx : fs.isEmpty with
              | true => simp
              | false => exact absurd ⟨h, hx⟩ hf
            · simp [h]
          · rw [he, kK]
            simp only [hasK_app]
theorem fd_len (f : Fd) : f.cells.length = 4 := rfl
theorem fdflat_len (L : List Fd) : (L.flatMap Fd.cells).length = L.length * 4 := by
  induction L with
  | nil => rfl
  | cons t ts ih => rw [List.flatMap_cons, List.length_append, ih, List.length_cons, fd_len]; omega
theorem fdflat_at : ∀ (L : List Fd) (i : Nat) (h : i < L.length) (j : Nat), j < 4 → (L.flatMap Fd.cells)[i * 4 + j]? = (L[i]).cells[j]?
  | [], i, h, _, _ => by cases h
  | t :: ts, 0, _, j, hj => by rw [List.flatMap_cons, List.getElem?_append_left (by rw [fd_len]; omega)]; simp
  | t :: ts, i + 1, h, j, hj => by
    rw [List.flatMap_cons, List.getElem?_append_right (by rw [fd_len]; omega), fd_len, show (i + 1) * 4 + j - 4 = i * 4 + j by omega]
    exact fdflat_at ts i (by simpa using h) j hj
theorem end_set (L M : List Fd) (k a b e x : Nat) : ((L ++ ⟨k, a, b, e⟩ :: M).flatMap Fd.cells).set (L.length * 4 + 3) (.int .i64 (x : Nat)) = (L ++ ⟨k, a, b, x⟩ :: M).flatMap Fd.cells := by
  rw [List.flatMap_append, List.flatMap_append, List.set_append_right _ _ (by rw [fdflat_len]; omega), fdflat_len, show L.length * 4 + 3 - L.length * 4 = 3 by omega]
  rfl
theorem part_split (n : Nat) (fs : List Fd) (i : Nat) (h : i < fs.length) : fs.take (i + 1) ++ ends n (fs.drop (i + 1)) = fs.take i ++ fs[i] :: ends n (fs.drop (i + 1)) ∧
    fs.take i ++ ends n (fs.drop i) = fs.take i ++ ⟨fs[i].k, fs[i].a, fs[i].b, hA n (fs.drop (i + 1))⟩ :: ends n (fs.drop (i + 1)) := by
  constructor
  · rw [List.take_add_one, List.getElem?_eq_getElem h, List.append_assoc]; rfl
  · rw [List.drop_eq_getElem_cons h]; rfl
set_option maxHeartbeats 1000000 in
set_option maxRecDepth 100000 in
/-- Each field ends where the next one begins. -/
theorem f_end (fs : List Fd) (B n : Nat) (v : Value) (w : World) (ho : w.ownsRow B 28 4 v fs.length (fs.flatMap Fd.cells)) (hlen : fs.length ≤ 65536) :
    Calls Try.prog 42 #[v, .int .i64 (n : Nat)] w fun e w' => e = .returned (.tuple #[]) ∧ w'.ownsRow B 28 4 v fs.length ((ends n fs).flatMap Fd.cells) ∧ Chg (fun k => v.ownBlock = some k) w w' := by
  obtain ⟨len, hl⟩ : ∃ len, fs.length = len := ⟨_, rfl⟩
  rw [hl] at ho hlen ⊢
  have HL := Lib.hid hl
  rcases ho.2 with ⟨rfl, h0⟩ | ⟨g, cap, cur, rfl, rest⟩
  · have hnil : fs = [] := List.length_eq_zero_iff.1 (hl.trans h0)
    subst hnil
    subst h0
    have HO := Lib.hid ho
    clear ho hl
    go_enter Try.func42, Try.ntmps42
    go_wp2
    go_loopw [1, 4] (fun v1 v4 wr => v4 = .int .i64 (-1) ∧ wr = w) (fun _ _ _ => 0)
    case atStart => exact ⟨rfl, rfl⟩
    case round =>
      obtain ⟨rfl, rfl⟩ := hrel
      go_wp2
      exact bodyPost_end (results_none rfl _ _ _) rfl ⟨rfl, HO.out, Chg.refl _ _⟩
  · clear rest
    have HO := Lib.hid ho
    clear ho hl
    go_enter Try.func42, Try.ntmps42
    go_wp2
    go_loopw [1, 4] (fun v1 v4 wr => ∃ i a : Nat, i ≤ len ∧ v4 = .int .i64 ((i : Int) - 1) ∧ v1 = .int .i64 (a : Nat) ∧ Hid (a = hA n (fs.drop i)) ∧ Hid (wr.ownsRow B 28 4 (.slice (some ⟨g, 0, none⟩) len cap) len ((fs.take i ++ ends n (fs.drop i)).flatMap Fd.cells)) ∧ Hid (Chg (fun k => some g = some k) w wr)) (fun _ v4 _ => (intOf v4 + 1).toNat)
    case atStart => exact ⟨len, n, Nat.le_refl _, by go_num, rfl, by rw [← HL.out, List.drop_length]; rfl, by rw [← HL.out, List.drop_length, List.take_length, ends, List.append_nil]; rw [HL.out]; exact HO.out, Chg.refl _ _⟩
    case round =>
      obtain ⟨i, a, hi, rfl, rfl, HA, HR, HC⟩ := hrel
      cases i with
      | zero =>
        have hR := HR.out
        rw [List.take_zero, List.drop_zero, List.nil_append] at hR
        have HR2 := Lib.hid hR
        clear hR
        go_wp2
        exact bodyPost_end (results_none rfl _ _ _) rfl ⟨rfl, HR2.out, HC.out⟩
      | succ j =>
        rw [show (((j + 1 : Nat) : Int) - 1) = (j : Int) by omega]
        have hjl : j < fs.length := by rw [HL.out]; omega
        have hR := HR.out
        obtain ⟨p1, p2⟩ := part_split n fs j hjl
        rw [p1] at hR
        obtain ⟨f, hf⟩ : ∃ f, f = fs[j] := ⟨_, rfl⟩
        rw [← hf] at hR p2
        obtain ⟨k, fa, fb, fe⟩ := f
        have htl : (fs.take j).length = j := by rw [List.length_take]; omega
        have hst := (hR.stored (j * 4 + 3) (.int .i64 (a : Nat))).1
        have hset := end_set (fs.take j) (ends n (fs.drop (j + 1))) k fa fb fe a
        rw [htl] at hset
        rw [hset, show a = hA n (fs.drop (j + 1)) from HA.out, ← p2] at hst
        rw [← HA.out] at hst
        have hcell : ∀ (W : World) (e : Nat), W.ownsRow B 28 4 (.slice (some ⟨g, 0, none⟩) len cap) len ((fs.take j ++ ⟨k, fa, fb, e⟩ :: ends n (fs.drop (j + 1))).flatMap Fd.cells) → ∀ q, q < 4 → W.cell? ⟨g, j * 4 + q, none⟩ = (Fd.cells ⟨k, fa, fb, e⟩)[q]? := fun W e h q hq => by
          rw [World.ownsRow.cellAt h (j * 4 + q) (by omega), fdflat_at _ j (by simp; omega) q hq, List.getElem_append_right (by omega)]
          simp [htl]
        have z3 : wr.cell? ⟨g, j * 4 + 3, none⟩ = some (.int .i64 (fe : Nat)) := hcell wr fe hR 3 (by decide)
        have zf : wr.frozen? ⟨g, j * 4 + 3, none⟩ = false := hR.frozenAt _
        have z1 : (wr.setCell ⟨g, j * 4 + 3, none⟩ (.int .i64 (a : Nat))).cell? ⟨g, j * 4 + 1, none⟩ = some (.int .i64 (fa : Nat)) := hcell _ a (by rw [p2, ← HA.out] at hst; exact hst) 1 (by decide)
        have HST := Lib.hid hst
        have HFA : Hid (fa = hA n (fs.drop j)) := by show _ = _; rw [List.drop_eq_getElem_cons hjl, ← hf]; rfl
        have HC2 : Hid (Chg (fun k => some g = some k) w (wr.setCell ⟨g, j * 4 + 3, none⟩ (.int .i64 (a : Nat)))) := Chg.setCell (p := ⟨g, j * 4 + 3, none⟩) HC.out rfl _
        clear hR p1 p2 hf htl hst hset hcell hjl HA HR HC
        go_wp2
        go_roundw
        case rel => exact ⟨j, fa, by omega, by go_num, rfl, HFA.out, HST.out, HC2.out⟩
        case measure => simp [intOf]
end Go.Proofs.Ytdaaapingaebkaa
