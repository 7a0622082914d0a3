import Derived.Test.YtdaaapingaebkaaFdI
import Derived.Test.YtdaaapingaebkaaFdT
namespace Go.Proofs.Ytdaaapingaebkaa
open Go.RowKit

/-! fields: Find, Signed. -/
theorem walk_code {l : List Nat} : ∀ (n i : Nat) (fs : List Fd) (j c : Nat), l.length - i ≤ n → walk l i fs = .bad j c → c ≠ 0
  | n, i, fs, j, c, hn, hw => by
    by_cases hi : i < l.length
    · obtain ⟨l1, l2, l3⟩ := line_next hi
      cases n with
      | zero => omega
      | succ n =>
        cases hg : goesB (at0 l i) with
        | true =>
          rw [walk_goes hi hg] at hw
          exact walk_code n _ fs j c (by omega) hw
        | false =>
          cases hb : begL l i with
          | none => rw [walk_none hi hg hb] at hw; injection hw with _ h; rw [← h]; decide
          | some f =>
            rw [walk_some hi hg hb] at hw
            by_cases ho : ordK fs f.k = 0
            · rw [if_pos ho] at hw
              exact walk_code n _ _ j c (by omega) hw
            · rw [if_neg ho] at hw
              injection hw with _ h
              rw [← h]
              exact ho
    · rw [walk_end (by omega)] at hw
      by_cases h2 : hasK 2 fs = true
      · rw [if_pos h2] at hw; cases hw
      · rw [if_neg h2] at hw; injection hw with _ h; rw [← h]; decide
theorem split_code {l : List Nat} {n j c : Nat} (h : (splitR l).fin n = .bad j c) : c ≠ 0 := by
  unfold splitR at h
  by_cases hb : 65536 < l.length
  · rw [if_pos hb] at h; injection h with _ h; rw [← h]; decide
  · rw [if_neg hb] at h
    cases hx : badB l with
    | some i => rw [hx] at h; injection h with _ h; rw [← h]; decide
    | none =>
      rw [hx] at h
      simp only at h
      by_cases hg : (l.isEmpty || goesB (at0 l 0)) = true
      · rw [if_pos hg] at h; injection h with _ h; rw [← h]; decide
      · rw [if_neg hg] at h
        cases hw : walk l 0 [] with
        | bad i c2 =>
          rw [hw] at h
          injection h with _ h
          rw [← h]
          exact walk_code l.length 0 [] i c2 (by omega) hw
        | ok fs => rw [hw] at h; cases h
/-- What Find tells. -/
def findV (s : ByteArray) (r : Res) (k : Nat) : ByteArray × Bool × Nat :=
  if k = 0 ∨ 7 < k then (⟨#[]⟩, false, 2) else match r.pick k with
    | some f => (s.extract f.b f.e, true, 0)
    | none => (⟨#[]⟩, false, r.code)
/-- What Signed tells. -/
def signL (s : ByteArray) (o : Option Fd) : ByteArray × Nat :=
  match o with
  | some f => (s.extract 0 f.a, 0)
  | none => (⟨#[]⟩, 134)
def signV (s : ByteArray) : Res → ByteArray × Nat
  | .bad _ c => (⟨#[]⟩, c)
  | .ok fs => signL s (fs.find? fun f => decide (f.k = 7))
theorem Res.pick_mem {r : Res} {k : Nat} {f : Fd} (h : r.pick k = some f) : ∃ fs, r = .ok fs ∧ f ∈ fs ∧ f.k = k := by
  cases r with
  | bad i c => cases h
  | ok fs =>
    refine ⟨fs, rfl, List.mem_of_find?_eq_some h, ?_⟩
    have := List.find?_some h
    simpa using this
theorem pick_tile {s : ByteArray} {n k : Nat} {r : Res} {f : Fd} (hn : s.size = n) (hr : (splitR (bsN s)).fin n = r) (h : r.pick k = some f) : f.a < f.b ∧ f.b ≤ f.e ∧ f.e ≤ n ∧ n ≤ 65536 := by
  obtain ⟨fs, rfl, hm, _⟩ := Res.pick_mem h
  have hl : (bsN s).length = n := by rw [bsN_len, hn]
  rw [← hl] at hr
  obtain ⟨ht, h6, _⟩ := split_tile hr
  have := ht.mem hm
  rw [hl] at this h6
  exact ⟨this.1, this.2.1, this.2.2, h6⟩
theorem nameS_nil (k : Nat) : ((nameS k).toList == []) = decide (k = 0 ∨ 7 < k) := by
  rw [beq_lit]
  by_cases h : k = 0 ∨ 7 < k
  · rw [decide_eq_true h]
    refine decide_eq_true ?_
    have : nameN k = [] := by
      unfold nameN
      split <;> first | omega | rfl
    rw [nameS, this]
    rfl
  · rw [decide_eq_false h]
    refine decide_eq_false fun e => ?_
    rw [bsN_nameS (by omega)] at e
    have : ∀ k, k < 8 → 1 ≤ k → nameN k ≠ [] := by decide
    exact this k (by omega) (by omega) e
set_option maxHeartbeats 1000000 in
set_option maxRecDepth 100000 in
theorem f_Find (s : ByteArray) (n k : Nat) (w : World) (hn : s.size = n) (r : Res) (hr : (splitR (bsN s)).fin n = r) (t : ByteArray) (b : Bool) (c : Nat) (hv : findV s r k = (t, b, c)) :
    Calls Try.prog 16 #[.string s, .int .u8 (k : Nat)] w fun e w' => e = .returned (.tuple #[.string t, .bool b, .int .i64 (c : Nat)]) ∧ Below w.heap.size w w' := by
  have HN := Lib.hid (fun W => f_nameOf k W)
  have hnil := nameS_nil k
  unfold findV at hv
  by_cases hk : k = 0 ∨ 7 < k
  · rw [if_pos hk] at hv
    injection hv with e1 e2
    injection e2 with e2 e3
    subst e1 e2 e3
    rw [decide_eq_true hk] at hnil
    clear hr hk
    go_enter Try.func16, Try.ntmps16
    go_wp2_with (go_at_call 33; refine (HN.out _).mono ?_; rintro e w1 ⟨rfl, rfl⟩)
    go_ret3
    exact ⟨rfl, Below.refl _ _⟩
  · rw [if_neg hk] at hv
    rw [decide_eq_false hk] at hnil
    have HF := Lib.hid (fun W => f_find s n k W hn r hr)
    have HV := Lib.hid hv
    have HR := Lib.hid hr
    clear hr hk hv
    go_enter Try.func16, Try.ntmps16
    go_wp2_with (go_at_call 33; refine (HN.out _).mono ?_; rintro e w1 ⟨rfl, rfl⟩)
    refine (HF.out _).mono ?_
    rintro e w1 ⟨⟨kk, fa, fb, fe, hp, rfl⟩ | ⟨hp, rfl⟩, hb⟩
    · obtain ⟨t1, t2, t3, t4⟩ := pick_tile hn HR.out hp
      have hv := HV.out
      rw [hp] at hv
      injection hv with e1 e2
      injection e2 with e2 e3
      subst e2 e3
      have e1' : s.extract fb fe = t := e1
      have HE1 := Lib.hid e1'
      have hts : t.size ≤ 281474976710656 := by
        rw [← e1', ByteArray.size_extract]
        have : fe ≤ n := t3
        omega
      have HT := Lib.hid hts
      have c1 : (0 : Int) ≤ (fb : Int) := by omega
      have c2 : (fb : Int) ≤ (fe : Int) := Int.ofNat_le.2 t2
      have c3 : (fe : Int) ≤ (n : Int) := Int.ofNat_le.2 t3
      have HB := Lib.hid hb
      clear hp t1 t2 t3 t4 e1 e1' hts hb
      go_wp2_with fail
      rw [HE1.out]
      refine (f_clone t _ HT.out).mono ?_
      rintro e w2 ⟨rfl, hb2⟩
      go_wp2
      go_ret3
      exact ⟨rfl, bel_next (bel_alloc HB.out _) hb2⟩
    · have hv := HV.out
      rw [hp] at hv
      injection hv with e1 e2
      injection e2 with e2 e3
      subst e1 e2 e3
      have HB := Lib.hid hb
      clear hp hb
      go_wp2_with fail
      refine (f_clone ByteArray.empty _ (by decide)).mono ?_
      rintro e w2 ⟨rfl, hb2⟩
      go_wp2
      go_ret3
      exact ⟨rfl, bel_next (bel_alloc HB.out _) hb2⟩
set_option maxHeartbeats 1000000 in
set_option maxRecDepth 100000 in
theorem f_Signed (s : ByteArray) (n : Nat) (w : World) (hn : s.size = n) (r : Res) (hr : (splitR (bsN s)).fin n = r) (t : ByteArray) (c : Nat) (hv : signV s r = (t, c)) :
    Calls Try.prog 18 #[.string s] w fun e w' => e = .returned (.tuple #[.string t, .int .i64 (c : Nat)]) ∧ Below w.heap.size w w' := by
  have HF := Lib.hid (fun W => f_find s n 7 W hn r hr)
  have HV := Lib.hid hv
  have HR := Lib.hid hr
  clear hr hv
  go_enter Try.func18, Try.ntmps18
  go_wp2_with fail
  refine (HF.out _).mono ?_
  rintro e w1 ⟨⟨kk, fa, fb, fe, hp, rfl⟩ | ⟨hp, rfl⟩, hb⟩
  · obtain ⟨t1, t2, t3, t4⟩ := pick_tile hn HR.out hp
    have hv := HV.out
    cases r with
    | bad i c2 => cases hp
    | ok fs =>
      have hp2 : fs.find? (fun f => decide (f.k = 7)) = some ⟨kk, fa, fb, fe⟩ := hp
      replace hv : signL s (fs.find? fun f => decide (f.k = 7)) = (t, c) := hv
      rw [hp2] at hv
      injection hv with e1 e2
      subst e2
      have e1' : s.extract 0 fa = t := e1
      have HE1 := Lib.hid e1'
      have hfa : fa ≤ n := by
        have h1 : fa < fb := t1
        have h2 : fb ≤ fe := t2
        have h3 : fe ≤ n := t3
        omega
      have hts : t.size ≤ 281474976710656 := by rw [← e1', ByteArray.size_extract]; omega
      have HT := Lib.hid hts
      have c1 : (0 : Int) ≤ (fa : Int) := by omega
      have c3 : (fa : Int) ≤ (n : Int) := by omega
      have HB := Lib.hid hb
      clear hp hp2 t1 t2 t3 t4 e1 e1' hts hb hfa
      go_wp2_with fail
      rw [HE1.out]
      refine (f_clone t _ HT.out).mono ?_
      rintro e w2 ⟨rfl, hb2⟩
      go_wp2
      go_ret2
      exact ⟨rfl, bel_next (bel_alloc HB.out _) hb2⟩
  · have hv := HV.out
    cases r with
    | bad i c2 =>
      have hc := split_code HR.out
      injection hv with e1 e2
      subst e1 e2
      have hc2 : ((c2 : Int) == 0) = false := by simp; omega
      have HB := Lib.hid hb
      clear hp hc hb
      simp only [Res.code]
      go_wp2
      go_ret2
      exact ⟨rfl, bel_alloc HB.out _⟩
    | ok fs =>
      have hp2 : fs.find? (fun f => decide (f.k = 7)) = none := hp
      replace hv : signL s (fs.find? fun f => decide (f.k = 7)) = (t, c) := hv
      rw [hp2] at hv
      injection hv with e1 e2
      subst e1 e2
      have HB := Lib.hid hb
      clear hp hp2 hb
      simp only [Res.code]
      go_wp2
      go_ret2
      exact ⟨rfl, bel_alloc HB.out _⟩
end Go.Proofs.Ytdaaapingaebkaa
