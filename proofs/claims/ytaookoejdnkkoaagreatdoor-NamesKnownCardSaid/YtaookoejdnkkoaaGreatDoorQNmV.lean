import Derived.Test.YtaookoejdnkkoaaGreatDoorQ18
import Derived.Test.YtaookoejdnkkoaaGreatDoorQNmU
namespace Go.Proofs.YtaookoejdnkkoaaGreatDoor
open Go.RowKit

/-! The reference's words: Normal, Same. -/
set_option maxHeartbeats 1000000 in
set_option maxRecDepth 100000 in
theorem r9normal (s : ByteArray) (n : Nat) (w : World) (hn : s.size = n) (hbig : n ≤ 1099511627776) :
    Calls Tryz.prog 13 #[.string s] w (NormP (bsN s) w) := by
  go_enter Tryz.func13, Tryz.ntmps13
  go_wp2_with fail
  refine (r9of s n _ hn hbig).mono ?_
  rintro e w1 ⟨hb, kind, T, a1, c1, N, a2, c2, E, k, rfl, hsp, hn1, hn2, hT8, hTl, hQ⟩
  obtain ⟨nN, hnN⟩ : ∃ n, n = N.length := ⟨_, rfl⟩
  obtain ⟨nE, hnE⟩ : ∃ n, n = E.length := ⟨_, rfl⟩
  obtain ⟨TS, hTS⟩ : ∃ TS, TS = strN T := ⟨_, rfl⟩
  rw [← hnN, ← hnE, ← hTS]
  have HW := Lib.hid hb
  have HT8 := Lib.hid hT8
  have HQ := Lib.hid hQ
  have HTS := Lib.hid hTS
  clear hb hsp hn1 hn2 hT8 hQ hnN hnE hTS
  go_wp2
  rw [HTS.out]
  go_ret2
  exact ⟨HW.out.alloc HW.out.size _, T, k, kind, N, E, rfl, HT8.out, hTl, HQ.out⟩
set_option maxHeartbeats 1000000 in
set_option maxRecDepth 100000 in
theorem r9same (s t : ByteArray) (n m : Nat) (w : World) (hn : s.size = n) (hbig : n ≤ 1099511627776) (hm : t.size = m) (hbm : m ≤ 1099511627776) :
    Calls Tryz.prog 16 #[.string s, .string t] w fun e w' => (∃ v, e = .returned (.bool v) ∧ SameT (bsN s) (bsN t) v) ∧ Below w.heap.size w w' := by
  go_enter Tryz.func16, Tryz.ntmps16
  go_wp2_with fail
  refine (r9of s n _ hn hbig).mono ?_
  rintro e w1 ⟨hb, kind, T, a1, c1, N, a2, c2, E, k, rfl, -, -, -, hT8, hTl, hQ⟩
  obtain ⟨nN, hnN⟩ : ∃ n, n = N.length := ⟨_, rfl⟩
  obtain ⟨nE, hnE⟩ : ∃ n, n = E.length := ⟨_, rfl⟩
  obtain ⟨TS, hTS⟩ : ∃ TS, TS = strN T := ⟨_, rfl⟩
  rw [← hnN, ← hnE, ← hTS]
  obtain ⟨W1, hW1⟩ : ∃ W1, W1 = w1.alloc (.cells #[.int .i64 kind, .string TS, .slice a1 nN c1, .slice a2 nE c2] 27) := ⟨_, rfl⟩
  have hb2 : Below w1.heap.size w1 W1 := by rw [hW1]; exact (Below.refl _ _).alloc (Nat.le_refl _) _
  have HC : Hid (CB W1 27 w1.heap.size [.int .i64 kind, .string TS, .slice a1 nN c1, .slice a2 nE c2]) := by show CB _ _ _ _; rw [hW1]; exact CB.new _ _ _
  have HW := Lib.hid (hb.trans (hb2.mono hb.size))
  have HT8 := Lib.hid hT8
  have HQ := Lib.hid hQ
  have HTS := Lib.hid hTS
  have HWW := Lib.hid hW1
  clear hb hb2 hT8 hQ hnN hnE hTS hW1
  go_wp2_with fail
  rw [← HWW.out]
  clear HWW
  refine (r9of t m _ hm hbm).mono ?_
  rintro e w2 ⟨hb, kind', T', a3, c3, N', a4, c4, E', k', rfl, -, -, -, hT8', hTl', hQ'⟩
  obtain ⟨nN', hnN⟩ : ∃ n, n = N'.length := ⟨_, rfl⟩
  obtain ⟨nE', hnE⟩ : ∃ n, n = E'.length := ⟨_, rfl⟩
  obtain ⟨TS', hTS'⟩ : ∃ TS', TS' = strN T' := ⟨_, rfl⟩
  rw [← hnN, ← hnE, ← hTS']
  have hbeq : (TS.toList == TS'.toList) = decide (T = T') := by rw [HTS.out, hTS']; exact str_beq HT8.out hT8'
  obtain ⟨⟨y0, y1, y2, y3⟩, -⟩ := (HC.out.below hb).four
  have hlt := HC.out.lt
  have hlt2 : w1.heap.size < w2.heap.size := Nat.lt_of_lt_of_le hlt hb.size
  have HW := Lib.hid (HW.out.trans (hb.mono HW.out.size))
  have HQ' := Lib.hid hQ'
  have HB : Hid (∀ o, Below w.heap.size w (w2.alloc o)) := fun o => HW.out.alloc HW.out.size o
  clear hb hT8' hQ' hnN hnE hTS' hlt
  by_cases hk : k = 0
  · subst hk
    by_cases hk' : k' = 0
    · subst hk'
      by_cases hTT : T = T'
      · rw [decide_eq_true hTT] at hbeq
        have HE := Lib.hid hTT
        clear hTT
        go_wp2
        go_ret
        exact ⟨⟨true, rfl, .inr ⟨kind, T, N, E, 0, kind', T', N', E', HQ.out, HQ'.out, by simp [HE.out]⟩⟩, HB.out _⟩
      · rw [decide_eq_false hTT] at hbeq
        have HE := Lib.hid hTT
        clear hTT
        go_wp2
        go_ret
        exact ⟨⟨false, rfl, .inr ⟨kind, T, N, E, 0, kind', T', N', E', HQ.out, HQ'.out, by simp [HE.out]⟩⟩, HB.out _⟩
    · have hq : (k' == 0) = false := by simp [hk']
      have HE := Lib.hid hk'
      clear hk'
      go_wp2
      go_ret
      exact ⟨⟨false, rfl, .inr ⟨kind, T, N, E, k', kind', T', N', E', HQ.out, HQ'.out, by simp [HE.out]⟩⟩, HB.out _⟩
  · have hq : (k == 0) = false := by simp [hk]
    have HE := Lib.hid hk
    clear hk
    go_wp2
    go_ret
    exact ⟨⟨false, rfl, .inl ⟨k, kind, T, N, E, HQ.out, HE.out, rfl⟩⟩, HB.out _⟩
end Go.Proofs.YtaookoejdnkkoaaGreatDoor
