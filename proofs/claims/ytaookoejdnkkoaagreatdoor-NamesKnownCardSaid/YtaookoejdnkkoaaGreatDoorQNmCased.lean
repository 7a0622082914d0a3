import Derived.Test.YtaookoejdnkkoaaGreatDoorQ15
import Derived.Test.YtaookoejdnkkoaaGreatDoorQ09
namespace Go.Proofs.YtaookoejdnkkoaaGreatDoor
open Go.RowKit

/-! Letters that may be great. -/
set_option maxHeartbeats 1000000 in
set_option maxRecDepth 100000 in
theorem cased_any (s : ByteArray) (n x : Nat) (w : World) (hn : s.size = n) (hbig : n ≤ 1099511627776) :
    Calls Tryz.prog 102 #[.string s, .int .u64 (x : Nat)] w fun e w' => (∃ r, Cs (bsN s) r ∧ e = .returned (.string (strN r))) ∧ Below w.heap.size w w' := by
  obtain ⟨l, hl⟩ : ∃ l, l = bsN s := ⟨_, rfl⟩
  have hll : l.length = n := by rw [hl, bsN_len, hn]
  have h8 : B8 l := by rw [hl]; exact bsN_8 s
  have HLS := Lib.hid hl
  rw [← hl]
  have HL := Lib.hid hll
  have H8 := Lib.hid h8
  clear hl hll h8
  go_enter Tryz.func102, Tryz.ntmps102
  go_wp2
  go_loopw [5, 6] (fun ov iv wr => ∃ (i : Nat) (r : List Nat), i ≤ n ∧ iv = .int .i64 (i : Nat) ∧ Hid (Cs (l.take i) r) ∧ Hid (wr.ownsRow w.heap.size 5 1 ov i (u8s r)) ∧ Hid (Below w.heap.size w wr)) (fun _ iv _ => n - (intOf iv).toNat)
  case atStart => exact ⟨0, [], Nat.zero_le _, rfl, trivial, World.ownsRow_nil _ _ _ _, Below.refl _ _⟩
  case round =>
    obtain ⟨i, r, hi, rfl, HC, HO, HB⟩ := hrel
    by_cases hin : i < n
    · obtain ⟨c, hc⟩ : ∃ c, c = at0 l i := ⟨_, rfl⟩
      have hil : i < l.length := by rw [HL.out]; exact hin
      have hc8 : c < 256 := by rw [hc]; exact H8.out.at0 _
      have x1 : ∀ W, (Instr.index 9 (.string s) (.int .i64 (i : Int))).run Tryz.prog W = .ok (.int .u8 (c : Nat)) W := idx_str 9 Tryz.underlying9 s i c (by omega) (by rw [← HLS.out, hc])
      have HT : Hid (l.take (i + 1) = l.take i ++ [c]) := by show _ = _; rw [take_succ_at0 hil, hc]
      obtain ⟨k, hk⟩ : ∃ k, k = i % 64 := ⟨_, rfl⟩
      have hk64 : k < 64 := by omega
      have e4 : (i : Int) % 64 = (k : Int) := by omega
      have e5 : (i : Int).tmod 64 = (k : Int) := by rw [Int.tmod_eq_emod_of_nonneg (by omega)]; exact e4
      have HK := Lib.hid hk
      have hBs := HB.out.size
      clear hc hil hk
      by_cases hup : 97 ≤ c ∧ c ≤ 122
      · obtain ⟨u1, u2⟩ := hup
        obtain ⟨v, hv⟩ : ∃ v, (((x : Int) / 2 ^ k).tmod 2 == 1) = v := ⟨_, rfl⟩
        cases v
        · go_wp2_with (at_builtin; refine wpl_app 40 5 Tryz.underlying40 info8 rfl (by decide) rfl _ _ rfl w.heap.size _ i (u8s r) rfl (HO.out.alloc _) wr.heap.size _ rfl (World.cell?_alloc_at _ _ _ _ rfl) rfl (by omega) (by simp; omega) ?_; intro g cap' w1 hown1 hg1 hBg _ _)
          have HO2 : Hid (w1.ownsRow w.heap.size 5 1 (.slice (some ⟨g, 0, none⟩) (i + 1) cap') (i + 1) (u8s (r ++ [c]))) := by show w1.ownsRow _ _ _ _ _ _; rw [show u8s (r ++ [c]) = u8s r ++ [.int .u8 (c : Nat)] by simp [u8s]]; exact hown1
          have HB2 : Hid (Below w.heap.size w w1) := (HB.out.alloc (by omega) _).grown hg1 (by simp; omega) (fun j hj => (World.ownsRow.lt HO.out j hj).1)
          have HC2 : Hid (Cs (l.take (i + 1)) (r ++ [c])) := by show Cs _ _; rw [HT.out]; exact HC.out.snoc (.inl rfl)
          clear hown1 hg1
          go_wp2
          go_roundw
          case rel => exact ⟨i + 1, r ++ [c], by omega, by go_num, HC2.out, HO2.out, HB2.out⟩
          case measure => simp [intOf]; omega
        · obtain ⟨d, hd⟩ : ∃ d, d = c - 32 := ⟨_, rfl⟩
          have e1 : IntKind.u8.wrap ((c : Int) - 97) = (c : Int) - 97 := by
            rw [show ((c : Int) - 97) = ((c - 97 : Nat) : Int) by omega]; exact wrap_u8_in (c - 97) (by omega)
          have e2 : IntKind.u8.wrap ((c : Int) - 97 + 65) = (d : Int) := by
            rw [show ((c : Int) - 97 + 65) = ((d : Nat) : Int) by omega]; exact wrap_u8_in d (by omega)
          have e3 : (c : Int) - 97 + 65 = (d : Int) := by omega
          have HD : Hid (d + 32 = c) := by show _ = _; omega
          clear hd
          go_wp2_with (at_builtin; refine wpl_app 40 5 Tryz.underlying40 info8 rfl (by decide) rfl _ _ rfl w.heap.size _ i (u8s r) rfl (HO.out.alloc _) wr.heap.size _ rfl (World.cell?_alloc_at _ _ _ _ rfl) rfl (by omega) (by simp; omega) ?_; intro g cap' w1 hown1 hg1 hBg _ _)
          have HO2 : Hid (w1.ownsRow w.heap.size 5 1 (.slice (some ⟨g, 0, none⟩) (i + 1) cap') (i + 1) (u8s (r ++ [d]))) := by show w1.ownsRow _ _ _ _ _ _; rw [show u8s (r ++ [d]) = u8s r ++ [.int .u8 (d : Nat)] by simp [u8s]]; exact hown1
          have HB2 : Hid (Below w.heap.size w w1) := (HB.out.alloc (by omega) _).grown hg1 (by simp; omega) (fun j hj => (World.ownsRow.lt HO.out j hj).1)
          have HC2 : Hid (Cs (l.take (i + 1)) (r ++ [d])) := by show Cs _ _; rw [HT.out]; exact HC.out.snoc (.inr ⟨u1, u2, HD.out⟩)
          clear hown1 hg1
          go_wp2
          go_roundw
          case rel => exact ⟨i + 1, r ++ [d], by omega, by go_num, HC2.out, HO2.out, HB2.out⟩
          case measure => simp [intOf]; omega
      · rcases (show c < 97 ∨ (97 ≤ c ∧ 122 < c) by omega) with u | ⟨u1, u2⟩
        all_goals
          clear hup
          go_wp2_with (at_builtin; refine wpl_app 40 5 Tryz.underlying40 info8 rfl (by decide) rfl _ _ rfl w.heap.size _ i (u8s r) rfl (HO.out.alloc _) wr.heap.size _ rfl (World.cell?_alloc_at _ _ _ _ rfl) rfl (by omega) (by simp; omega) ?_; intro g cap' w1 hown1 hg1 hBg _ _)
          have HO2 : Hid (w1.ownsRow w.heap.size 5 1 (.slice (some ⟨g, 0, none⟩) (i + 1) cap') (i + 1) (u8s (r ++ [c]))) := by show w1.ownsRow _ _ _ _ _ _; rw [show u8s (r ++ [c]) = u8s r ++ [.int .u8 (c : Nat)] by simp [u8s]]; exact hown1
          have HB2 : Hid (Below w.heap.size w w1) := (HB.out.alloc (by omega) _).grown hg1 (by simp; omega) (fun j hj => (World.ownsRow.lt HO.out j hj).1)
          have HC2 : Hid (Cs (l.take (i + 1)) (r ++ [c])) := by show Cs _ _; rw [HT.out]; exact HC.out.snoc (.inl rfl)
          clear hown1 hg1
          go_wp2
          go_roundw
          case rel => exact ⟨i + 1, r ++ [c], by omega, by go_num, HC2.out, HO2.out, HB2.out⟩
          case measure => simp [intOf]; omega
    · obtain rfl : i = n := by omega
      have hC := HC.out
      rw [List.take_of_length_le (by rw [HL.out]; exact Nat.le_refl _)] at hC
      have hrl : r.length = i := by rw [hC.len, HL.out]
      have ht := own_text HO.out hrl
      have HC2 := Lib.hid hC
      clear hC HO hrl
      go_wp2
      go_ret
      exact ⟨⟨r, HC2.out, rfl⟩, HB.out⟩
end Go.Proofs.YtaookoejdnkkoaaGreatDoor
