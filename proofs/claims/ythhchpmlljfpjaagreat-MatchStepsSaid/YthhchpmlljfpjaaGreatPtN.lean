import Derived.Test.YthhchpmlljfpjaaGreatPtJ
import Derived.Test.YthhchpmlljfpjaaGreatPtM
namespace Go.Proofs.YthhchpmlljfpjaaGreat
open Go.RowKit

/-! Items and brackets. -/
@[reducible] def Z4 : Obj := .cells #[.int .u64 0, .int .u64 0, .int .u64 0, .int .u64 0] 39
theorem Gl.drewN {w : World} (h : Gl w) (n : Nat) : Gl (w.drewN n) := h
theorem SetRet.fit {s : S4} {w : World} {e : Ending} {w' : World} (h : SetRet s w e w') (hs : s.fit) : ∃ S : S4, e = .returned S.val ∧ Hid (S = s) ∧ S.fit ∧ Below w.heap.size w w' := by
  obtain ⟨S, h1, h2, h3⟩ := h
  exact ⟨S, h1, h2, by rw [h2.out]; exact hs, h3⟩
theorem RS.four {w0 w : World} {rb : Nat} {s : ByteArray} {i o : Nat} (h : RS w0 w rb s i o) {g : Nat} (hg : w0.heap.size ≤ g) (hne : g ≠ rb) (a b c d : Value) : RS w0 ((((w.setCell ⟨g, 0, none⟩ a).setCell ⟨g, 1, none⟩ b).setCell ⟨g, 2, none⟩ c).setCell ⟨g, 3, none⟩ d) rb s i o :=
  (((h.other hg hne 0 a).other hg hne 1 b).other hg hne 2 c).other hg hne 3 d
set_option maxHeartbeats 1000000 in
set_option maxRecDepth 100000 in
theorem p_item (rb : Nat) (s : ByteArray) (i o : Nat) (w : World) (n : Nat) (hn : s.size = n) (hbig : n ≤ 1099511627776) (hn32 : n < 4294967281) (hi : i ≤ n) (hg : Gl w) (hrb : 0 < rb) (hr : RB w rb s i o) :
    Calls Tryz.prog 116 #[.pointer (some ⟨rb, 0, none⟩)] w fun e w' => ItemRet rb s i o n (item ((bsN s).drop i)) w e w' := by
  have hrl := CB.lt hr
  have hne : w.heap.size ≠ rb := by omega
  have hl : (bsN s).length = n := by rw [bsN_len, hn]
  have hr1 : RB (w.alloc Z4) rb s i o := CB.alloc hr _
  have HG : Hid (Gl (w.alloc Z4)) := hg.below ((Below.refl _ _).alloc (Nat.le_refl _) _)
  have HZ : Hid (CB (w.alloc Z4) 39 w.heap.size S4.zero.cells) := CB.new w 39 S4.zero.cells
  have HS0 := Lib.hid ((RS.refl hr).alloc Z4)
  obtain ⟨t, ht⟩ : ∃ t, (bsN s).drop i = t := ⟨_, rfl⟩
  obtain ⟨b, hb⟩ : ∃ b, [91, 58].isPrefixOf t = b := ⟨_, rfl⟩
  have hp : Hid ((bsN ⟨#[91, 58]⟩).isPrefixOf ((bsN s).drop i) = b) := by show _ = _; rw [ht]; exact hb
  rw [ht]
  cases b
  · have h1 : ∀ u, t ≠ 91 :: 58 :: u := fun u e => by rw [e, pre2.2 ⟨u, rfl⟩] at hb; cases hb
    rw [← ht] at h1 ⊢
    have H1 := Lib.hid h1
    clear ht hb h1 hl
    go_enter Tryz.func116, Tryz.ntmps116
    go_wp2_with (first | (go_at_call 59; (with_reducible refine (p_takes_no rb s _ i o _ n hn hi hp.out hr1).mono ?_); rintro e w1 ⟨rfl, hs⟩; have HZ1 := Lib.hid (CB.chg HZ.out hs.chg hne)) | (go_at_call 127; (with_reducible refine (p_ends rb s i o _ n hn hbig hi H1.out hs.box).mono ?_); rintro e w2 ⟨j, x, y, k, hs2, hj, hjn, hx, hy, rfl, hk⟩; have HK := Lib.hid hk; clear hk; have HZ2 := Lib.hid (CB.chg HZ1.out hs2.chg hne); have hz := CB.four HZ2.out) | (go_at_call 119; (with_reducible refine (p_span x y _).mono ?_); rintro e w3 ⟨S, rfl, hS, hb3⟩; have HZ3 := Lib.hid (CB.below HZ2.out hb3); have hz3 := CB.four HZ3.out))
    · have hk0 : k ≠ 0 := by simpa using (by assumption : (k != 0) = true)
      refine bodyPost_ret (results_cbD rfl rfl rfl (CB.set4 HZ2.out _ _ _ _) Tryz.underlying39 infoSet) rfl ?_
      exact ⟨j, .zero, k, RS.four ((HS0.out.trans hs).trans hs2) (Nat.le_refl _) hne _ _ _ _, hj, hjn, S4.zero_fit, rfl, .inr ⟨hk0, (HK.out.resolve_left fun h => hk0 h.1).2⟩⟩
    · have hk0 : k = 0 := by simpa using (by assumption : (k != 0) = false)
      have h2 := HK.out.resolve_right fun h => h.1 hk0
      refine bodyPost_ret (results_cbD rfl rfl rfl (CB.set4 HZ3.out _ _ _ _) Tryz.underlying39 infoSet) rfl ?_
      exact ⟨j, S, 0, RS.four (((HS0.out.trans hs).trans hs2).below hb3) (Nat.le_refl _) hne _ _ _ _, hj, hjn, by rw [hS.out]; exact S4.of_fit _, rfl, .inl ⟨rfl, h2.2.1, by rw [hS.out]; exact h2.2.2⟩⟩
  · obtain ⟨u, rfl⟩ := pre2.1 hb
    obtain ⟨g1, _, g3⟩ := drop_cons ht
    obtain ⟨k1, _, k3⟩ := drop_cons g3
    have hi2 : i + 2 ≤ n := by omega
    rw [item_cls, ← k3]
    clear ht hb g3 k3 g1 k1 hl
    go_enter Tryz.func116, Tryz.ntmps116
    go_wp2_with (first | (go_at_call 59; (with_reducible refine (p_takes_yes rb s _ i o _ n 2 hn hbig hi2 rfl hp.out hr1).mono ?_); rintro e w1 ⟨rfl, hs⟩; have HG1 := Lib.hid (HG.out.chg hs.chg hrb); have HZ1 := Lib.hid (CB.chg HZ.out hs.chg hne)) | (go_at_call 126; (with_reducible refine (p_class rb s (i + 2) o _ n hn hbig hn32 hi2 HG1.out hrb hs.box).mono ?_); rintro e w2 ⟨j, S, k, hs2, hj, hjn, hS, rfl, hk⟩; have HK := Lib.hid hk; clear hk; have HZ2 := Lib.hid (CB.chg HZ1.out hs2.chg hne); have hz := CB.four HZ2.out))
    refine bodyPost_ret (results_cbD rfl rfl rfl (CB.set4 HZ2.out _ _ _ _) Tryz.underlying39 infoSet) rfl ?_
    exact ⟨j, S, k, RS.four ((HS0.out.trans hs).trans hs2) (Nat.le_refl _) hne _ _ _ _, by omega, hjn, hS, rfl, HK.out.imp (fun h => ⟨h.1, by omega, h.2.2⟩) id⟩
end Go.Proofs.YthhchpmlljfpjaaGreat
