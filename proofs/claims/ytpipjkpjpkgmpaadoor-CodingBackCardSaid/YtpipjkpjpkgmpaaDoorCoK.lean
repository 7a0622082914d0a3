import Derived.Test.YtpipjkpjpkgmpaaDoorCoI
import Derived.Test.YtpipjkpjpkgmpaaDoorCoJ
import Derived.Test.YtpipjkpjpkgmpaaDoorShelf
namespace Go.Proofs.YtpipjkpjpkgmpaaDoor
open Go.RowKit

/-- One fill cut off. -/
def cut1 (l : List Nat) : List Nat := if l.getLast? = some 61 then l.dropLast else l
theorem trim_bs (s : ByteArray) : bsN ⟨(Lib.trimSuffix s.data.toList [61]).toArray⟩ = cut1 (bsN s) := by
  have h1 : bsN ⟨(Lib.trimSuffix s.data.toList [61]).toArray⟩ = (Lib.trimSuffix s.data.toList [61]).map UInt8.toNat := rfl
  have h2 : bsN s = s.data.toList.map UInt8.toNat := rfl
  rw [h1, h2]
  generalize s.data.toList = l
  unfold Lib.trimSuffix cut1
  have h3 : (l.map UInt8.toNat).getLast? = l.getLast?.map UInt8.toNat := List.getLast?_map ..
  rw [h3]
  by_cases h : Lib.hasSuffix l [61] = true
  · rw [if_pos h]
    unfold Lib.hasSuffix at h
    rw [List.isSuffixOf_iff_suffix] at h
    obtain ⟨t, rfl⟩ := h
    simp
  · rw [if_neg h]
    have : ¬ (l.getLast?.map UInt8.toNat = some 61) := fun he => h (by
      unfold Lib.hasSuffix
      rw [List.isSuffixOf_iff_suffix]
      cases hg : l.getLast? with
      | none => rw [hg] at he; simp at he
      | some c =>
        rw [hg] at he
        have hc : c.toNat = 61 := by simpa using he
        have hc2 : c = 61 := UInt8.toNat_inj.1 hc
        subst hc2
        obtain ⟨ys, rfl⟩ := List.getLast?_eq_some_iff.1 hg
        exact ⟨ys, rfl⟩)
    rw [if_neg this]
theorem cut1_unf (l : List Nat) : Unf l (cut1 (cut1 l)) := by
  have key : ∀ l : List Nat, (l.getLast? = some 61 ∧ l = cut1 l ++ [61]) ∨ (l.getLast? ≠ some 61 ∧ cut1 l = l) := fun l => by
    by_cases h : l.getLast? = some 61
    · refine .inl ⟨h, ?_⟩
      rw [cut1, if_pos h]
      obtain ⟨ys, rfl⟩ := List.getLast?_eq_some_iff.1 h
      simp
    · exact .inr ⟨h, by rw [cut1, if_neg h]⟩
  rcases key l with ⟨h1, h2⟩ | ⟨h1, h2⟩
  · rcases key (cut1 l) with ⟨h3, h4⟩ | ⟨h3, h4⟩
    · refine ⟨2, by omega, ?_, fun h => by omega⟩
      rw [show List.replicate 2 61 = [61] ++ [61] from rfl, ← List.append_assoc, ← h4, ← h2]
    · refine ⟨1, by omega, ?_, fun _ => by rw [h4]; exact h3⟩
      rw [h4]; exact h2
  · rw [h2, h2]
    exact ⟨0, by omega, by simp, fun _ => h1⟩
theorem cut1_le (l : List Nat) : (cut1 l).length ≤ l.length := by
  unfold cut1; split
  · simp
  · exact Nat.le_refl _

set_option maxHeartbeats 800000 in
theorem unfilled_any (s : ByteArray) (w : World) (hs : s.size ≤ 1099511627776) :
    Calls Tryd.prog 45 #[.string s] w fun e w' => (∃ t : ByteArray, e = .returned (.string t) ∧ Unf (bsN s) (bsN t) ∧ t.size ≤ s.size) ∧ w' = w := by
  obtain ⟨t1, ht1⟩ : ∃ t1 : ByteArray, t1 = ⟨(Lib.trimSuffix s.data.toList [61]).toArray⟩ := ⟨_, rfl⟩
  obtain ⟨t2, ht2⟩ : ∃ t2 : ByteArray, t2 = ⟨(Lib.trimSuffix t1.data.toList [61]).toArray⟩ := ⟨_, rfl⟩
  have e1 : bsN t1 = cut1 (bsN s) := by rw [ht1]; exact trim_bs s
  have e2 : bsN t2 = cut1 (bsN t1) := by rw [ht2]; exact trim_bs t1
  have hl1 : t1.size ≤ s.size := by rw [← bsN_len, ← bsN_len, e1]; exact cut1_le _
  have hl2 : t2.size ≤ t1.size := by rw [← bsN_len, ← bsN_len, e2]; exact cut1_le _
  have hu : Unf (bsN s) (bsN t2) := by rw [e2, e1]; exact cut1_unf _
  have H1 := Lib.hid ht1
  have H2 := Lib.hid ht2
  have HU := Lib.hid hu
  clear ht1 ht2 e1 e2 hu
  go_enter Tryd.func45, Tryd.ntmps45
  go_wp2_with fail
  refine (Tryd.strings_TrimSuffix s ⟨#[61]⟩ _ (by omega)).mono ?_
  rintro e w1 ⟨rfl, rfl⟩
  rw [show (⟨#[61]⟩ : ByteArray).data.toList = [61] from rfl, ← H1.out]
  go_wp2_with fail
  refine (Tryd.strings_TrimSuffix t1 ⟨#[61]⟩ _ (by omega)).mono ?_
  rintro e w1 ⟨rfl, rfl⟩
  rw [show (⟨#[61]⟩ : ByteArray).data.toList = [61] from rfl, ← H2.out]
  go_wp2
  go_ret
  exact ⟨⟨t2, rfl, HU.out, by omega⟩, rfl⟩
end Go.Proofs.YtpipjkpjpkgmpaaDoor
