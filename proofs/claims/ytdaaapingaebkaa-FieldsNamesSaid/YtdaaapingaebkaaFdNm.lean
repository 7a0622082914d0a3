import Derived.Test.YtdaaapingaebkaaFdR
namespace Go.Proofs.Ytdaaapingaebkaa
open Go.RowKit

/-! FieldsNames. -/
set_option maxHeartbeats 1000000 in
set_option maxRecDepth 100000 in
theorem d_FieldsNames (s : ByteArray) (k : Nat) (hk : k < 256) (w : World) : Calls Try.prog 5 #[.string s, .int .u8 (k : Nat)] w fun e w' => e = .returned (.bool true) ∧ Below w.heap.size w w' := by
  obtain ⟨q, hq⟩ : ∃ q, kindN (bsN s) = q := ⟨_, rfl⟩
  obtain ⟨b, hb⟩ : ∃ b, decide (q ≠ 0) = b := ⟨_, rfl⟩
  have HR := Lib.hid (fun W => r_Kind s q W hq)
  have HF := Lib.hid (fun W => f_Kind s q W hq)
  rw [hb] at HR HF
  have hbb : (b == b) = true := beq_self_eq_true b
  have hnn : ((nameS k).toList == (nameS k).toList) = true := beq_self_eq_true _
  have hqq : ((q : Int) == (q : Int)) = true := beq_self_eq_true _
  clear hq hb
  go_enter Try.func5, Try.ntmps5
  go_wp2_with (first | (go_at_call 19; refine (HR.out _).mono ?_; rintro e w1 ⟨rfl, hb1⟩; have HB1 := Lib.hid hb1; clear hb1) | (go_at_call 20; refine (HF.out _).mono ?_; rintro e w2 ⟨rfl, hb2⟩; obtain ⟨m2, rfl⟩ := hb2; have HB2 := Lib.hid (bel_drewN HB1.out m2)) | (go_at_call 21; refine (f_Name k _).mono ?_; rintro e w3 ⟨rfl, hb3⟩; have HB3 := Lib.hid (bel_next HB2.out hb3); clear hb3) | (go_at_call 22; refine (r_Name k _).mono ?_; rintro e w4 ⟨rfl, rfl⟩) | (go_at_call 14; refine (f_works _).mono ?_; rintro e w5 ⟨rfl, hb5⟩; have HB5 := Lib.hid (bel_next HB3.out hb5); clear hb5))
  go_ret
  exact ⟨rfl, HB5.out⟩
end Go.Proofs.Ytdaaapingaebkaa
