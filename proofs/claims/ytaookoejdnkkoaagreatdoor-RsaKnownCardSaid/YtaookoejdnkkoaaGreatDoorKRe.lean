import Derived.Test.YtaookoejdnkkoaaGreatDoorKRa
namespace Go.Proofs.YtaookoejdnkkoaaGreatDoor
open Go.RowKit

set_option maxHeartbeats 1000000 in
theorem rcmpW_any (a b : Option Addr) (la ca lb cb : Nat) (xs ys : List Nat) (w : World) (hla : xs.length = la) (hlb : ys.length = lb) (hba : la ≤ 1048576) (hbb : lb ≤ 1048576) (hra : Rd .u64 w a xs) (hrb : Rd .u64 w b ys) (bx : Bd xs) (bY : Bd ys) :
    Calls Tryz.prog 97 #[.slice a la ca, .slice b lb cb] w fun e w' => e = .returned (.int .i64 (cmpI (val xs) (val ys))) ∧ Below w.heap.size w w' := by
  go_enter Tryz.func97, Tryz.ntmps97
  go_wp2_with fail
  refine (halves_any a la ca xs _ hla hba hra bx).mono ?_
  rintro e w1 ⟨v, ps, rfl, hown, hnum, hb1⟩
  obtain ⟨a1, c1, rfl, hr1⟩ := own64.form hown
  have hlen1 : ps.length ≤ 2 * la := by
    have h2 := val_lt bx
    rw [hla, ← pow_pair] at h2
    exact (hnum.len_le (k := 2 * la)).2 h2
  have HR1 := Lib.hid hr1
  have HRB := Lib.hid (hrb.below hb1)
  have HN1 := Lib.hid hnum
  have HB1 := Lib.hid hb1
  clear hown hra hrb hr1 hnum hb1
  obtain ⟨lp, hlp⟩ : ∃ l, ps.length = l := ⟨_, rfl⟩
  rw [hlp] at hlen1 ⊢
  have HLP := Lib.hid hlp
  clear hlp
  go_wp2_with fail
  refine (halves_any b lb cb ys _ hlb hbb HRB.out bY).mono ?_
  rintro e w2 ⟨v, qs, rfl, hown, hnum, hb2⟩
  obtain ⟨a2, c2, rfl, hr2⟩ := own64.form hown
  have hlen2 : qs.length ≤ 2 * lb := by
    have h2 := val_lt bY
    rw [hlb, ← pow_pair] at h2
    exact (hnum.len_le (k := 2 * lb)).2 h2
  have HRP := Lib.hid (HR1.out.below hb2)
  have HRQ := Lib.hid hr2
  have HN2 := Lib.hid hnum
  have HB2 := Lib.hid (HB1.out.trans (hb2.mono HB1.out.size))
  clear hown hnum hb2 hr2 HR1 HRB HB1 hla hlb bx bY
  obtain ⟨lq, hlq⟩ : ∃ l, qs.length = l := ⟨_, rfl⟩
  rw [hlq] at hlen2 ⊢
  have HLQ := Lib.hid hlq
  clear hlq
  go_wp2_with fail
  refine (rcompare_any a1 a2 lp lq c1 c2 (val xs) (val ys) ps qs _ HLP.out HLQ.out (by omega) (by omega) HRP.out HRQ.out HN1.out HN2.out).mono ?_
  rintro e w3 hp
  obtain ⟨rfl, n3, rfl⟩ := hp
  have HB3 := Lib.hid (Below.drewM HB2.out n3)
  obtain ⟨z, hz⟩ : ∃ z, cmpI (val xs) (val ys) = z := ⟨_, rfl⟩
  rw [hz]
  have HZ := Lib.hid hz
  clear hz
  go_wp2
  go_ret
  exact ⟨by rw [HZ.out]; rfl, HB3.out⟩
end Go.Proofs.YtaookoejdnkkoaaGreatDoor
