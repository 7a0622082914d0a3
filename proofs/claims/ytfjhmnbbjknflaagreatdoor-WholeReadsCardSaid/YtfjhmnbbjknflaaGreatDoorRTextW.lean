import Derived.Test.YtfjhmnbbjknflaaGreatDoorRw
import Derived.Test.YtfjhmnbbjknflaaGreatDoorWa
import Derived.Test.YtfjhmnbbjknflaaGreatDoorRa
namespace Go.Proofs.YtfjhmnbbjknflaaGreatDoor
open Go.RowKit

set_option maxHeartbeats 1000000 in
set_option maxRecDepth 100000 in
theorem r2digits_any (n : Bool) (a : Option Addr) (la ca : Nat) (xs : List Nat) (w : World) (hla : xs.length = la) (hba : la ≤ 4096) (hra : Rd .u64 w a xs) (bx : Bd xs) (hlim : val xs < LIM) :
    Calls Tryz.prog 80 #[.agg #[.bool n, .slice a la ca]] w fun e w' => (∃ l, IsDec l (val xs) ∧ e = .returned (.string ⟨(if wv n xs < 0 then 45 :: l else l).toArray⟩)) ∧ Below w.heap.size w w' := by
  have HBX := Lib.hid bx
  have HA := Lib.hid (fun (W : World) (h : Below w.heap.size w W) => hra.below h)
  clear hra bx
  obtain ⟨Z, hZ⟩ : ∃ Z, wv n xs = Z := ⟨_, rfl⟩
  rw [hZ]
  have HZE := Lib.hid hZ
  obtain ⟨s, hs⟩ : ∃ s, decide (Z < 0) = s := ⟨_, rfl⟩
  have HTX : Hid (∀ l : List UInt8, (if Z < 0 then 45 :: l else l) = (if s = true then 45 :: l else l)) := by
    intro l
    rw [← hs]
    by_cases h : Z < 0
    · rw [if_pos h, if_pos (by rw [decide_eq_true h])]
    · rw [if_neg h, if_neg (by rw [decide_eq_false h]; decide)]
  have HS := Lib.hid hs
  have HV : Hid (Z.natAbs = val xs) := by show _ = _; rw [← hZ, wv_abs]
  obtain ⟨V, hVe⟩ : ∃ V, val xs = V := ⟨_, rfl⟩
  rw [hVe] at hlim HV ⊢
  have HL := Lib.hid hlim
  obtain ⟨Q, hQ⟩ : ∃ Q : Ending → Prop, Q = fun e => ∃ l, IsDec l V ∧ e = .returned (.string ⟨(if Z < 0 then 45 :: l else l).toArray⟩) := ⟨_, rfl⟩
  have HQ : Hid (∀ l, IsDec l V → Q (.returned (.string ⟨(if s = true then 45 :: l else l).toArray⟩))) := by
    intro l hl
    rw [hQ, ← HTX.out l]
    exact ⟨l, hl, rfl⟩
  suffices hh : Calls Tryz.prog 80 #[.agg #[.bool n, .slice a la ca]] w fun e w' => Q e ∧ Below w.heap.size w w' by
    rw [hQ] at hh
    exact hh
  clear hZ hs hlim hVe hQ
  go_enter Tryz.func80, Tryz.ntmps80
  have HB0 := Lib.hid (show Below w.heap.size w (w.alloc (WO n a la ca)) from (Below.refl _ _).alloc (Nat.le_refl _) _)
  go_wp2_with fail
  refine (r2form_any n a la ca xs _ hla (by omega) (HA.out _ HB0.out) HBX.out).mono ?_
  rw [HZE.out]
  rintro e w2 ⟨hb2, a2, c2, qs, rfl, hO, hN⟩
  rw [HS.out]
  rw [HV.out] at hN
  have HB2 := Lib.hid (HB0.out.trans (hb2.mono HB0.out.size))
  obtain ⟨l2, hl2⟩ : ∃ l, qs.length = l := ⟨_, rfl⟩
  have hl3 : l2 ≤ 64 := by rw [← hl2]; exact (hN.len_le (k := 64)).2 HL.out
  have HLQ := Lib.hid hl2
  have HB3 := Lib.hid (show Below w.heap.size w (w2.alloc (.cells #[.bool s, .slice a2 l2 c2] 24)) from HB2.out.alloc HB2.out.size _)
  have HR : Hid (Rd .u64 (w2.alloc (.cells #[.bool s, .slice a2 l2 c2] 24)) a2 qs) := (own64.rd hO).2.alloc _
  have HNN := Lib.hid hN
  rw [hl2]
  clear hO hN hb2 hl2
  cases s
  · go_wp2_with fail
    refine (rdigits_any a2 l2 c2 qs _ HLQ.out (by omega) HR.out HNN.out.bd).mono ?_
    rintro e w4 ⟨hb4, l, hd, rfl⟩
    rw [HNN.out.vl] at hd
    have HP := Lib.hid (HQ.out l hd)
    have HB4 := Lib.hid (HB3.out.trans (hb4.mono HB3.out.size))
    clear hd hb4
    go_wp2
    go_ret
    exact ⟨HP.out, HB4.out⟩
  · go_wp2_with fail
    refine (rdigits_any a2 l2 c2 qs _ HLQ.out (by omega) HR.out HNN.out.bd).mono ?_
    rintro e w4 ⟨hb4, l, hd, rfl⟩
    rw [HNN.out.vl] at hd
    have hlen : l.length ≤ 2467 := hd.len_le (Nat.lt_of_lt_of_le HL.out lim_lt)
    have HP := Lib.hid (HQ.out l hd)
    have HB4 := Lib.hid (HB3.out.trans (hb4.mono HB3.out.size))
    have hadd : ∀ w, (Op.stringOp .add ⟨#[45]⟩ ⟨l.toArray⟩).run Tryz.prog w = .ok (.string ⟨(45 :: l).toArray⟩) w := fun w => run_string_add_lists w [45] l (by decide) (by omega)
    clear hd hb4
    go_wp2
    go_ret
    exact ⟨HP.out, HB4.out⟩

set_option maxHeartbeats 1000000 in
theorem r2text_any (n : Bool) (a : Option Addr) (la ca : Nat) (xs : List Nat) (w : World) (hla : xs.length = la) (hba : la ≤ 4096) (hra : Rd .u64 w a xs) (bx : Bd xs) :
    Calls Tryz.prog 38 #[.agg #[.bool n, .slice a la ca]] w (WText n xs w) := by
  have HBX := Lib.hid bx
  have HA := Lib.hid (fun (W : World) (h : Below w.heap.size w W) => hra.below h)
  clear hra bx
  go_enter Tryz.func38, Tryz.ntmps38
  have HB0 := Lib.hid (show Below w.heap.size w (w.alloc (WO n a la ca)) from (Below.refl _ _).alloc (Nat.le_refl _) _)
  have hx0 := Lib.hid (heap_new w (WO n a la ca))
  go_wp2_with fail
  refine (r2fits_any n a la ca xs _ hla (by omega) (HA.out _ HB0.out) HBX.out).mono ?_
  rintro e w2 ⟨rfl, hb2⟩
  have HBB : Hid (w2.heap[w.heap.size]? = some (WO n a la ca)) := by show _ = _; rw [hb2.block _ (lt_of_block hx0.out)]; exact hx0.out
  have HB2 := Lib.hid (HB0.out.trans (hb2.mono HB0.out.size))
  clear hb2
  by_cases hf : val xs < LIM
  · rw [decide_eq_true hf]
    have HF := Lib.hid hf
    clear hf
    obtain ⟨c0, c1, -, -⟩ := wo_cells HBB.out
    go_wp2_with fail
    clear c0 c1
    refine (r2digits_any n a la ca xs _ hla hba (HA.out _ HB2.out) HBX.out HF.out).mono ?_
    rintro e w3 ⟨⟨l, hd, rfl⟩, hb3⟩
    obtain ⟨t, ht⟩ : ∃ t, (if wv n xs < 0 then 45 :: l else l) = t := ⟨_, rfl⟩
    rw [ht]
    have HP := Lib.hid (show WText n xs w (.returned (.tuple #[.string ⟨t.toArray⟩, .int .i64 0])) w3 from ⟨HB2.out.trans (hb3.mono HB2.out.size), .inr ⟨HF.out, l, hd, by rw [ht]⟩⟩)
    clear hd hb3 ht
    go_wp2
    go_ret2
    exact HP.out
  · rw [decide_eq_false hf]
    have HP := Lib.hid (show WText n xs w (.returned (.tuple #[.string ⟨#[]⟩, .int .i64 3])) w2 from ⟨HB2.out, .inl ⟨Nat.le_of_not_lt hf, rfl⟩⟩)
    clear hf
    go_wp2
    go_ret2
    exact HP.out
end Go.Proofs.YtfjhmnbbjknflaaGreatDoor
