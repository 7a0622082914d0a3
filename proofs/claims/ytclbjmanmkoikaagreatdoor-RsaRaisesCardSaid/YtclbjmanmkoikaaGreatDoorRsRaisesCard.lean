/- RsaRaises returns true for every key and every two rows of bytes, and they read afterwards as they did. Conditions: none beyond the row's own (the library's listed tables and the package's beginning hold what their texts lay). -/
import Derived.Test.YtclbjmanmkoikaaGreatDoorTrigT
import Derived.Test.YtclbjmanmkoikaaGreatDoorRv
import Derived.Test.YtclbjmanmkoikaaGreatDoorRsU
namespace Go.Proofs.YtclbjmanmkoikaaGreatDoor.rsaRaises
open Go.ChangeShapes Go.WideShapes Go.ChangeAt Go.RowKit

theorem lTrig {W : World} (h : laidMetH Tryz.prog Rows.rsaRaisesRow.laid W) : Trig W := by
  rw [MakeChecks.laidMetH_plain _ _ _ (by kernel_rfl)] at h
  obtain ⟨ps, h, _, _⟩ := h
  exact trig_of h (by simp [Rows.rsaRaisesRow]) (by simp [Rows.rsaRaisesRow])

theorem lFive {W : World} (h : laidMetH Tryz.prog Rows.rsaRaisesRow.laid W) : Five W := by
  rw [MakeChecks.laidMetH_plain _ _ _ (by kernel_rfl)] at h
  obtain ⟨ps, h, _, _⟩ := h
  exact five_of h (by simp [Rows.rsaRaisesRow])

set_option maxRecDepth 100000 in
theorem contract (H : Type) (enc : TypeId × Value → H) (W : World) (base : Nat) (args : Array Value) (ds gs : List (DataW H)) (before : List MemPlace)
    (hval : ∀ (j : Nat) t v, Tryz.f4.params[j]? = some t → args[j]? = some v → Value.okWide Tryz.prog W .any base t v)
    (hW : DataW.Whole enc Tryz.prog Tryz.f4.params.toList Rows.rsaRaisesSpec.vars false W args.toList ds gs before) (hL : laidMetH Tryz.prog Rows.rsaRaisesRow.laid W) :
    Calls Tryz.prog 4 args W fun e W' => ∃ v, e = .returned v ∧ Rows.rsaRaisesSpec.post enc Tryz.prog Tryz.f4 false true false false W args v W' := by
  have hW' := hW
  obtain ⟨p, q, hA0, hV, rfl, _, _⟩ := hW
  have hA : DataW.TrodAll enc Tryz.prog W 0 (fun _ => true) true Tryz.f4.params.toList args.toList ds p := hA0
  rw [Tryz.params4] at hA hval
  obtain ⟨v0, v1, v2, d0, d1, d2, p0, p1, p2, rfl, rfl, rfl, h0, h1, h2⟩ := trodAll_three hA
  obtain ⟨rfl, rfl⟩ := trodVars_none hV
  obtain ⟨a1, len1, cap1, rfl⟩ := okWide_slice Tryz.underlying27 (hval 1 27 v1 rfl rfl)
  obtain ⟨a2, len2, cap2, rfl⟩ := okWide_slice Tryz.underlying27 (hval 2 27 v2 rfl rfl)
  clear hA0
  simp only [List.append_nil] at hW'
  have hlt : ∀ x ∈ p0 ++ p1 ++ p2, x.block < W.heap.size := fun x hx => by simpa using hW'.lt x (by simpa using hx)
  have k0 := h0
  obtain ⟨aN0, lN0, cN0, Ns0, aE0, lE0, cE0, Es0, rfl, hlN0, hbN0, hcN0, hnN0, hrN0, bxN0, hlE0, hbE0, hcE0, hnE0, hrE0, bxE0⟩ := opened_key (hval 0 24 v0 rfl rfl) h0
  have k1 := h1
  obtain ⟨xs1, hl1, hcap1, hcm1, hr1, h81, hn1⟩ := opened_nums (k := .u8) Tryz.underlying27 Tryz.underlying5 cells_u8 rfl h1
  have bx1 : ∀ x ∈ xs1, x < 256 := fun x hx => by have := h81 x hx; simp [IntKind.max, IntKind.signed, IntKind.bits] at this; omega
  have hb1 : len1 ≤ 9223372036854775807 := Nat.le_trans (Nat.le_trans hcap1 hcm1) (by decide)
  have k2 := h2
  obtain ⟨xs2, hl2, hcap2, hcm2, hr2, h82, hn2⟩ := opened_nums (k := .u8) Tryz.underlying27 Tryz.underlying5 cells_u8 rfl h2
  have bx2 : ∀ x ∈ xs2, x < 256 := fun x hx => by have := h82 x hx; simp [IntKind.max, IntKind.signed, IntKind.bits] at this; omega
  have hb2 : len2 ≤ 9223372036854775807 := Nat.le_trans (Nat.le_trans hcap2 hcm2) (by decide)
  refine (rsaRaises_any (vm := .slice a1 len1 cap1) (vs := .slice a2 len2 cap2) (lTrig hL) (lFive hL) hlN0 hbN0 hcN0 hnN0 hrN0 bxN0 hlE0 hbE0 hcE0 hnE0 hrE0 bxE0 ⟨a1, cap1, by rw [hl1], by omega, hn1, hr1, bx1⟩ ⟨a2, cap2, by rw [hl2], by omega, hn2, hr2, bx2⟩ (by omega) (by omega)).mono fun e W' ⟨he, hb⟩ => ?_
  subst he
  have harg0 := Below.trod laid_out (by kernel_rfl) (of_decide_eq_true (by kernel_rfl)) k0 hb (fun x hx => hlt x ((by simp [hx])))
  have harg1 := Below.trod laid_out (by kernel_rfl) (of_decide_eq_true (by kernel_rfl)) k1 hb (fun x hx => hlt x ((by simp [hx])))
  have harg2 := Below.trod laid_out (by kernel_rfl) (of_decide_eq_true (by kernel_rfl)) k2 hb (fun x hx => hlt x ((by simp [hx])))
  exact ⟨_, rfl, _, _, _, [], _, [], hW', trodAll_mk1 (shut_bool Tryz.underlying4 _), trodAll_mk3 harg0 harg1 harg2, rfl, hb.frame _, fun h => by cases h⟩

theorem reads (os : Os) {H : Type} (enc : TypeId × Value → H) : ∃ places, DataW.whole enc Tryz.prog ((World.laidAll Tryz.prog os Rows.rsaRaisesRow.laid).forCall (fun _ _ => 0) ⟨#[], #[.agg #[.slice none 0 0, .slice none 0 0], .slice none 0 0, .slice none 0 0], []⟩).memory Tryz.f4.params.toList Rows.rsaRaisesSpec.vars false #[Value.agg #[.slice none 0 0, .slice none 0 0], .slice none 0 0, .slice none 0 0].toList 8 = some ([.agg [.nil, .nil], .nil, .nil], [], places) :=
  ⟨[], by kernel_rfl⟩

set_option maxRecDepth 100000 in
theorem lifted (os : Os) (started : os.Started) (H : Type) (enc : TypeId × Value → H) (F : Stop.Interp) :
    ReturnsInHanded {} Tryz.checked os 4 .any ((OpenSpec.ofChange Rows.rsaRaisesSpec).preRow enc Tryz.prog Tryz.f4 Rows.rsaRaisesRow.domain false Rows.rsaRaisesRow.laid) (((OpenSpec.ofChange Rows.rsaRaisesSpec).at F).post enc Tryz.prog Tryz.f4 false true false false) := by
  obtain ⟨places, hx⟩ := reads os enc
  refine returnsInHanded_of_row (C := Tryz.checked) (s := OpenSpec.ofChange Rows.rsaRaisesSpec) own_knob started (by kernel_rfl) Tryz.func4
    (witness_row_at (enc := enc) (C := Tryz.checked) false (World.laidAll Tryz.prog os Rows.rsaRaisesRow.laid) #[.agg #[.slice none 0 0, .slice none 0 0], .slice none 0 0, .slice none 0 0] rfl (by kernel_rfl) (by kernel_rfl) (by kernel_rfl)
      (OpenSpec.preRow_of_cond 8 hx (by kernel_rfl) (fun k hk => by cases hk) (by kernel_rfl) (laidMet_laidAll _ (by kernel_rfl) (by kernel_rfl)))) ?_
  intro W base args ds gs before hval hW _ _ _ hL _ _
  exact contract H enc W base args ds gs before hval hW hL

theorem said : Rows.RsaRaisesSaid :=
  OpenClaim.holds_of_cond 4 Tryz.f4 rfl rfl rfl rfl rfl rfl rfl ⟨rfl, rfl, rfl, rfl, rfl⟩ rfl rfl rfl rfl rfl (by kernel_rfl) Tryz.func4 (by kernel_rfl)
    (of_decide_eq_true (by kernel_rfl)) (by unfold Func.isWrapper; first | (rw [if_pos (by decide +kernel)]; kernel_rfl) | (rw [if_neg (by decide +kernel)]; exact ⟨rfl, rfl⟩))
    (fun os started H enc _ F => by rw [OpenClaim.pre_eq_preRow]; exact lifted os started H enc F)

theorem plain (f : FuncId) (fn : Func) (hf : Tryz.pinned.checked.prog.funcNamed "vouch/vouchlaw08.RsaRaises" = some f) (hfn : Tryz.pinned.checked.prog.funcs[f]? = some fn) :
    false = Tryz.pinned.checked.prog.looks [] ∧ ∀ (j : Nat) t, fn.params[j]? = some t → Tryz.pinned.checked.prog.wantsStandIn t = false := by
  obtain rfl : f = 4 := Option.some.inj ((show Tryz.prog.funcNamed "vouch/vouchlaw08.RsaRaises" = some 4 by kernel_rfl).symm.trans hf) |>.symm
  obtain rfl : fn = Tryz.f4 := (Option.some.inj (Tryz.func4.symm.trans hfn)).symm
  refine ⟨by kernel_rfl, fun j t ht => ?_⟩
  rw [Tryz.params4] at ht
  have hm : t ∈ [24, 27, 27] := by simpa using Array.mem_of_getElem? ht
  simp only [List.mem_cons, List.mem_nil_iff, or_false] at hm
  rcases hm with rfl | rfl | rfl
  · exact (show Tryz.prog.wantsStandIn 24 = false by kernel_rfl)
  · exact (show Tryz.prog.wantsStandIn 27 = false by kernel_rfl)
  · exact (show Tryz.prog.wantsStandIn 27 = false by kernel_rfl)

/-- THE CARD. -/
theorem card : Rows.RsaRaisesCardSaid :=
  Claim7.holds_tied_plain_at .later [] _ _ _ _ said (fun _ h => by cases h) (by kernel_rfl) (fun _ h => by cases h) rsaRaises_row_tie rfl ⟨rfl, rfl⟩ (by kernel_rfl) rfl plain (by kernel_rfl)
end Go.Proofs.YtclbjmanmkoikaaGreatDoor.rsaRaises
