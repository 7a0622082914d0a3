/- WholeBack returns true for every whole number, and it reads afterwards as it did. Conditions: none beyond the row's own (the library's and the program's listed tables hold what their texts lay). -/
import Derived.Test.YtojeimciafcgoaaDoorTabs
import Derived.Test.YtojeimciafcgoaaDoorBack
import Derived.Lib.SmallJoins
namespace Go.Proofs.YtojeimciafcgoaaDoor.wholeBack
open Go.ChangeShapes Go.WideShapes Go.ChangeAt Go.RowKit

theorem tabs {W : World} (h : laidMetH Tryd.prog Rows.wholeBackRow.laid W) : Tabs W := by
  rw [MakeChecks.laidMetH_plain _ _ _ (by kernel_rfl)] at h
  obtain ⟨ps, h, _, _⟩ := h
  obtain ⟨_, q1, h⟩ := laid_step h
  obtain ⟨_, q2, h⟩ := laid_step h
  obtain ⟨_, q3, h⟩ := laid_step h
  obtain ⟨_, q4, h⟩ := laid_step h
  obtain ⟨⟨g5, t5, cs5, f5, p5, a1, a2, a3, a4⟩, q5, h⟩ := laid_step h
  obtain ⟨⟨g6, t6, cs6, f6, p6, b1, b2, b3, b4⟩, q6, h⟩ := laid_step h
  exact tabs_of a1 a2 a3 a4 b1 b2 b3 b4
/-- A list of limbs in a number that is handed in. -/
theorem opened_limbs {H : Type} {enc : TypeId × Value → H} {W : World} {v : Value} {y : DataW H × List MemPlace} {fuel : Nat}
    (hf : DataW.trod enc Tryd.prog W 0 (fun _ => true) true fuel 22 [v] = some y) :
    ∃ (a : Option Addr) (len cap : Nat) (xs : List Nat), v = .slice a len cap ∧ xs.length = len ∧ len ≤ 9223372036854775807 ∧ Rd .u64 W a xs ∧ Bd xs := by
  have key : ∃ (a : Option Addr) (len cap : Nat), v = .slice a len cap := by
    rcases open_ints Tryd.underlying22 Tryd.underlying52 cells_u64 hf with ⟨hcs, _⟩ | ⟨a, len', cap', zs, hcs, _⟩
    · exact ⟨none, 0, 0, by simpa using hcs⟩
    · exact ⟨some a, len', cap', by simpa using hcs⟩
  obtain ⟨a, len, cap, rfl⟩ := key
  obtain ⟨xs, hl, hc, hm, hr, h8, _⟩ := opened_nums (k := .u64) Tryd.underlying22 Tryd.underlying52 cells_u64 rfl (d0 := y.1) (p := y.2) (a0 := a) (len := len) (cap := cap) ⟨fuel, hf⟩
  exact ⟨a, len, cap, xs, rfl, hl, Nat.le_trans (Nat.le_trans hc hm) (by decide), hr, fun x hx => by have := h8 x hx; simp [IntKind.max, IntKind.signed, IntKind.bits] at this; omega⟩

set_option maxRecDepth 100000 in
theorem contract (H : Type) (enc : TypeId × Value → H) (W : World) (base : Nat) (args : Array Value) (ds gs : List (DataW H)) (before : List MemPlace)
    (hval : ∀ (j : Nat) t v, Tryd.f9.params[j]? = some t → args[j]? = some v → Value.okWide Tryd.prog W .any base t v)
    (hW : DataW.Whole enc Tryd.prog Tryd.f9.params.toList Rows.wholeBackSpec.vars false W args.toList ds gs before) (hL : laidMetH Tryd.prog Rows.wholeBackRow.laid W) :
    Calls Tryd.prog 9 args W fun e W' => ∃ v, e = .returned v ∧ Rows.wholeBackSpec.post enc Tryd.prog Tryd.f9 false true false false W args v W' := by
  have hW' := hW
  obtain ⟨p, q, hA0, hV, rfl, _, _⟩ := hW
  have hA : DataW.TrodAll enc Tryd.prog W 0 (fun _ => true) true Tryd.f9.params.toList args.toList ds p := hA0
  rw [Tryd.params9] at hA hval
  obtain ⟨v0, d0, rfl, rfl, h0⟩ := trodAll_one hA
  obtain ⟨rfl, rfl⟩ := trodVars_none hV
  clear hA0
  simp only [List.append_nil] at hW'
  have hlt : ∀ x ∈ p, x.block < W.heap.size := fun x hx => by simpa using hW'.lt x hx
  have k0 := h0
  obtain ⟨u0, u1, y0, y1, n, rfl, rfl, rfl, z0, z1⟩ := Go.Joins.open_agg2 Tryd.underlying56 (by kernel_rfl) (by kernel_rfl) (hval 0 56 v0 rfl rfl) h0
  obtain ⟨b, hb0, _⟩ : ∃ b, u0 = .bool b ∧ True := by
    obtain ⟨b, h1, _⟩ := DataW.trod_bool Tryd.underlying4 z0
    exact ⟨b, by simpa using h1, trivial⟩
  subst hb0
  obtain ⟨a1, len1, cap1, xs, rfl, hl, hbig, hrd, bx⟩ := opened_limbs z1
  refine (?_ : Calls Tryd.prog 9 #[.agg #[.bool b, .slice a1 len1 cap1]] W fun e w' => e = .returned (.bool true) ∧ Below W.heap.size W w').mono fun e W' ⟨he, hb⟩ => ?_
  · cases hs : decide (SW b xs 64 < 0)
    · exact wback_pos b a1 len1 cap1 xs W hl hbig hrd bx (tabs hL) hs
    · exact wback_neg b a1 len1 cap1 xs W hl hbig hrd bx (tabs hL) hs
  subst he
  have harg0 := Below.trod laid_out (by kernel_rfl) (of_decide_eq_true (by kernel_rfl)) k0 hb hlt
  exact ⟨_, rfl, _, _, _, [], _, [], hW', trodAll_mk1 (shut_bool Tryd.underlying4 _), trodAll_mk1 harg0, rfl, hb.frame _, fun h => by cases h⟩

theorem reads (os : Os) {H : Type} (enc : TypeId × Value → H) : ∃ places, DataW.whole enc Tryd.prog ((World.laidAll Tryd.prog os Rows.wholeBackRow.laid).forCall (fun _ _ => 0) ⟨#[], #[.agg #[.bool false, .slice none 0 0]], []⟩).memory Tryd.f9.params.toList Rows.wholeBackSpec.vars false #[Value.agg #[.bool false, .slice none 0 0]].toList 8 = some ([.agg [.lit (.bool false), .nil]], [], places) :=
  ⟨[], by kernel_rfl⟩

set_option maxRecDepth 100000 in
theorem lifted (os : Os) (started : os.Started) (H : Type) (enc : TypeId × Value → H) (F : Stop.Interp) :
    ReturnsInHanded {} Tryd.checked os 9 .any ((OpenSpec.ofChange Rows.wholeBackSpec).preRow enc Tryd.prog Tryd.f9 Rows.wholeBackRow.domain false Rows.wholeBackRow.laid) (((OpenSpec.ofChange Rows.wholeBackSpec).at F).post enc Tryd.prog Tryd.f9 false true false false) := by
  obtain ⟨places, hx⟩ := reads os enc
  refine returnsInHanded_of_row (C := Tryd.checked) (s := OpenSpec.ofChange Rows.wholeBackSpec) own_knob started (by kernel_rfl) Tryd.func9
    (witness_row_at (enc := enc) (C := Tryd.checked) false (World.laidAll Tryd.prog os Rows.wholeBackRow.laid) #[.agg #[.bool false, .slice none 0 0]] rfl (by kernel_rfl) (by kernel_rfl) (by kernel_rfl)
      (OpenSpec.preRow_of_cond 8 hx (by kernel_rfl) (fun k hk => by cases hk) (by kernel_rfl) (laidMet_laidAll _ (by kernel_rfl) (by kernel_rfl)))) ?_
  intro W base args ds gs before hval hW _ _ _ hL _ _
  exact contract H enc W base args ds gs before hval hW hL

theorem said : Rows.WholeBackSaid :=
  OpenClaim.holds_of_cond 9 Tryd.f9 rfl rfl rfl rfl rfl rfl rfl ⟨rfl, rfl, rfl, rfl, rfl⟩ rfl rfl rfl rfl rfl (by kernel_rfl) Tryd.func9 (by kernel_rfl)
    (of_decide_eq_true (by kernel_rfl)) (by unfold Func.isWrapper; first | (rw [if_pos (by decide +kernel)]; kernel_rfl) | (rw [if_neg (by decide +kernel)]; exact ⟨rfl, rfl⟩))
    (fun os started H enc _ F => by rw [OpenClaim.pre_eq_preRow]; exact lifted os started H enc F)

theorem plain (f : FuncId) (fn : Func) (hf : Tryd.pinned.checked.prog.funcNamed "vouch/vouchlaw02.WholeBack" = some f) (hfn : Tryd.pinned.checked.prog.funcs[f]? = some fn) :
    false = Tryd.pinned.checked.prog.looks [] ∧ ∀ (j : Nat) t, fn.params[j]? = some t → Tryd.pinned.checked.prog.wantsStandIn t = false := by
  obtain rfl : f = 9 := Option.some.inj ((show Tryd.prog.funcNamed "vouch/vouchlaw02.WholeBack" = some 9 by kernel_rfl).symm.trans hf) |>.symm
  obtain rfl : fn = Tryd.f9 := (Option.some.inj (Tryd.func9.symm.trans hfn)).symm
  refine ⟨by kernel_rfl, fun j t ht => ?_⟩
  rw [Tryd.params9] at ht
  have hm : t ∈ [56] := by simpa using Array.mem_of_getElem? ht
  obtain rfl : t = 56 := by simpa using hm
  exact (show Tryd.prog.wantsStandIn 56 = false by kernel_rfl)

/-- THE CARD. -/
theorem card : Rows.WholeBackCardSaid :=
  Claim7.holds_tied_plain_at .later [] _ _ _ _ said (fun _ h => by cases h) (by kernel_rfl) (fun _ h => by cases h) wholeBack_row_tie rfl ⟨rfl, rfl⟩ (by kernel_rfl) rfl plain (by kernel_rfl)
end Go.Proofs.YtojeimciafcgoaaDoor.wholeBack
