import Derived.Test.YtclbjmanmkoikaaDoorRsE
namespace Go.Proofs.YtclbjmanmkoikaaDoor
open Go.RowKit

/-! Verify. -/
theorem own8_form {w : World} {B : Nat} {v : Value} {l : List Nat} (h : own8 w B v l) : ∃ a c, v = .slice a l.length c ∧ l.length ≤ c ∧ (a = none → c = 0) ∧ Rd .u8 w a l := by
  rcases h.2 with ⟨rfl, h0⟩ | ⟨g, c, cur, rfl, _, _, hc, _⟩
  · exact ⟨none, 0, by rw [h0], by omega, fun _ => rfl, fun j hj => by omega⟩
  · refine ⟨_, c, rfl, hc, (fun h => by cases h), fun j hj => ⟨g, 0, rfl, fun i hi => ?_⟩⟩
    rw [Nat.zero_add, World.ownsRow.cellAt h i (by omega)]
    exact u8s_at l i hi
theorem own8_rd2x {w : World} {B n c : Nat} {a : Option Addr} {l : List Nat} (h : own8 w B (.slice a n c) l) : Rd .u8 w a l ∧ (a = none → c = 0) := by
  obtain ⟨a', c', e, _, h2, h3⟩ := own8_form h
  simp only [Value.slice.injEq] at e
  obtain ⟨rfl, _, rfl⟩ := e
  exact ⟨h3, h2⟩
theorem own8_raw {w : World} {B : Nat} {v : Value} {l : List Nat} (h : own8 w B v l) (h8 : B8 l) : Raw8 w v l := by
  obtain ⟨a, c, e, h1, h2, h3⟩ := own8_form h
  exact ⟨a, c, e, h1, h2, h3, h8⟩
theorem own8_below {w w' : World} {B : Nat} {v : Value} {l : List Nat} (h : own8 w B v l) (hb : Below w.heap.size w w') : own8 w' B v l :=
  (Chg.of_below hb).owns h (fun j hj => by have := (World.ownsRow.lt h j hj).2; omega)
theorem bytesOf_inj {a b : List Nat} (ha : B8 a) (hb : B8 b) (h : a.map UInt8.ofNat = b.map UInt8.ofNat) : a = b := by
  have k : ∀ {l : List Nat}, B8 l → (l.map UInt8.ofNat).map UInt8.toNat = l := by
    intro l hl
    rw [List.map_map]
    conv => rhs; rw [← List.map_id l]
    apply List.map_congr_left
    intro x hx
    have := hl x hx
    simp only [Function.comp, UInt8.toNat_ofNat', id]
    omega
  rw [← k ha, h, k hb]
theorem p_bequal {w : World} {B1 B2 : Nat} {v1 v2 : Value} {l1 l2 : List Nat} (h1 : own8 w B1 v1 l1) (h2 : own8 w B2 v2 l2) (b1 : B8 l1) (b2 : B8 l2) :
    Calls Tryd.prog 19 #[v1, v2] w fun e w' => w' = w ∧ ((l1 = l2 ∧ e = .returned (.bool true)) ∨ (l1 ≠ l2 ∧ e = .returned (.bool false))) := by
  have e : ∀ l : List Nat, strN l = strOfNums (l.map fun (x : Nat) => (x : Int)) := fun l => by simp [strOfNums, strN, Function.comp_def]
  have f : ∀ l : List Nat, Lib.bytesOf (l.map fun (x : Nat) => (x : Int)) = l.map UInt8.ofNat := fun l => by simp [Lib.bytesOf, Function.comp_def]
  refine (Tryd.bytes_Equal v1 v2 (l1.map fun (x : Nat) => (x : Int)) (l2.map fun (x : Nat) => (x : Int)) w (by rw [← e]; exact own_text h1 rfl _ Tryd.underlying9) (by rw [← e]; exact own_text h2 rfl _ Tryd.underlying9)).mono ?_
  rintro x w' ⟨rfl, rfl⟩
  refine ⟨rfl, ?_⟩
  rw [f, f]
  by_cases h : l1 = l2
  · subst h
    exact .inl ⟨rfl, by rw [beq_self_eq_true]⟩
  · refine .inr ⟨h, ?_⟩
    have : (l1.map UInt8.ofNat == l2.map UInt8.ofNat) = false := by
      rw [beq_eq_false_iff_ne]
      exact fun h3 => h (bytesOf_inj b1 b2 h3)
    rw [this]
theorem RaiseTells.b8 {N E : Nat} {s b : List Nat} {k : Int} (h : RaiseTells N E s k b) : B8 b := by
  rcases h with ⟨_, _, rfl⟩ | ⟨_, _, _, rfl⟩ | ⟨_, _, _, _, h, _⟩
  · intro x hx; cases hx
  · intro x hx; cases hx
  · exact h
theorem RaiseTells.kinds {N E : Nat} {s b : List Nat} {k : Int} (h : RaiseTells N E s k b) : (k = 0 ∧ KeyOk N E) ∨ k = 80 ∨ k = 81 := by
  rcases h with ⟨_, h, _⟩ | ⟨_, _, h, _⟩ | ⟨h0, _, h, _⟩
  · exact .inr (.inl h)
  · exact .inr (.inr h)
  · exact .inl ⟨h, h0⟩
set_option maxHeartbeats 800000 in
set_option maxRecDepth 100000 in
theorem p_verify {w : World} {vN vE vm vs : Value} {N E : Nat} {m s : List Nat} (hT : Trig w) (hF : Five w) (gN : Raw w vN N) (gE : Raw w vE E) (gm : Raw8 w vm m) (gs : Raw8 w vs s) (hm : m.length ≤ 549755813888) (hs : s.length ≤ 1099511627776) :
    Calls Tryd.prog 6 #[.agg #[vN, vE], vm, vs] w fun e w' => Below w.heap.size w w' ∧ ∃ v : Int, e = .returned (.int .i64 v) ∧ VerTells N E m s v := by
  have HK0 := KeyAt.new gN gE
  obtain ⟨aN, lN, cN, rfl⟩ := gN.sl
  obtain ⟨aE, lE, cE, rfl⟩ := gE.sl
  obtain ⟨W0, hW0⟩ : ∃ W0, W0 = w.alloc (KB (.slice aN lN cN) (.slice aE lE cE)) := ⟨_, rfl⟩
  have hB : Below w.heap.size w W0 := by rw [hW0]; exact (Below.refl _ _).alloc (Nat.le_refl _) _
  rw [← hW0] at HK0
  have hc0 := HK0.c0
  have hc1 := HK0.c1
  have HK := Lib.hid HK0
  have HB := Lib.hid hB
  have HRA := Lib.hid (fun (W : World) (h : Below w.heap.size w W) (k : Raw W (.slice aN lN cN) N) (k2 : Raw W (.slice aE lE cE) E) => p_raise (hT.below h) k k2 (gs.below h) hs)
  have HSU : Hid (∀ W, Below w.heap.size w W → Calls Tryd.prog 14 #[vm] W fun e w' => e = .returned (.agg (u8s (shaN m)).toArray) ∧ Below W.heap.size W w') := fun W hW => by
    obtain ⟨a, c, rfl, h1, _, h3, h4⟩ := gm.below hW
    rw [← shaC_u8s]
    exact ssum_any a _ c m W rfl hm h1 h4 h3 (hF.below hW)
  obtain ⟨aS, cS, rfl, -⟩ := gs
  obtain ⟨aM, cM, rfl, -⟩ := gm
  obtain ⟨ls, hls⟩ : ∃ ls, ls = s.length := ⟨_, rfl⟩
  obtain ⟨lm, hlm⟩ : ∃ lm, lm = m.length := ⟨_, rfl⟩
  rw [← hls] at HRA hs ⊢
  rw [← hlm] at HSU hm ⊢
  have HW := Lib.hid hW0
  clear HK0 hB gN gE hT hls hW0 hlm hF
  go_enter Tryd.func6, Tryd.ntmps6
  go_wp2_with fail
  rw [← HW.out]
  clear HW
  refine (HRA.out _ HB.out HK.out.rN HK.out.rE).mono ?_
  rintro e w1 ⟨hb, v1, k, b, rfl, ho, hQ⟩
  have HK := Lib.hid (HK.out.below hb)
  have HB := Lib.hid (HB.out.trans (hb.mono HB.out.size))
  have HO := Lib.hid ho
  have HQ := Lib.hid hQ
  obtain ⟨a1, c1, rfl, -⟩ := own8_form ho
  have hkk := hQ.kinds
  clear hb hc0 hc1 ho hQ
  generalize b.length = lb at *
  rcases hkk with ⟨rfl, hko⟩ | hk
  · have HKO := Lib.hid hko
    clear hko
    go_upto_region 4 with fail
    have HK := Lib.hid (HK.out.below (Below.refl _ _).drew)
    have HB := Lib.hid HB.out.drew
    have HO := Lib.hid (own8_below HO.out (Below.refl _ _).drew)
    go_region_held3 (fun W => W.cell? ⟨w.heap.size, 0, none⟩ = some (.slice aN lN cN) ∧ W.cell? ⟨w.heap.size, 1, none⟩ = some (.slice aE lE cE))
      (first | exact ⟨HK.out.c0, HK.out.c1⟩)
      (first
        | (go_at_call 14; (with_reducible refine (HSU.out _ HB.out).mono ?_)
           rintro e w2 ⟨rfl, hb⟩
           have HK := Lib.hid (HK.out.below hb)
           have HO := Lib.hid (own8_below HO.out hb)
           have HB := Lib.hid (HB.out.trans (hb.mono HB.out.size))
           clear hb)
        | (go_at_call 10; (with_reducible refine (p_size HK.out.rN ⟨_, _, _, rfl⟩).mono ?_)
           rintro e w3 ⟨hb, rfl⟩
           have HK := Lib.hid (HK.out.below hb)
           have HO := Lib.hid (own8_below HO.out hb)
           have HB := Lib.hid (HB.out.trans (hb.mono HB.out.size))
           clear hb)
        | (go_at_call 13; (with_reducible refine (p_encoded (shaN m) (szN N : Nat) _ (shaN_len m) (shaN_8 m) (by omega) (by have := HKO.out.size; omega)).mono ?_)
           rintro e w4 ⟨hb, v4, k4, b4, rfl, hE, ho4⟩
           have HK := Lib.hid (HK.out.below hb)
           have HO := Lib.hid (own8_below HO.out hb)
           have HB := Lib.hid (HB.out.trans (hb.mono HB.out.size))
           clear hb))
    obtain ⟨rfl, rfl⟩ : k4 = 0 ∧ b4 = encL (shaN m) (szN N) := by
      rcases hE with ⟨h, _⟩ | ⟨_, _, h1, h2⟩
      · have := HKO.out.size; omega
      · exact ⟨h1, by rw [h2, Int.toNat_natCast]⟩
    have HO4 := Lib.hid ho4
    obtain ⟨a4, c4, rfl, -⟩ := own8_form ho4
    clear ho4 hE
    generalize (encL (shaN m) (szN N)).length = l4 at *
    go_wp2_with fail
    refine (p_bequal HO.out HO4.out HQ.out.b8 (encL_8 (shaN_8 m))).mono ?_
    rintro e w5 ⟨rfl, hor⟩
    rcases hor with ⟨he, rfl⟩ | ⟨he, rfl⟩
    · have HEQ := Lib.hid he
      clear he
      go_wp2
      go_ret
      exact ⟨HB.out, 0, rfl, 0, b, HQ.out, by rw [if_pos rfl, if_pos HEQ.out]⟩
    · have HEQ := Lib.hid he
      clear he
      go_wp2
      go_ret
      exact ⟨HB.out, 82, rfl, 0, b, HQ.out, by rw [if_pos rfl, if_neg HEQ.out]⟩
  · rcases hk with rfl | rfl
    all_goals
      go_wp2
      go_ret
      exact ⟨HB.out, _, rfl, _, b, HQ.out, rfl⟩
end Go.Proofs.YtclbjmanmkoikaaDoor
