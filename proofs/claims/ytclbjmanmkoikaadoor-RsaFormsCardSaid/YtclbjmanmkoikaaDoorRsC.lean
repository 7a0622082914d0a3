import Derived.Test.YtclbjmanmkoikaaDoorRsB
namespace Go.Proofs.YtclbjmanmkoikaaDoor
open Go.RowKit

/-! A key in its box: Check, Size, and a signature's number. -/
abbrev KB (x y : Value) : Obj := .cells #[x, y] 24
/-- A key that lies in a block. -/
structure KeyAt (w : World) (g : Nat) (vN vE : Value) (N E : Nat) : Prop where
  c0 : w.cell? ⟨g, 0, none⟩ = some vN
  c1 : w.cell? ⟨g, 1, none⟩ = some vE
  rN : Raw w vN N
  rE : Raw w vE E
theorem KeyAt.below {w w' : World} {g : Nat} {vN vE : Value} {N E : Nat} (h : KeyAt w g vN vE N E) (hb : Below w.heap.size w w') : KeyAt w' g vN vE N E :=
  ⟨below_cell hb _ _ h.c0, below_cell hb _ _ h.c1, h.rN.below hb, h.rE.below hb⟩
theorem KeyAt.new {w : World} {vN vE : Value} {N E : Nat} (hN : Raw w vN N) (hE : Raw w vE E) : KeyAt (w.alloc (KB vN vE)) w.heap.size vN vE N E :=
  ⟨World.cell?_alloc_at _ _ _ _ rfl, World.cell?_alloc_at _ _ _ _ rfl, hN.below ((Below.refl _ _).alloc (Nat.le_refl _) _), hE.below ((Below.refl _ _).alloc (Nat.le_refl _) _)⟩
set_option maxHeartbeats 800000 in
theorem p_check {w : World} {vN vE : Value} {N E : Nat} (gN : Raw w vN N) (gE : Raw w vE E) :
    Calls Tryd.prog 7 #[.agg #[vN, vE]] w fun e w' => Below w.heap.size w w' ∧ ((KeyOk N E ∧ e = .returned (.int .i64 0)) ∨ (¬ KeyOk N E ∧ e = .returned (.int .i64 80))) := by
  have HK0 := KeyAt.new gN gE
  obtain ⟨aN, lN, cN, rfl⟩ := gN.sl
  obtain ⟨aE, lE, cE, rfl⟩ := gE.sl
  obtain ⟨W0, hW0⟩ : ∃ W0, W0 = w.alloc (KB (.slice aN lN cN) (.slice aE lE cE)) := ⟨_, rfl⟩
  have hB : Below w.heap.size w W0 := by rw [hW0]; exact (Below.refl _ _).alloc (Nat.le_refl _) _
  rw [← hW0] at HK0
  have hc0 := HK0.c0
  have hc1 := HK0.c1
  have HK := Lib.hid HK0
  have HB := Lib.hid hB
  clear HK0 hB gN gE
  go_enter Tryd.func7, Tryd.ntmps7
  go_wp2_with fail
  rw [← hW0]
  clear hW0
  refine (p_maymod HK.out.rN).mono ?_
  rintro e w' ⟨rfl, hor⟩
  rcases hor with ⟨ho, rfl⟩ | ⟨ho, rfl⟩
  · have HO := Lib.hid ho
    clear ho
    go_wp2_with fail
    refine (p_mayexp HK.out.rE HK.out.rN).mono ?_
    rintro e w1 ⟨hb, hor⟩
    have HB := Lib.hid (HB.out.trans (hb.mono HB.out.size))
    clear hb hc0 hc1
    rcases hor with ⟨h2, rfl⟩ | ⟨h2, rfl⟩
    · have H2 := Lib.hid h2
      clear h2
      go_wp2
      go_ret
      exact ⟨HB.out, .inl ⟨⟨HO.out.1, HO.out.2.1, HO.out.2.2, H2.out.1, H2.out.2.1, H2.out.2.2⟩, rfl⟩⟩
    · have H2 := Lib.hid h2
      clear h2
      go_wp2
      go_ret
      exact ⟨HB.out, .inr ⟨fun h => H2.out ⟨h.2.2.2.1, h.2.2.2.2.1, h.2.2.2.2.2⟩, rfl⟩⟩
  · have HO := Lib.hid ho
    clear ho hc0 hc1
    go_wp2
    go_ret
    exact ⟨HB.out, .inr ⟨fun h => HO.out ⟨h.1, h.2.1, h.2.2.1⟩, rfl⟩⟩
set_option maxHeartbeats 800000 in
theorem p_size {w : World} {vN vE : Value} {N : Nat} (gN : Raw w vN N) (hE : ∃ a l c, vE = .slice a l c) :
    Calls Tryd.prog 10 #[.agg #[vN, vE]] w fun e w' => Below w.heap.size w w' ∧ e = .returned (.int .i64 (szN N : Nat)) := by
  obtain ⟨aN, lN, cN, rfl⟩ := gN.sl
  obtain ⟨aE, lE, cE, rfl⟩ := hE
  obtain ⟨W0, hW0⟩ : ∃ W0, W0 = w.alloc (KB (.slice aN lN cN) (.slice aE lE cE)) := ⟨_, rfl⟩
  have hB : Below w.heap.size w W0 := by rw [hW0]; exact (Below.refl _ _).alloc (Nat.le_refl _) _
  have HR := Lib.hid (gN.below hB)
  have HB := Lib.hid hB
  clear hB gN
  go_enter Tryd.func10, Tryd.ntmps10
  go_wp2_with fail
  rw [← hW0]
  clear hW0
  refine (g_bits HR.out).mono ?_
  rintro e w' ⟨k, rfl, hk, hk2, rfl⟩
  have HKK : Hid (szN N = (k + 7) / 8) := by show _ = _; rw [szN, ← hk.eq]
  clear hk
  go_wp2
  go_ret
  refine ⟨HB.out, ?_⟩
  rw [HKK.out]
  rfl
set_option exponentiation.threshold 100000 in
set_option maxHeartbeats 1600000 in
theorem p_below {w : World} {vN vE vs : Value} {N E : Nat} {s : List Nat} (gN : Raw w vN N) (gE : Raw w vE E) (gs : Raw8 w vs s) (hk : KeyOk N E) (hs : s.length ≤ 1099511627776) :
    Calls Tryd.prog 34 #[.agg #[vN, vE], vs] w fun e w' => Below w.heap.size w w' ∧ ((SigOk N s ∧ ∃ v, e = .returned (.tuple #[v, .int .i64 0]) ∧ Raw w' v (bval s)) ∨ (¬ SigOk N s ∧ e = .returned (.tuple #[.slice none 0 0, .int .i64 81]))) := by
  have HK0 := KeyAt.new gN gE
  obtain ⟨aN, lN, cN, rfl⟩ := gN.sl
  obtain ⟨aE, lE, cE, rfl⟩ := gE.sl
  obtain ⟨aS, cs, rfl, hsc, -, hsr, hs8⟩ := gs
  obtain ⟨W0, hW0⟩ : ∃ W0, W0 = w.alloc (KB (.slice aN lN cN) (.slice aE lE cE)) := ⟨_, rfl⟩
  have hB : Below w.heap.size w W0 := by rw [hW0]; exact (Below.refl _ _).alloc (Nat.le_refl _) _
  rw [← hW0] at HK0
  have HS := Lib.hid (fun (W : World) (h : Below w.heap.size w W) => from_any aS s.length cs s W rfl hs hsc hs8 (hsr.below h))
  have HS8 := Lib.hid hs8
  have HKO := Lib.hid hk
  have HK := Lib.hid HK0
  have HB := Lib.hid hB
  obtain ⟨n, hn⟩ : ∃ n, n = s.length := ⟨_, rfl⟩
  rw [← hn] at hs ⊢
  have HN := Lib.hid hn
  have HW := Lib.hid hW0
  clear HK0 hB gN gE hsr hs8 hsc hn hk hW0
  go_enter Tryd.func34, Tryd.ntmps34
  go_wp2_with fail
  rw [← HW.out]
  clear HW
  refine (p_size HK.out.rN ⟨_, _, _, rfl⟩).mono ?_
  rintro e w1 ⟨hb, rfl⟩
  have HK := Lib.hid (HK.out.below hb)
  have HB := Lib.hid (HB.out.trans (hb.mono HB.out.size))
  clear hb
  obtain ⟨z, hz⟩ : ∃ z, z = szN N := ⟨_, rfl⟩
  rw [← hz]
  have HZ := Lib.hid hz
  clear hz
  have hc0 := HK.out.c0
  by_cases hnz : n = z
  · have HE := Lib.hid hnz
    have q1 : ((n : Int) != (z : Int)) = false := by subst hnz; simp
    have hs2 : n ≤ 512 := by have := HE.out; have := HZ.out; have := HKO.out.size.2; omega
    clear hnz
    go_wp2_with fail
    rw [HN.out]
    refine (HS.out _ HB.out).mono ?_
    rintro e w2 ⟨hb, hor⟩
    have HK := Lib.hid (HK.out.below hb)
    have hc0 := HK.out.c0
    rcases hor with ⟨h, _⟩ | ⟨h, v, zs, rfl, ho, hnum⟩
    · exfalso
      have h1 := bval_lt HS8.out
      have h2 : (256 : Nat) ^ s.length ≤ 18446744073709551616 ^ 128 := by
        rw [show (18446744073709551616 : Nat) = 256 ^ 8 by decide, ← Nat.pow_mul]
        exact Nat.pow_le_pow_right (by decide) (by have := HN.out; omega)
      omega
    · have hl1000 : bval s < 18446744073709551616 ^ 1000 := Nat.lt_of_lt_of_le h (Nat.pow_le_pow_right (by decide) (by decide))
      have hraw := raw_of_own ho hnum hl1000
      obtain ⟨ab, lb, cb, rfl⟩ := hraw.sl
      have HR := Lib.hid hraw
      have HB := Lib.hid (HB.out.trans (hb.mono HB.out.size))
      clear hb h ho hnum hl1000 hraw
      go_wp2_with fail
      refine (r_cmp HR.out HK.out.rN).mono ?_
      rintro e w3 ⟨hb, hor⟩
      have HR := Lib.hid (HR.out.below hb)
      have HB := Lib.hid (HB.out.trans (hb.mono HB.out.size))
      have key : (bval s < N ∧ e = .returned (.int .i64 (-1))) ∨ (N ≤ bval s ∧ ∃ k : Int, (k = 0 ∨ k = 1) ∧ e = .returned (.int .i64 k)) := by
        rcases hor with ⟨h, rfl⟩ | ⟨h, rfl⟩ | ⟨h, rfl⟩
        · exact .inl ⟨h, rfl⟩
        · exact .inr ⟨by omega, 0, .inl rfl, rfl⟩
        · exact .inr ⟨by omega, 1, .inr rfl, rfl⟩
      clear hor hb hc0
      rcases key with ⟨h3, rfl⟩ | ⟨h3, k2, hk, rfl⟩
      · have HL := Lib.hid h3
        clear h3
        go_wp2
        go_ret2
        exact ⟨HB.out, .inl ⟨⟨by rw [← HN.out, HE.out, HZ.out], HL.out⟩, _, rfl, HR.out⟩⟩
      · have HL := Lib.hid h3
        have p1 : decide ((0 : Int) ≤ k2) = true := decide_eq_true (by omega)
        have p2 : decide (k2 ≥ (0 : Int)) = true := decide_eq_true (by omega)
        have p3 : (0 : Int) ≤ k2 := by omega
        clear h3 hk
        go_wp2
        go_ret2
        exact ⟨HB.out, .inr ⟨fun h => by have := HL.out; have := h.2; omega, rfl⟩⟩
  · have HE := Lib.hid hnz
    have q1 : ((n : Int) != (z : Int)) = true := by simpa using fun h => hnz (by omega)
    clear hnz
    go_wp2
    go_ret2
    exact ⟨HB.out, .inr ⟨fun h => HE.out (by rw [HN.out, HZ.out]; exact h.1), rfl⟩⟩
end Go.Proofs.YtclbjmanmkoikaaDoor
