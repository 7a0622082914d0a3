import Derived.Test.YtclbjmanmkoikaaDoorRsC
import Derived.Test.YtclbjmanmkoikaaDoorRsD
import Derived.Test.YtclbjmanmkoikaaDoorSc
namespace Go.Proofs.YtclbjmanmkoikaaDoor
open Go.RowKit

/-! Raise. -/
/-- A row of bytes and an error's number. -/
def BPost (Q : Int → List Nat → Prop) (w : World) (e : Ending) (w' : World) : Prop :=
  Below w.heap.size w w' ∧ ∃ v k b, e = .returned (.tuple #[v, .int .i64 k]) ∧ own8 w' w.heap.size v b ∧ Q k b
theorem BPost.none {Q : Int → List Nat → Prop} {w w' : World} {k : Int} (hb : Below w.heap.size w w') (hQ : Q k []) : BPost Q w (.returned (.tuple #[.slice none 0 0, .int .i64 k])) w' :=
  ⟨hb, _, k, [], rfl, World.ownsRow_nil _ _ _ _, hQ⟩
set_option exponentiation.threshold 100000 in
theorem lim_128 {N x : Nat} (h : N < 18446744073709551616 ^ 64) (hx : x < N) : x < 18446744073709551616 ^ 128 := Nat.lt_of_lt_of_le (Nat.lt_trans hx h) lim_le128
set_option exponentiation.threshold 100000 in
set_option maxHeartbeats 800000 in
set_option maxRecDepth 100000 in
theorem p_raise {w : World} {vN vE vs : Value} {N E : Nat} {s : List Nat} (hT : Trig w) (gN : Raw w vN N) (gE : Raw w vE E) (gs : Raw8 w vs s) (hs : s.length ≤ 1099511627776) :
    Calls Tryd.prog 18 #[.agg #[vN, vE], vs] w (BPost (RaiseTells N E s) w) := by
  have HK0 := KeyAt.new gN gE
  obtain ⟨aN, lN, cN, rfl⟩ := gN.sl
  obtain ⟨aE, lE, cE, rfl⟩ := gE.sl
  obtain ⟨W0, hW0⟩ : ∃ W0, W0 = w.alloc (KB (.slice aN lN cN) (.slice aE lE cE)) := ⟨_, rfl⟩
  have hB : Below w.heap.size w W0 := by rw [hW0]; exact (Below.refl _ _).alloc (Nat.le_refl _) _
  rw [← hW0] at HK0
  have hc0 := HK0.c0
  have hc1 := HK0.c1
  have HK := Lib.hid HK0
  have HB := Lib.hid hB
  have HSS := Lib.hid (fun (W : World) (h : Below w.heap.size w W) => gs.below h)
  have HT := Lib.hid (fun (W : World) (h : Below w.heap.size w W) => hT.below h)
  obtain ⟨aS, cS, rfl, -⟩ := gs
  obtain ⟨ls, hls⟩ : ∃ ls, ls = s.length := ⟨_, rfl⟩
  rw [← hls] at HSS hs ⊢
  have HLS := Lib.hid hls
  have HW := Lib.hid hW0
  clear HK0 hB gN gE hT hls hW0
  go_enter Tryd.func18, Tryd.ntmps18
  go_wp2_with fail
  rw [← HW.out]
  clear HW
  refine (p_check HK.out.rN HK.out.rE).mono ?_
  rintro e w1 ⟨hb, hor⟩
  have HK := Lib.hid (HK.out.below hb)
  have HB := Lib.hid (HB.out.trans (hb.mono HB.out.size))
  clear hb hc0 hc1
  have hc0 := HK.out.c0
  have hc1 := HK.out.c1
  rcases hor with ⟨ho, rfl⟩ | ⟨ho, rfl⟩
  · have HO := Lib.hid ho
    clear ho
    go_wp2_with fail
    rw [HLS.out]
    refine (p_below (s := s) HK.out.rN HK.out.rE (HLS.out ▸ HSS.out _ HB.out) HO.out (HLS.out ▸ hs)).mono ?_
    rw [← HLS.out]
    rintro e w2 ⟨hb, hor⟩
    have HK := Lib.hid (HK.out.below hb)
    have HB := Lib.hid (HB.out.trans (hb.mono HB.out.size))
    clear hb hc0 hc1
    have hc0 := HK.out.c0
    have hc1 := HK.out.c1
    rcases hor with ⟨hso, v, rfl, hv⟩ | ⟨hso, rfl⟩
    · have HSO := Lib.hid hso
      have HV := Lib.hid hv
      obtain ⟨aV, lV, cV, rfl⟩ := hv.sl
      clear hso hv
      go_wp2_with fail
      refine (g_pow (HT.out _ HB.out) HK.out.rN HV.out HK.out.rE).mono ?_
      rintro e w3 ⟨hb, aP, cP, k, zs, rfl, ho, hT⟩
      have hlim := HO.out.lim
      obtain ⟨rfl, hnum⟩ : k = 0 ∧ Num zs (bval s ^ E % N) := by
        rcases hT with ⟨h, _⟩ | ⟨_, h, _⟩ | ⟨_, _, h, h'⟩
        · exact absurd ⟨⟨lim_128 hlim HSO.out.2, lim_128 hlim HO.out.2.2.2.2.2⟩, hlim⟩ h
        · have := HO.out.pos; omega
        · exact ⟨h, h'⟩
      have hPN : bval s ^ E % N < N := Nat.mod_lt _ HO.out.pos
      obtain ⟨P, hP⟩ : ∃ P, P = bval s ^ E % N := ⟨_, rfl⟩
      rw [← hP] at hnum hPN
      have HP := Lib.hid hP
      have HPN := Lib.hid hPN
      have hR : Raw w3 (.slice aP zs.length cP) P := raw_of_own ho hnum (Nat.lt_of_lt_of_le (lim_128 hlim hPN) (Nat.pow_le_pow_right (by decide) (by decide)))
      have HR := Lib.hid hR
      generalize zs.length = lP at *
      have HK := Lib.hid (HK.out.below hb)
      have HB := Lib.hid (HB.out.trans (hb.mono HB.out.size))
      clear hb hc0 hc1 ho hT hlim hnum hPN hP hR
      have hc0 := HK.out.c0
      have hc1 := HK.out.c1
      go_wp2_with fail
      refine (p_size HK.out.rN ⟨_, _, _, rfl⟩).mono ?_
      rintro e w4 ⟨hb, rfl⟩
      have HR := Lib.hid (HR.out.below hb)
      have HB := Lib.hid (HB.out.trans (hb.mono HB.out.size))
      clear hb hc0 hc1
      go_wp2_with fail
      refine (p_inbytes HR.out (szN N) (lim_128 HO.out.lim HPN.out) (sz_mono (Nat.le_of_lt HPN.out)) (by have := HO.out.size; omega)).mono ?_
      rintro e w5 ⟨hb, v, l, rfl, hl, ho⟩
      have HOW := Lib.hid ho
      have HL := Lib.hid hl
      have HSZ := Lib.hid HB.out.size
      have HB := Lib.hid (HB.out.trans (hb.mono HB.out.size))
      clear hb ho hl
      go_wp2
      go_ret2
      exact ⟨HB.out, v, 0, _, rfl, owns_base HOW.out HSZ.out, RaiseTells.yes HO.out HSO.out HP.out HL.out⟩
    · have HSO := Lib.hid hso
      clear hso hc0 hc1
      go_wp2
      go_ret2
      exact BPost.none HB.out (.inr (.inl ⟨HO.out, HSO.out, rfl, rfl⟩))
  · have HO := Lib.hid ho
    clear ho hc0 hc1
    go_wp2
    go_ret2
    exact BPost.none HB.out (.inl ⟨HO.out, rfl, rfl⟩)
end Go.Proofs.YtclbjmanmkoikaaDoor
