import Derived.Test.YtclbjmanmkoikaaGreatDoorRsZ
import Derived.Test.YtclbjmanmkoikaaGreatDoorRsP
namespace Go.Proofs.YtclbjmanmkoikaaGreatDoor
open Go.RowKit

/-! RsaSigned: what owners sign. -/
theorem kback (i : Nat) (hi : i < 4) (x : Nat) : x ^ (val (keL i) * val (kdL i)) % val (knL i) = x % val (knL i) := by
  rcases (show i = 0 ∨ i = 1 ∨ i = 2 ∨ i = 3 by omega) with rfl | rfl | rfl | rfl
  · exact key0_back x _ _ (by decide +kernel) (by decide +kernel)
  · exact key1_back x _ _ (by decide +kernel) (by decide +kernel)
  · exact key2_back x _ _ (by decide +kernel) (by decide +kernel)
  · exact key3_back x _ _ (by decide +kernel) (by decide +kernel)
theorem sz_ge {N : Nat} (h : 0 < N) : 256 ^ (szN N - 1) ≤ N := by
  rcases bits_is N with ⟨h0, _⟩ | ⟨h0, h1, _⟩
  · omega
  · refine Nat.le_trans ?_ h1
    rw [show (256 : Nat) = 2 ^ 8 from rfl, ← Nat.pow_mul]
    exact Nat.pow_le_pow_right (by decide) (by unfold szN; omega)
theorem enc_lt {N E : Nat} {d : List Nat} (hk : KeyOk N E) (hd : d.length = 20) (h8 : B8 d) : bval (encL d (szN N)) < N := by
  have hsz := hk.size
  refine Nat.lt_of_lt_of_le ?_ (sz_ge hk.pos)
  obtain ⟨t, ht⟩ : ∃ t, t = List.replicate (szN N - 38) 255 ++ (midL ++ d) := ⟨_, rfl⟩
  have he : encL d (szN N) = 0 :: 1 :: t := by rw [encL, ← ht]; rfl
  have hl := encL_len hd (show 38 ≤ szN N by omega)
  have h8e := encL_8 (n := szN N) h8
  rw [he] at hl h8e ⊢
  have ht8 : B8 t := fun x hx => h8e x (List.mem_cons_of_mem _ (List.mem_cons_of_mem _ hx))
  have hlt := bval_lt ht8
  have hlen : t.length + 2 = szN N := by simpa using hl
  rw [bval_cons, bval_cons, show szN N - 1 = t.length + 1 by omega, Nat.pow_succ]
  omega
theorem signed_num {M N E D : Nat} (hM : M < N) (hb : ∀ x, x ^ (E * D) % N = x % N) : (M ^ D % N) ^ E % N = M := by
  rw [← Nat.pow_mod, ← Nat.pow_mul, Nat.mul_comm, hb, Nat.mod_eq_of_lt hM]
theorem signed_one {S M N E D : Nat} (hS : S < N) (hb : ∀ x, x ^ (E * D) % N = x % N) (h : S ^ E % N = M) : S = M ^ D % N := by
  rw [← h, ← Nat.pow_mod, ← Nat.pow_mul, hb, Nat.mod_eq_of_lt hS]
/-- What the owner of the i-th key signs. -/
def SigL (i : Nat) (m sl : List Nat) : Prop := sl.length = szN (val (knL i)) ∧ B8 sl ∧ bval sl = bval (encL (shaN m) (szN (val (knL i)))) ^ val (kdL i) % val (knL i)
theorem SigL.sig {i : Nat} {m sl : List Nat} (h : SigL i m sl) (hi : i < 4) : SigOk (val (knL i)) sl := ⟨h.1, by rw [h.2.2]; exact Nat.mod_lt _ (kn_ok i hi).pos⟩
theorem SigL.ok {i : Nat} {m sl : List Nat} {v : Int} (h : SigL i m sl) (hi : i < 4) (hv : VerTells (val (knL i)) (val (keL i)) m sl v) : v = 0 := by
  rcases hv.eqn (kn_ok i hi) (h.sig hi) with ⟨h1, _⟩ | ⟨_, h2⟩
  · exact h1
  · exfalso
    apply h2
    rw [h.2.2]
    exact signed_num (enc_lt (kn_ok i hi) (shaN_len m) (shaN_8 m)) (kback i hi)
theorem SigL.other {i : Nat} {m sl sl' : List Nat} {v : Int} (h : SigL i m sl) (hi : i < 4) (hl : sl'.length = sl.length) (h8 : B8 sl') (hne : sl' ≠ sl) (hv : VerTells (val (knL i)) (val (keL i)) m sl' v) : v = 81 ∨ v = 82 := by
  by_cases hs : SigOk (val (knL i)) sl'
  · rcases hv.eqn (kn_ok i hi) hs with ⟨_, h2⟩ | ⟨h1, _⟩
    · exfalso
      apply hne
      refine bval_inj h8 h.2.1 hl ?_
      rw [h.2.2]
      exact signed_one hs.2 (kback i hi) h2
    · exact .inr h1
  · exact .inl (hv.off (kn_ok i hi) hs)
set_option maxHeartbeats 800000 in
set_option maxRecDepth 100000 in
theorem r8secret (i : Nat) (hi : i < 4) (w : World) :
    Calls Tryz.prog 53 #[.int .i64 (i : Nat)] w fun e w' => Below w.heap.size w w' ∧ ∃ v, e = .returned v ∧ OwnL w' w.heap.size v (kdL i) := by
  go_enter Tryz.func53, Tryz.ntmps53
  go_wp2_with fail
  refine (r8secrets _).mono ?_
  rintro e w1 ⟨hb, a, b, c, d, rfl, hks⟩
  obtain ⟨v, ho, hix⟩ := pick4S hks i hi
  have HO := Lib.hid ho
  have HB := Lib.hid hb
  clear hb hks ho
  go_wp2
  go_ret
  exact ⟨HB.out, v, rfl, HO.out⟩
theorem kd_raw {w : World} {B : Nat} {v : Value} {i : Nat} (hi : i < 4) (h : OwnL w B v (kdL i)) : Raw w v (val (kdL i)) := by
  have hb : Bd (kdL i) ∧ (kdL i).length ≤ 1000 := by
    rcases (show i = 0 ∨ i = 1 ∨ i = 2 ∨ i = 3 by omega) with rfl | rfl | rfl | rfl <;> (unfold Bd; decide +kernel)
  exact own_raw h hb.1 hb.2
theorem r_sum {w : World} {v : Value} {l : List Nat} (h : Raw8 w v l) (hb : l.length ≤ 4096) :
    Calls Tryz.prog 52 #[v] w fun e w' => e = .returned (.agg (u8s (shaN l)).toArray) ∧ Below w.heap.size w w' := by
  obtain ⟨a, c, rfl, h1, h2, h3, h4⟩ := h
  rw [← shaC_u8s]
  exact rsum_any a _ c l w rfl (by omega) h1 h2 h4 h3
theorem r_from {w : World} {v : Value} {l : List Nat} (h : Raw8 w v l) (hb : l.length ≤ 1099511627776) : Calls Tryz.prog 49 #[v] w (FromPost l w) := by
  obtain ⟨a, c, rfl, h1, _, h3, h4⟩ := h
  exact rfrom_any a _ c l w rfl hb h4 h3
set_option exponentiation.threshold 100000 in
set_option maxHeartbeats 800000 in
set_option maxRecDepth 100000 in
theorem r8signed (i : Nat) (hi : i < 4) (w : World) {vm : Value} {m : List Nat} (gm : Raw8 w vm m) (hm : m.length ≤ 4096) :
    Calls Tryz.prog 28 #[vm, .int .i64 (i : Nat)] w fun e w' => Below w.heap.size w w' ∧ ∃ v sl, e = .returned v ∧ own8 w' w.heap.size v sl ∧ SigL i m sl := by
  have HM := Lib.hid (fun (W : World) (h : Below w.heap.size w W) => gm.below h)
  obtain ⟨aM, cM, rfl, -⟩ := gm
  obtain ⟨lm, hlm⟩ : ∃ lm, lm = m.length := ⟨_, rfl⟩
  rw [← hlm] at HM ⊢
  have hk := kn_ok i hi
  have hbd := kn_bd i hi
  obtain ⟨N, hN⟩ : ∃ N, N = val (knL i) := ⟨_, rfl⟩
  obtain ⟨E, hE⟩ : ∃ E, E = val (keL i) := ⟨_, rfl⟩
  have HN := Lib.hid (And.intro hN hE)
  rw [← hN, ← hE] at hk
  have HK0 := Lib.hid hk
  have HSZ := Lib.hid hk.size
  have HBD := Lib.hid hbd
  have HMB := Lib.hid hm
  clear hk hbd hN hE hlm hm
  go_enter Tryz.func28, Tryz.ntmps28
  go_wp2_with fail
  refine (r8keys _).mono ?_
  rintro e w1 ⟨hb, a, b, c, d, p, q, x, y, rfl, hks⟩
  obtain ⟨vN, vE, oN, oE, hix⟩ := pick4K hks i hi
  have rN := own_raw oN HBD.out.1.1 (Nat.le_trans HBD.out.1.2 (by decide))
  have rE := own_raw oE HBD.out.2.1 (by rw [HBD.out.2.2]; decide)
  rw [← HN.out.1] at rN
  rw [← HN.out.2] at rE
  have hk0 := KeyAt.new rN rE
  obtain ⟨aN, lN, cN, rfl⟩ := rN.sl
  obtain ⟨aE, lE, cE, rfl⟩ := rE.sl
  have hal : Below w1.heap.size w1 (w1.alloc (KB (.slice aN lN cN) (.slice aE lE cE))) := (Below.refl _ _).alloc (Nat.le_refl _) _
  obtain ⟨g, hg⟩ : ∃ g, g = w1.heap.size := ⟨_, rfl⟩
  have HB := Lib.hid (hb.trans (hal.mono hb.size))
  rw [← hg] at hk0
  have HG := Lib.hid hg
  clear hb hks rN rE oN oE hal hg
  go_upto_region 2 with fail
  rw [← HG.out]
  generalize w1.alloc (KB (.slice aN lN cN) (.slice aE lE cE)) = w2 at *
  clear HG hix
  have HK := Lib.hid (hk0.below (Below.refl _ _).drew)
  have HB := Lib.hid HB.out.drew
  clear hk0
  go_region_held3 (fun W => W.cell? ⟨g, 0, none⟩ = some (.slice aN lN cN) ∧ W.cell? ⟨g, 1, none⟩ = some (.slice aE lE cE))
    (first | exact ⟨HK.out.c0, HK.out.c1⟩)
    (first
      | (go_at_call 52; (with_reducible refine (r_sum (HM.out _ HB.out) HMB.out).mono ?_)
         rintro e w3 ⟨rfl, hb⟩
         have HK := Lib.hid (HK.out.below hb)
         have HB := Lib.hid (HB.out.trans (hb.mono HB.out.size))
         clear hb)
      | (go_at_call 13; (with_reducible refine (r8size HK.out.rN ⟨_, _, _, rfl⟩).mono ?_)
         rintro e w4 ⟨hb, rfl⟩
         have HK := Lib.hid (HK.out.below hb)
         have HB := Lib.hid (HB.out.trans (hb.mono HB.out.size))
         clear hb)
      | (go_at_call 9; (with_reducible refine (r8encoded (shaN m) (szN N : Nat) _ (shaN_len m) (shaN_8 m) (by omega) (by have := HSZ.out; omega)).mono ?_)
         rintro e w5 ⟨hb, v5, k5, b5, rfl, hE5, ho5⟩
         have HK := Lib.hid (HK.out.below hb)
         have HB := Lib.hid (HB.out.trans (hb.mono HB.out.size))
         clear hb))
  obtain ⟨rfl, rfl⟩ : k5 = 0 ∧ b5 = encL (shaN m) (szN N) := by
    rcases hE5 with ⟨h, _⟩ | ⟨_, _, h1, h2⟩
    · have := HSZ.out; omega
    · exact ⟨h1, by rw [h2, Int.toNat_natCast]⟩
  have HR5 := Lib.hid (own8_raw ho5 (encL_8 (shaN_8 m)))
  have HL5 : Hid ((encL (shaN m) (szN N)).length = szN N) := encL_len (shaN_len m) (by have := HSZ.out; omega)
  obtain ⟨a5, c5, rfl, -⟩ := own8_form ho5
  obtain ⟨l5, hl5⟩ : ∃ l5, l5 = (encL (shaN m) (szN N)).length := ⟨_, rfl⟩
  rw [← hl5] at HR5 ⊢
  rename_i hHeld
  clear ho5 hE5 hl5 hHeld
  go_wp2_with fail
  refine (r_from HR5.out (by rw [HL5.out]; have := HSZ.out; omega)).mono ?_
  rintro e w6 ⟨hb, hor⟩
  have HK := Lib.hid (HK.out.below hb)
  have hyb : bval (encL (shaN m) (szN N)) < 18446744073709551616 ^ 128 := lim_128 HK0.out.lim (enc_lt HK0.out (shaN_len m) (shaN_8 m))
  rcases hor with ⟨h, _⟩ | ⟨_, vy, zy, rfl, hoy, hny⟩
  · omega
  · have HY : Hid (Raw w6 vy (bval (encL (shaN m) (szN N)))) := raw_of_own hoy hny (Nat.lt_of_lt_of_le hyb (Nat.pow_le_pow_right (by decide) (by decide)))
    have HYB := Lib.hid hyb
    obtain ⟨aY, lY, cY, rfl⟩ := HY.out.sl
    have HB := Lib.hid (HB.out.trans (hb.mono HB.out.size))
    obtain ⟨P, hP⟩ : ∃ P, P = bval (encL (shaN m) (szN N)) ^ val (kdL i) % N := ⟨_, rfl⟩
    have hPN : P < N := by rw [hP]; exact Nat.mod_lt _ HK0.out.pos
    have HP := Lib.hid hP
    have HPN := Lib.hid hPN
    have HBI := Lib.hid (lim_128 HK0.out.lim hPN)
    have HPL := Lib.hid (And.intro HK0.out.pos HK0.out.lim)
    clear hb hoy hny hyb hP hPN HR5 HL5
    go_upto_region 4 with fail
    have HK := Lib.hid (HK.out.below (Below.refl _ _).drew)
    have HY := Lib.hid (HY.out.below (Below.refl _ _).drew)
    have HB := Lib.hid HB.out.drew
    go_region_held3 (fun W => W.cell? ⟨g, 0, none⟩ = some (.slice aN lN cN) ∧ W.cell? ⟨g, 1, none⟩ = some (.slice aE lE cE))
      (first | exact ⟨HK.out.c0, HK.out.c1⟩)
      (first
        | (go_at_call 53; (with_reducible refine (r8secret i hi _).mono ?_)
           rintro e w7 ⟨hb, vD, rfl, hoD⟩
           have HD := Lib.hid (kd_raw hi hoD)
           obtain ⟨aD, lD, cD, rfl⟩ := HD.out.sl
           have HK := Lib.hid (HK.out.below hb)
           have HY := Lib.hid (HY.out.below hb)
           have HB := Lib.hid (HB.out.trans (hb.mono HB.out.size))
           clear hb hoD)
        | (go_at_call 51; (with_reducible refine (r4raised_any HK.out.rN HY.out HD.out HPL.out.1 HPL.out.2 HYB.out).mono ?_)
           rintro e w8 ⟨vP, rfl, hQ, hb⟩
           have hp := hQ.raw List.mem_cons_self
           rw [← HP.out] at hp
           have HPP := Lib.hid hp
           obtain ⟨aP, lP, cP, rfl⟩ := hp.sl
           have HK := Lib.hid (HK.out.below hb)
           have HB := Lib.hid (HB.out.trans (hb.mono HB.out.size))
           clear hb hQ hp)
        | (go_at_call 13; (with_reducible refine (r8size HK.out.rN ⟨_, _, _, rfl⟩).mono ?_)
           rintro e w9 ⟨hb, rfl⟩
           have HPP := Lib.hid (HPP.out.below hb)
           have HK := Lib.hid (HK.out.below hb)
           have HB := Lib.hid (HB.out.trans (hb.mono HB.out.size))
           clear hb)
        | (go_at_call 50; (with_reducible refine (r8laid HPP.out (szN N) HBI.out (sz_mono (Nat.le_of_lt HPN.out)) (by have := HSZ.out; omega)).mono ?_)
           rintro e w10 ⟨hb, v10, l10, rfl, hl10, ho10⟩
           have HK := Lib.hid (HK.out.below hb)
           have HS10 := Lib.hid HB.out.size
           have HB := Lib.hid (HB.out.trans (hb.mono HB.out.size))
           clear hb))
    go_wp2
    go_ret
    have ht := padL_tells hl10 (sz_mono (Nat.le_of_lt HPN.out))
    rw [HN.out.1] at ht HP
    refine ⟨HB.out, v10, _, rfl, ?_, ht.1, ht.2.1, by rw [ht.2.2, HP.out]⟩
    rw [← HN.out.1]
    exact owns_base ho10 HS10.out
end Go.Proofs.YtclbjmanmkoikaaGreatDoor
