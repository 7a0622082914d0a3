import Derived.Test.YtaookoejdnkkoaaGreatDoorKRq
import Derived.Test.YtaookoejdnkkoaaGreatDoorKRsZ
import Derived.Test.YtaookoejdnkkoaaGreatDoorKRsP
namespace Go.Proofs.YtaookoejdnkkoaaGreatDoor
open Go.RowKit

/-! RsaSigned: what owners sign. -/
theorem kback (i : Nat) (hi : i < 4) (x : Nat) : x ^ (val (keL i) * val (kdL i)) % val (knL i) = x % val (knL i) := by
  rcases (show i = 0 ∨ i = 1 ∨ i = 2 ∨ i = 3 by omega) with rfl | rfl | rfl | rfl
  · exact key0_back x _ _ (by decide +kernel) (by decide +kernel)
  · exact key1_back x _ _ (by decide +kernel) (by decide +kernel)
  · exact key2_back x _ _ (by decide +kernel) (by decide +kernel)
  · exact key3_back x _ _ (by decide +kernel) (by decide +kernel)
theorem sz_ge {N : Nat} (h : 0 < N) : 256 ^ (szN N - 1) ≤ N := by
  rcases bits_is N with ⟨h0, _⟩ | ⟨h0, h1, _⟩
  · omega
  · refine Nat.le_trans ?_ h1
    rw [show (256 : Nat) = 2 ^ 8 from rfl, ← Nat.pow_mul]
    exact Nat.pow_le_pow_right (by decide) (by unfold szN; omega)
theorem enc_lt {N E : Nat} {d : List Nat} (hk : KeyOk N E) (hd : d.length = 20) (h8 : B8 d) : bval (encL d (szN N)) < N := by
  have hsz := hk.size
  refine Nat.lt_of_lt_of_le ?_ (sz_ge hk.pos)
  obtain ⟨t, ht⟩ : ∃ t, t = List.replicate (szN N - 38) 255 ++ (midL ++ d) := ⟨_, rfl⟩
  have he : encL d (szN N) = 0 :: 1 :: t := by rw [encL, ← ht]; rfl
  have hl := encL_len hd (show 38 ≤ szN N by omega)
  have h8e := encL_8 (n := szN N) h8
  rw [he] at hl h8e ⊢
  have ht8 : B8 t := fun x hx => h8e x (List.mem_cons_of_mem _ (List.mem_cons_of_mem _ hx))
  have hlt := bval_lt ht8
  have hlen : t.length + 2 = szN N := by simpa using hl
  rw [bval_cons, bval_cons, show szN N - 1 = t.length + 1 by omega, Nat.pow_succ]
  omega
theorem signed_num {M N E D : Nat} (hM : M < N) (hb : ∀ x, x ^ (E * D) % N = x % N) : (M ^ D % N) ^ E % N = M := by
  rw [← Nat.pow_mod, ← Nat.pow_mul, Nat.mul_comm, hb, Nat.mod_eq_of_lt hM]
theorem signed_one {S M N E D : Nat} (hS : S < N) (hb : ∀ x, x ^ (E * D) % N = x % N) (h : S ^ E % N = M) : S = M ^ D % N := by
  rw [← h, ← Nat.pow_mod, ← Nat.pow_mul, hb, Nat.mod_eq_of_lt hS]
/-- What the owner of the i-th key signs. -/
def SigL (i : Nat) (m sl : List Nat) : Prop := sl.length = szN (val (knL i)) ∧ B8 sl ∧ bval sl = bval (encL (shaN m) (szN (val (knL i)))) ^ val (kdL i) % val (knL i)
theorem SigL.sig {i : Nat} {m sl : List Nat} (h : SigL i m sl) (hi : i < 4) : SigOk (val (knL i)) sl := ⟨h.1, by rw [h.2.2]; exact Nat.mod_lt _ (kn_ok i hi).pos⟩
theorem SigL.ok {i : Nat} {m sl : List Nat} {v : Int} (h : SigL i m sl) (hi : i < 4) (hv : VerTells (val (knL i)) (val (keL i)) m sl v) : v = 0 := by
  rcases hv.eqn (kn_ok i hi) (h.sig hi) with ⟨h1, _⟩ | ⟨_, h2⟩
  · exact h1
  · exfalso
    apply h2
    rw [h.2.2]
    exact signed_num (enc_lt (kn_ok i hi) (shaN_len m) (shaN_8 m)) (kback i hi)
theorem SigL.other {i : Nat} {m sl sl' : List Nat} {v : Int} (h : SigL i m sl) (hi : i < 4) (hl : sl'.length = sl.length) (h8 : B8 sl') (hne : sl' ≠ sl) (hv : VerTells (val (knL i)) (val (keL i)) m sl' v) : v = 81 ∨ v = 82 := by
  by_cases hs : SigOk (val (knL i)) sl'
  · rcases hv.eqn (kn_ok i hi) hs with ⟨_, h2⟩ | ⟨h1, _⟩
    · exfalso
      apply hne
      refine bval_inj h8 h.2.1 hl ?_
      rw [h.2.2]
      exact signed_one hs.2 (kback i hi) h2
    · exact .inr h1
  · exact .inl (hv.off (kn_ok i hi) hs)
set_option maxHeartbeats 800000 in
set_option maxRecDepth 100000 in
theorem r8secret (i : Nat) (hi : i < 4) (w : World) :
    Calls Tryz.prog 79 #[.int .i64 (i : Nat)] w fun e w' => Below w.heap.size w w' ∧ ∃ v, e = .returned v ∧ OwnL w' w.heap.size v (kdL i) := by
  go_enter Tryz.func79, Tryz.ntmps79
  go_wp2_with fail
  refine (r8secrets _).mono ?_
  rintro e w1 ⟨hb, a, b, c, d, rfl, hks⟩
  obtain ⟨v, ho, hix⟩ := pick4S hks i hi
  have HO := Lib.hid ho
  have HB := Lib.hid hb
  clear hb hks ho
  go_wp2
  go_ret
  exact ⟨HB.out, v, rfl, HO.out⟩
theorem kd_raw {w : World} {B : Nat} {v : Value} {i : Nat} (hi : i < 4) (h : OwnL w B v (kdL i)) : Raw w v (val (kdL i)) := by
  have hb : Bd (kdL i) ∧ (kdL i).length ≤ 1000 := by
    rcases (show i = 0 ∨ i = 1 ∨ i = 2 ∨ i = 3 by omega) with rfl | rfl | rfl | rfl <;> (unfold Bd; decide +kernel)
  exact own_raw h hb.1 hb.2
theorem r_sum {w : World} {v : Value} {l : List Nat} (h : Raw8 w v l) (hb : l.length ≤ 4096) :
    Calls Tryz.prog 75 #[v] w fun e w' => e = .returned (.agg (u8s (shaN l)).toArray) ∧ Below w.heap.size w w' := by
  obtain ⟨a, c, rfl, h1, h2, h3, h4⟩ := h
  rw [← shaC_u8s]
  exact rsum_any a _ c l w rfl (by omega) h1 h2 h4 h3
theorem r_from {w : World} {v : Value} {l : List Nat} (h : Raw8 w v l) (hb : l.length ≤ 1099511627776) : Calls Tryz.prog 76 #[v] w (FromPost l w) := by
  obtain ⟨a, c, rfl, h1, _, h3, h4⟩ := h
  exact rfrom_any a _ c l w rfl hb h4 h3
set_option exponentiation.threshold 100000 in
set_option maxHeartbeats 800000 in
set_option maxRecDepth 100000 in
theorem r8signed (i : Nat) (hi : i < 4) (w : World) {vm : Value} {m : List Nat} (gm : Raw8 w vm m) (hm : m.length ≤ 4096) :
    Calls Tryz.prog 34 #[vm, .int .i64 (i : Nat)] w fun e w' => Below w.heap.size w w' ∧ ∃ v sl, e = .returned v ∧ own8 w' w.heap.size v sl ∧ SigL i m sl := by
  have HM := Lib.hid (fun (W : World) (h : Below w.heap.size w W) => gm.below h)
  obtain ⟨aM, cM, rfl, -⟩ := gm
  obtain ⟨lm, hlm⟩ : ∃ lm, lm = m.length := ⟨_, rfl⟩
  rw [← hlm] at HM ⊢
  have hk := kn_ok i hi
  have hbd := kn_bd i hi
  obtain ⟨N, hN⟩ : ∃ N, N = val (knL i) := ⟨_, rfl⟩
  obtain ⟨E, hE⟩ : ∃ E, E = val (keL i) := ⟨_, rfl⟩
  have HN := Lib.hid (And.intro hN hE)
  rw [← hN, ← hE] at hk
  have HK0 := Lib.hid hk
  have HSZ := Lib.hid hk.size
  have HBD := Lib.hid hbd
  have HMB := Lib.hid hm
  clear hk hbd hN hE hlm hm
  go_enter Tryz.func34, Tryz.ntmps34
  go_wp2_with fail
  refine (r8keys _).mono ?_
  rintro e w1 ⟨hb, a, b, c, d, p, q, x, y, rfl, hks⟩
  obtain ⟨vN, vE, oN, oE, hix⟩ := pick4K hks i hi
  have rN := own_raw oN HBD.out.1.1 (Nat.le_trans HBD.out.1.2 (by decide))
  have rE := own_raw oE HBD.out.2.1 (by rw [HBD.out.2.2]; decide)
  rw [← HN.out.1] at rN
  rw [← HN.out.2] at rE
  have hk0 := KeyAt.new rN rE
  obtain ⟨aN, lN, cN, rfl⟩ := rN.sl
  obtain ⟨aE, lE, cE, rfl⟩ := rE.sl
  have hal : Below w1.heap.size w1 (w1.alloc (KB (.slice aN lN cN) (.slice aE lE cE))) := (Below.refl _ _).alloc (Nat.le_refl _) _
  obtain ⟨g, hg⟩ : ∃ g, g = w1.heap.size := ⟨_, rfl⟩
  have HB := Lib.hid (hb.trans (hal.mono hb.size))
  rw [← hg] at hk0
  have HG := Lib.hid hg
  clear hb hks rN rE oN oE hal hg
  go_upto_region 2 with fail
  rw [← HG.out]
  generalize w1.alloc (KB (.slice aN lN cN) (.slice aE lE cE)) = w2 at *
  clear HG hix
  have HK := Lib.hid (hk0.below (Below.refl _ _).drew)
  have HB := Lib.hid HB.out.drew
  clear hk0
  go_region_held3 (fun W => W.cell? ⟨g, 0, none⟩ = some (.slice aN lN cN) ∧ W.cell? ⟨g, 1, none⟩ = some (.slice aE lE cE))
    (first | exact ⟨HK.out.c0, HK.out.c1⟩)
    (first
      | (go_at_call 75; (with_reducible refine (r_sum (HM.out _ HB.out) HMB.out).mono ?_)
         rintro e w3 ⟨rfl, hb⟩
         have HK := Lib.hid (HK.out.below hb)
         have HB := Lib.hid (HB.out.trans (hb.mono HB.out.size))
         clear hb)
      | (go_at_call 60; (with_reducible refine (r8size HK.out.rN ⟨_, _, _, rfl⟩).mono ?_)
         rintro e w4 ⟨hb, rfl⟩
         have HK := Lib.hid (HK.out.below hb)
         have HB := Lib.hid (HB.out.trans (hb.mono HB.out.size))
         clear hb)
      | (go_at_call 57; (with_reducible refine (r8encoded (shaN m) (szN N : Nat) _ (shaN_len m) (shaN_8 m) (by omega) (by have := HSZ.out; omega)).mono ?_)
         rintro e w5 ⟨hb, v5, k5, b5, rfl, hE5, ho5⟩
         have HK := Lib.hid (HK.out.below hb)
         have HB := Lib.hid (HB.out.trans (hb.mono HB.out.size))
         clear hb))
  obtain ⟨rfl, rfl⟩ : k5 = 0 ∧ b5 = encL (shaN m) (szN N) := by
    rcases hE5 with ⟨h, _⟩ | ⟨_, _, h1, h2⟩
    · have := HSZ.out; omega
    · exact ⟨h1, by rw [h2, Int.toNat_natCast]⟩
  have HR5 := Lib.hid (own8_raw ho5 (encL_8 (shaN_8 m)))
  have HL5 : Hid ((encL (shaN m) (szN N)).length = szN N) := encL_len (shaN_len m) (by have := HSZ.out; omega)
  obtain ⟨a5, c5, rfl, -⟩ := own8_form ho5
  obtain ⟨l5, hl5⟩ : ∃ l5, l5 = (encL (shaN m) (szN N)).length := ⟨_, rfl⟩
  rw [← hl5] at HR5 ⊢
  rename_i hHeld
  clear ho5 hE5 hl5 hHeld
  go_wp2_with fail
  refine (r_from HR5.out (by rw [HL5.out]; have := HSZ.out; omega)).mono ?_
  rintro e w6 ⟨hb, hor⟩
  have HK := Lib.hid (HK.out.below hb)
  have hyb : bval (encL (shaN m) (szN N)) < 18446744073709551616 ^ 128 := lim_128 HK0.out.lim (enc_lt HK0.out (shaN_len m) (shaN_8 m))
  rcases hor with ⟨h, _⟩ | ⟨_, vy, zy, rfl, hoy, hny⟩
  · omega
  · have HY : Hid (Raw w6 vy (bval (encL (shaN m) (szN N)))) := raw_of_own hoy hny (Nat.lt_of_lt_of_le hyb (Nat.pow_le_pow_right (by decide) (by decide)))
    have HYB := Lib.hid hyb
    obtain ⟨aY, lY, cY, rfl⟩ := HY.out.sl
    have HB := Lib.hid (HB.out.trans (hb.mono HB.out.size))
    obtain ⟨P, hP⟩ : ∃ P, P = bval (encL (shaN m) (szN N)) ^ val (kdL i) % N := ⟨_, rfl⟩
    have hPN : P < N := by rw [hP]; exact Nat.mod_lt _ HK0.out.pos
    have HP := Lib.hid hP
    have HPN := Lib.hid hPN
    have HBI := Lib.hid (lim_128 HK0.out.lim hPN)
    have HPL := Lib.hid (And.intro HK0.out.pos HK0.out.lim)
    clear hb hoy hny hyb hP hPN HR5 HL5
    go_upto_region 4 with fail
    have HK := Lib.hid (HK.out.below (Below.refl _ _).drew)
    have HY := Lib.hid (HY.out.below (Below.refl _ _).drew)
    have HB := Lib.hid HB.out.drew
    go_region_held3 (fun W => W.cell? ⟨g, 0, none⟩ = some (.slice aN lN cN) ∧ W.cell? ⟨g, 1, none⟩ = some (.slice aE lE cE))
      (first | exact ⟨HK.out.c0, HK.out.c1⟩)
      (first
        | (go_at_call 79; (with_reducible refine (r8secret i hi _).mono ?_)
           rintro e w7 ⟨hb, vD, rfl, hoD⟩
           have HD := Lib.hid (kd_raw hi hoD)
           obtain ⟨aD, lD, cD, rfl⟩ := HD.out.sl
           have HK := Lib.hid (HK.out.below hb)
           have HY := Lib.hid (HY.out.below hb)
           have HB := Lib.hid (HB.out.trans (hb.mono HB.out.size))
           clear hb hoD)
        | (go_at_call 78; (with_reducible refine (r4raised_any HK.out.rN HY.out HD.out HPL.out.1 HPL.out.2 HYB.out).mono ?_)
           rintro e w8 ⟨vP, rfl, hQ, hb⟩
           have hp := hQ.raw List.mem_cons_self
           rw [← HP.out] at hp
           have HPP := Lib.hid hp
           obtain ⟨aP, lP, cP, rfl⟩ := hp.sl
           have HK := Lib.hid (HK.out.below hb)
           have HB := Lib.hid (HB.out.trans (hb.mono HB.out.size))
           clear hb hQ hp)
        | (go_at_call 60; (with_reducible refine (r8size HK.out.rN ⟨_, _, _, rfl⟩).mono ?_)
           rintro e w9 ⟨hb, rfl⟩
           have HPP := Lib.hid (HPP.out.below hb)
           have HK := Lib.hid (HK.out.below hb)
           have HB := Lib.hid (HB.out.trans (hb.mono HB.out.size))
           clear hb)
        | (go_at_call 77; (with_reducible refine (r8laid HPP.out (szN N) HBI.out (sz_mono (Nat.le_of_lt HPN.out)) (by have := HSZ.out; omega)).mono ?_)
           rintro e w10 ⟨hb, v10, l10, rfl, hl10, ho10⟩
           have HK := Lib.hid (HK.out.below hb)
           have HS10 := Lib.hid HB.out.size
           have HB := Lib.hid (HB.out.trans (hb.mono HB.out.size))
           clear hb))
    go_wp2
    go_ret
    have ht := padL_tells hl10 (sz_mono (Nat.le_of_lt HPN.out))
    rw [HN.out.1] at ht HP
    refine ⟨HB.out, v10, _, rfl, ?_, ht.1, ht.2.1, by rw [ht.2.2, HP.out]⟩
    rw [← HN.out.1]
    exact owns_base ho10 HS10.out

set_option maxHeartbeats 800000 in
set_option maxRecDepth 100000 in
theorem r8keys2 (w : World) :
    Calls Tryz.prog 30 #[] w fun e w' => Below w.heap.size w w' ∧ ∃ a b c d p q x y, e = .returned (.agg #[a, b, c, d, p, q, x, y]) ∧ OwnL w' w.heap.size a kn0 ∧ OwnL w' w.heap.size b ke0 ∧ OwnL w' w.heap.size c kn1 ∧ OwnL w' w.heap.size d ke1 ∧ OwnL w' w.heap.size p kn2 ∧ OwnL w' w.heap.size q ke2 ∧ OwnL w' w.heap.size x kn3 ∧ OwnL w' w.heap.size y ke3 ∧ (a.ownBlock ≠ b.ownBlock ∧ c.ownBlock ≠ d.ownBlock ∧ p.ownBlock ≠ q.ownBlock ∧ x.ownBlock ≠ y.ownBlock) := by
  go_enter Tryz.func30, Tryz.ntmps30
  go_wp2
  refine bodyPost_ret (results_K8 rfl rfl (((((((((CB.new w _ [_, _, _, _, _, _, _, _]).alloc _).alloc _).alloc _).alloc _).alloc _).alloc _).alloc _).alloc _)) rfl ⟨(((((((((Below.refl w.heap.size w).alloc (Nat.le_refl _) _).alloc (by simp <;> omega) _).alloc (by simp <;> omega) _).alloc (by simp <;> omega) _).alloc (by simp <;> omega) _).alloc (by simp <;> omega) _).alloc (by simp <;> omega) _).alloc (by simp <;> omega) _).alloc (by simp <;> omega) _, _, _, _, _, _, _, _, _, rfl, (((((((own_litN kn0 (w.heap.size + 1) 8 _ (by simp) rfl (by decide) rfl (by simp <;> omega)).alloc _).alloc _).alloc _).alloc _).alloc _).alloc _).alloc _, ((((((own_litN ke0 (w.heap.size + 1 + 1) 1 _ (by simp) rfl (by decide) rfl (by simp <;> omega)).alloc _).alloc _).alloc _).alloc _).alloc _).alloc _, (((((own_litN kn1 (w.heap.size + 1 + 1 + 1) 8 _ (by simp) rfl (by decide) rfl (by simp <;> omega)).alloc _).alloc _).alloc _).alloc _).alloc _, ((((own_litN ke1 (w.heap.size + 1 + 1 + 1 + 1) 1 _ (by simp) rfl (by decide) rfl (by simp <;> omega)).alloc _).alloc _).alloc _).alloc _, (((own_litN kn2 (w.heap.size + 1 + 1 + 1 + 1 + 1) 8 _ (by simp) rfl (by decide) rfl (by simp <;> omega)).alloc _).alloc _).alloc _, ((own_litN ke2 (w.heap.size + 1 + 1 + 1 + 1 + 1 + 1) 1 _ (by simp) rfl (by decide) rfl (by simp <;> omega)).alloc _).alloc _, (own_litN kn3 (w.heap.size + 1 + 1 + 1 + 1 + 1 + 1 + 1) 6 _ (by simp) rfl (by decide) rfl (by simp <;> omega)).alloc _, own_litN ke3 (w.heap.size + 1 + 1 + 1 + 1 + 1 + 1 + 1 + 1) 1 _ (by simp) rfl (by decide) rfl (by simp <;> omega), by simp [Value.ownBlock], by simp [Value.ownBlock], by simp [Value.ownBlock], by simp [Value.ownBlock]⟩
theorem pick4K2 {a b c d p q x y : Value} {w : World} {B : Nat} (h : OwnL w B a kn0 ∧ OwnL w B b ke0 ∧ OwnL w B c kn1 ∧ OwnL w B d ke1 ∧ OwnL w B p kn2 ∧ OwnL w B q ke2 ∧ OwnL w B x kn3 ∧ OwnL w B y ke3 ∧ (a.ownBlock ≠ b.ownBlock ∧ c.ownBlock ≠ d.ownBlock ∧ p.ownBlock ≠ q.ownBlock ∧ x.ownBlock ≠ y.ownBlock)) (i : Nat) (hi : i < 4) :
    ∃ vN vE, OwnL w B vN (knL i) ∧ OwnL w B vE (keL i) ∧ vN.ownBlock ≠ vE.ownBlock ∧ ∀ W : World, (Instr.index 51 (.agg #[a, b, c, d, p, q, x, y]) (.int .i64 (i : Nat))).run Tryz.prog W = .ok (.agg #[vN, vE]) W := by
  obtain ⟨h0, h1, h2, h3, h4, h5, h6, h7, n0, n1, n2, n3⟩ := h
  rcases (show i = 0 ∨ i = 1 ∨ i = 2 ∨ i = 3 by omega) with rfl | rfl | rfl | rfl
  · exact ⟨a, b, h0, h1, n0, fun W => by simp [Instr.index, run_underlying Tryz.underlying51, asIntOf, Sem.run_bind, Result.andThen, part_key]⟩
  · exact ⟨c, d, h2, h3, n1, fun W => by simp [Instr.index, run_underlying Tryz.underlying51, asIntOf, Sem.run_bind, Result.andThen, part_key]⟩
  · exact ⟨p, q, h4, h5, n2, fun W => by simp [Instr.index, run_underlying Tryz.underlying51, asIntOf, Sem.run_bind, Result.andThen, part_key]⟩
  · exact ⟨x, y, h6, h7, n3, fun W => by simp [Instr.index, run_underlying Tryz.underlying51, asIntOf, Sem.run_bind, Result.andThen, part_key]⟩

/-! RsaSigned. -/
theorem val_zero2 (l : List Nat) : val (l ++ [0, 0]) = val l := by rw [val_append]; simp [val]
theorem val_zero1 (l : List Nat) : val (l ++ [0]) = val l := by rw [val_append]; simp [val]
theorem bd_app {a b : List Nat} (ha : Bd a) (hb : Bd b) : Bd (a ++ b) := fun x hx => by
  rcases List.mem_append.1 hx with h | h
  · exact ha x h
  · exact hb x h
theorem u64s_app2 (a b : List Nat) : u64s (a ++ b) = u64s a ++ u64s b := by simp [u64s]
theorem u64s_one (l : List Nat) : ∀ u ∈ u64s l, u.oneCell' = true := by
  intro u hu
  obtain ⟨x, _, rfl⟩ := List.mem_map.1 hu
  rfl
theorem own_form64 {w : World} {B n : Nat} {v : Value} {xs : List Value} (h : w.ownsRow B 47 1 v n xs) (hn : 0 < n) : ∃ g c, v = .slice (some ⟨g, 0, none⟩) n c := by
  rcases h.2 with ⟨_, h0⟩ | ⟨g, c, cur, hv, _⟩
  · omega
  · exact ⟨g, c, hv⟩
theorem own_raw64 {w : World} {B n g c : Nat} {l : List Nat} (h : w.ownsRow B 47 1 (.slice (some ⟨g, 0, none⟩) n c) n (u64s l)) (hn : n = l.length) (hb : Bd l) (hl : n ≤ 1000) : Raw w (.slice (some ⟨g, 0, none⟩) n c) (val l) := by
  subst hn
  exact ⟨_, c, l, rfl, (own64.room (zs := l) h).1, (fun h => by cases h), (own64.rd (zs := l) h).2, hb, rfl, hl⟩
theorem kb_grown {w w' : World} {l : Nat} {x y : Value} {o : Obj} {row : Option Nat} (h : w.heap[l]? = some (KO x y)) (hg : (w.alloc o).grownBy w' row) (hr : row ≠ some l) : w'.heap[l]? = some (KO x y) :=
  (Chg.of_grown hg).heap (KO.below h ((Below.refl _ _).alloc (Nat.le_refl _) o)) (fun h2 => hr h2.symm)
theorem xor_ne {x t : Nat} (ht : t ≠ 0) : x ^^^ t ≠ x := fun h => ht (by
  have h2 : x ^^^ (x ^^^ t) = x ^^^ x := by rw [h]
  rw [← Nat.xor_assoc, Nat.xor_self, Nat.zero_xor] at h2
  exact h2)
theorem xor_lt8 {x t : Nat} (hx : x < 256) (ht : t < 256) : x ^^^ t < 256 := Nat.xor_lt_two_pow (n := 8) hx ht
set_option maxHeartbeats 800000 in
set_option maxRecDepth 100000 in
theorem rsaSigned_any {w : World} {vm : Value} {m : List Nat} (hT : Trig w) (hF : Five w) (gm : Raw8 w vm m) (hbm : m.length ≤ 9223372036854775807) (z1 z2 : Int) (t : Nat)
    (h11 : -9223372036854775808 ≤ z1) (h12 : z1 ≤ 9223372036854775807) (h21 : -9223372036854775808 ≤ z2) (h22 : z2 ≤ 9223372036854775807) (ht : t < 256) :
    Calls Tryz.prog 35 #[vm, .int .i64 z1, .int .i64 z2, .int .u8 (t : Nat)] w fun e w' => e = .returned (.bool true) ∧ Below w.heap.size w w' := by
  have HTF := Lib.hid (fun (W : World) (h : Below w.heap.size w W) => And.intro (And.intro (hT.below h) (hF.below h)) (gm.below h))
  have HZ := Lib.hid (And.intro (And.intro h11 h12) (And.intro h21 h22))
  have HTB := Lib.hid ht
  obtain ⟨aM, cM, rfl, -⟩ := gm
  obtain ⟨lm, hlm⟩ : ∃ lm, lm = m.length := ⟨_, rfl⟩
  rw [← hlm] at HTF hbm ⊢
  have HLM := Lib.hid hlm
  clear hT hF h11 h12 h21 h22 ht hlm
  by_cases hm4 : lm ≤ 4096
  · have q1 : decide ((4096 : Int) < (lm : Int)) = false := decide_eq_false (by omega)
    have HM4 : Hid (m.length ≤ 4096) := by show _ ≤ _; rw [← HLM.out]; exact hm4
    clear hm4
    go_enter Tryz.func35, Tryz.ntmps35
    go_wp2_with fail
    refine (pick8_any z1 4 _ HZ.out.1.1 HZ.out.1.2 (by decide) (by decide)).mono ?_
    rintro e w1 ⟨i, rfl, hi, rfl⟩
    have HI := Lib.hid hi
    have HBD := Lib.hid (kn_bd i hi)
    obtain ⟨N, hN⟩ : ∃ N, N = val (knL i) := ⟨_, rfl⟩
    obtain ⟨E, hE⟩ : ∃ E, E = val (keL i) := ⟨_, rfl⟩
    have HN := Lib.hid (And.intro hN hE)
    clear hi hN hE
    go_wp2_with fail
    refine (r8keys _).mono ?_
    rintro e w2 ⟨hb, a, b, c, d, p, q, x, y, rfl, hks⟩
    obtain ⟨vN, vE, oN, oE, hix⟩ := pick4K hks i HI.out
    have rN := own_raw oN HBD.out.1.1 (Nat.le_trans HBD.out.1.2 (by decide))
    have rE := own_raw oE HBD.out.2.1 (by rw [HBD.out.2.2]; decide)
    rw [← HN.out.1] at rN
    rw [← HN.out.2] at rE
    have hk0 := KeyAt.new rN rE
    obtain ⟨aN, lN, cN, rfl⟩ := rN.sl
    obtain ⟨aE, lE, cE, rfl⟩ := rE.sl
    have hal : Below w2.heap.size w2 (w2.alloc (KB (.slice aN lN cN) (.slice aE lE cE))) := (Below.refl _ _).alloc (Nat.le_refl _) _
    obtain ⟨g, hg⟩ : ∃ g, g = w2.heap.size := ⟨_, rfl⟩
    have HB := Lib.hid (hb.trans (hal.mono hb.size))
    rw [← hg] at hk0
    have HG := Lib.hid hg
    clear hb hks rN rE oN oE hal hg
    go_wp2_with fail
    rw [← HG.out]
    generalize w2.alloc (KB (.slice aN lN cN) (.slice aE lE cE)) = w3 at *
    clear HG hix
    have HK := Lib.hid hk0
    have HK3k := Lib.hid hk0
    clear hk0
    refine (r8signed i HI.out _ (HTF.out _ HB.out).2 HM4.out).mono ?_
    rintro e w4 ⟨hb, v4, sl, rfl, hos, hsl⟩
    have HK := Lib.hid (HK.out.below hb)
    have HSL := Lib.hid hsl
    have HOS := Lib.hid hos
    have hln : 0 < sl.length := by rw [hsl.1]; have := (kn_ok i HI.out).size; omega
    obtain ⟨n, hn⟩ : ∃ n, n = sl.length := ⟨_, rfl⟩
    have HNL := Lib.hid hn
    obtain ⟨s0, cs, rfl⟩ : ∃ s0 cs, v4 = .slice (some ⟨s0, 0, none⟩) sl.length cs := by
      rcases hos.2 with ⟨_, h0⟩ | ⟨g', c', cur, hv, _⟩
      · omega
      · exact ⟨g', c', hv⟩
    have hs0 := (World.ownsRow.lt hos s0 rfl).2
    rw [← hn] at HOS ⊢
    have HB3 := Lib.hid HB.out.size
    have HB := Lib.hid (HB.out.trans (hb.mono HB.out.size))
    have HBO := Lib.hid (World.ownsRow.lt hos s0 rfl).1
    have H3W := Lib.hid hb
    have HK3 := HK3k
    clear hb hsl hos hln hn
    go_wp2_with fail
    have HB44 := HB
    refine (r8keys2 _).mono ?_
    rintro e w5 ⟨hb, a', b', c', d', p', q', x', y', rfl, hks⟩
    obtain ⟨vN', vE', oN, oE, hnb, hix⟩ := pick4K2 hks i HI.out
    have HBW := Lib.hid hb
    have HB4 := Lib.hid (show s0 < w4.heap.size ∧ w4.heap.size ≤ w5.heap.size ∧ w.heap.size ≤ w4.heap.size from ⟨hs0, hb.size, HB.out.size⟩)
    have HB := Lib.hid (HB.out.trans (hb.mono HB.out.size))
    obtain ⟨gN', cN', rfl⟩ := own_form64 oN (by rcases (show i = 0 ∨ i = 1 ∨ i = 2 ∨ i = 3 from by have := HI.out; omega) with rfl | rfl | rfl | rfl <;> decide)
    obtain ⟨gE', cE', rfl⟩ := own_form64 oE (by rw [HBD.out.2.2]; decide)
    have HNB : Hid (gN' ≠ gE') := fun h => hnb (by rw [h]; rfl)
    have HON := Lib.hid oN
    have HOE := Lib.hid oE
    clear hb hks oN oE hs0 hnb
    obtain ⟨ln, hln⟩ : ∃ ln, ln = (knL i).length := ⟨_, rfl⟩
    obtain ⟨le, hle⟩ : ∃ le, le = (keL i).length := ⟨_, rfl⟩
    have HLN : Hid (ln = (knL i).length ∧ ln ≤ 8 ∧ 0 < ln ∧ le = 1 ∧ le = (keL i).length) := ⟨hln, by rw [hln]; exact HBD.out.1.2, by rw [hln]; rcases (show i = 0 ∨ i = 1 ∨ i = 2 ∨ i = 3 from by have := HI.out; omega) with rfl | rfl | rfl | rfl <;> decide, by rw [hle]; exact HBD.out.2.2, hle⟩
    have HON : Hid (w5.ownsRow w4.heap.size 47 1 (.slice (some ⟨gN', 0, none⟩) ln cN') ln (u64s (knL i))) := by rw [hln]; exact HON.out
    have HOE : Hid (w5.ownsRow w4.heap.size 47 1 (.slice (some ⟨gE', 0, none⟩) le cE') le (u64s (keL i))) := by rw [hle]; exact HOE.out
    rw [← hln, ← hle] at hix
    clear hln hle
    obtain ⟨l, hl⟩ : ∃ l, l = w5.heap.size := ⟨_, rfl⟩
    have hal : Below w5.heap.size w5 (w5.alloc (KB (.slice (some ⟨gN', 0, none⟩) ln cN') (.slice (some ⟨gE', 0, none⟩) le cE'))) := (Below.refl _ _).alloc (Nat.le_refl _) _
    have hkb : (w5.alloc (KB (.slice (some ⟨gN', 0, none⟩) ln cN') (.slice (some ⟨gE', 0, none⟩) le cE'))).heap[l]? = some (KO (.slice (some ⟨gN', 0, none⟩) ln cN') (.slice (some ⟨gE', 0, none⟩) le cE')) := by rw [hl]; exact heap_new w5 _
    have hsz6 : (w5.alloc (KB (.slice (some ⟨gN', 0, none⟩) ln cN') (.slice (some ⟨gE', 0, none⟩) le cE'))).heap.size = l + 1 := by simp [hl]
    have hgl : gN' < l ∧ gE' < l := by rw [hl]; exact ⟨(World.ownsRow.lt HON.out gN' rfl).2, (World.ownsRow.lt HOE.out gE' rfl).2⟩
    have HON := Lib.hid (World.ownsRow.alloc HON.out (KB (.slice (some ⟨gN', 0, none⟩) ln cN') (.slice (some ⟨gE', 0, none⟩) le cE')))
    have HOE := Lib.hid (World.ownsRow.alloc HOE.out (KB (.slice (some ⟨gN', 0, none⟩) ln cN') (.slice (some ⟨gE', 0, none⟩) le cE')))
    have HBW := Lib.hid (HBW.out.trans (hal.mono HBW.out.size))
    have HL := Lib.hid (And.intro hgl (show w4.heap.size ≤ l by rw [hl]; exact HB4.out.2.1))
    have HLE := Lib.hid hl
    clear hal hgl hl
    go_upto_region 7 with fail
    rw [← HLE.out]
    generalize w5.alloc (KB (.slice (some ⟨gN', 0, none⟩) ln cN') (.slice (some ⟨gE', 0, none⟩) le cE')) = w6 at *
    clear HLE hix
    have HS6 := Lib.hid hsz6
    have HKB := Lib.hid hkb
    obtain ⟨hc0, hc1⟩ := KO.cells hkb
    clear hkb hsz6
    have hlen : ln + 2 ≤ 4398046511104 := by have := HLN.out; omega
    have hszz : w4.heap.size ≤ (w6.alloc (.cells (u64s [0, 0]).toArray 47)).heap.size := by have := HL.out; simp [HS6.out]; omega
    have hnews : ∀ (j : Nat) u, (u64s [0, 0])[j]? = some u → (w6.alloc (.cells (u64s [0, 0]).toArray 47)).cell? ((⟨w6.heap.size, 0, none⟩ : Addr).add j) = some u := fun j u hu => by
      rw [show (⟨w6.heap.size, 0, none⟩ : Addr).add j = ⟨w6.heap.size, j, none⟩ by unfold Addr.add; split <;> simp_all, World.cell?_alloc_at _ _ _ _ rfl]
      simpa using hu
    have HNW := Lib.hid hnews
    clear hnews
    go_upto_region 8 with (at_builtin; go_loud (refine wpl_appN 23 47 Tryz.underlying23 info64 rfl (by decide) rfl _ _ rfl w4.heap.size _ ln (u64s (knL i)) rfl (World.ownsRow.alloc HON.out _) (some ⟨w6.heap.size, 0, none⟩) 2 2 rfl (u64s [0, 0]) rfl (fun _ => ⟨_, rfl, HNW.out⟩) (fun h => by cases h) (u64s_one _) hlen hszz ?_; intro v7 w7 hown7 hg7 hor7 _; obtain ⟨g7, c7, rfl⟩ := own_form64 hown7 (by omega); have HO7 := Lib.hid hown7; have HG7 := Lib.hid hg7; have HR7 := Lib.hid hor7; have hkb7 := kb_grown HKB.out hg7 (fun h => by have h2 : gN' = l := Option.some.inj h; have := HL.out; omega); obtain ⟨hc0, hc1⟩ := KO.cells hkb7; have hz0 := frozen_alloc (i := 0) hkb7; have hz1 := frozen_alloc (i := 1) hkb7; have HKB7 := Lib.hid hkb7; clear hown7 hg7 hor7 hkb7))
    have hg7 : g7 = gN' ∨ l < g7 := by
      rcases HR7.out g7 rfl with h | h
      · exact .inl (Option.some.inj h).symm
      · refine .inr ?_
        rw [h]
        simp [HS6.out]
        omega
    have hne7 : g7 ≠ l := by have := HL.out; omega
    have HG7N := Lib.hid (show (g7 = gN' ∨ l < g7) ∧ g7 ≠ l from ⟨hg7, hne7⟩)
    have hkb8 : (w7.setCell ⟨l, 0, none⟩ (.slice (some ⟨g7, 0, none⟩) (ln + 2) c7)).heap[l]? = some (KO (.slice (some ⟨g7, 0, none⟩) (ln + 2) c7) (.slice (some ⟨gE', 0, none⟩) le cE')) := heap_setCell_same w7 l 0 _ _ _ HKB7.out
    have hch : Chg (fun k => k = l) w7 (w7.setCell ⟨l, 0, none⟩ (.slice (some ⟨g7, 0, none⟩) (ln + 2) c7)) := (Chg.refl (fun k => k = l) w7).setCell (p := ⟨l, 0, none⟩) rfl _
    have HO8 := Lib.hid (hch.owns HO7.out (fun k hk he => hne7 (by rw [← he]; exact Option.some.inj hk)))
    have HE7 : w7.ownsRow w4.heap.size 47 1 (.slice (some ⟨gE', 0, none⟩) le cE') le (u64s (keL i)) :=
      (Chg.of_grown HG7.out).owns (World.ownsRow.alloc HOE.out _) (fun k hk he => HNB.out (by have h1 : gE' = k := Option.some.inj hk; have h2 : k = gN' := Option.some.inj he; omega))
    have HE8 := Lib.hid (hch.owns HE7 (fun k hk he => by have h1 : gE' = k := Option.some.inj hk; have := HL.out; omega))
    have HBW := Lib.hid (((HBW.out.alloc HBW.out.size (.cells (u64s [0, 0]).toArray 47)).grown HG7.out hszz (fun k hk => (World.ownsRow.lt HON.out k hk).1)).setCell (p := ⟨l, 0, none⟩) HL.out.2 (.slice (some ⟨g7, 0, none⟩) (ln + 2) c7))
    have hs8 : l + 1 ≤ (w7.setCell ⟨l, 0, none⟩ (.slice (some ⟨g7, 0, none⟩) (ln + 2) c7)).heap.size := by have := lt_of_block hkb8; omega
    clear hc0 hc1 hz0 hz1 HKB7 HO7 HG7 HR7 HON HOE HE7 hch hne7 hg7 HKB HS6 HNW hlen hszz
    generalize w7.setCell ⟨l, 0, none⟩ (.slice (some ⟨g7, 0, none⟩) (ln + 2) c7) = w8 at *
    have HKB := Lib.hid hkb8
    have HS8 := Lib.hid hs8
    obtain ⟨hc0, hc1⟩ := KO.cells hkb8
    have hlen : le + 1 ≤ 4398046511104 := by have := HLN.out; omega
    have hszz : w4.heap.size ≤ (w8.alloc (.cells #[.int .u64 0] 47)).heap.size := by have := HL.out; have := HS8.out; simp; omega
    clear hkb8 hs8
    go_upto_region 9 with (at_builtin; refine wpl_app 23 47 Tryz.underlying23 info64 rfl (by decide) rfl _ _ rfl w4.heap.size (.slice (some ⟨gE', 0, none⟩) le cE') le (u64s (keL i)) rfl (World.ownsRow.alloc HE8.out _) w8.heap.size _ rfl (World.cell?_alloc_at _ _ _ _ rfl) rfl hlen hszz ?_; intro g9 c9 w9 hown9 hg9 hBg9 hlt9 hor9; have HO9 := Lib.hid hown9; have HG9 := Lib.hid hg9; have HR9 := hor9; have hkb9 := kb_grown HKB.out hg9 (fun h => by have h2 : gE' = l := Option.some.inj h; have := HL.out; omega); obtain ⟨hc0, hc1⟩ := KO.cells hkb9; have hz0 := frozen_alloc (i := 0) hkb9; have hz1 := frozen_alloc (i := 1) hkb9; have HKB9 := Lib.hid hkb9; clear hown9 hg9 hor9 hkb9)
    have hg9 : g9 = gE' ∨ l < g9 := by
      rcases HR9.out with h | h
      · exact .inl (Option.some.inj h).symm
      · refine .inr ?_
        rw [h]
        have := HS8.out
        simp
        omega
    have hne9 : g9 ≠ l := by have := HL.out; omega
    have hkb10 : (w9.setCell ⟨l, 1, none⟩ (.slice (some ⟨g9, 0, none⟩) (le + 1) c9)).heap[l]? = some (KO (.slice (some ⟨g7, 0, none⟩) (ln + 2) c7) (.slice (some ⟨g9, 0, none⟩) (le + 1) c9)) := heap_setCell_same w9 l 1 _ _ _ HKB9.out
    have hch : Chg (fun k => k = l) w9 (w9.setCell ⟨l, 1, none⟩ (.slice (some ⟨g9, 0, none⟩) (le + 1) c9)) := (Chg.refl (fun k => k = l) w9).setCell (p := ⟨l, 1, none⟩) rfl _
    have hE10 := hch.owns HO9.out (fun k hk he => hne9 (by rw [← he]; exact Option.some.inj hk))
    have hN9 := (Chg.of_grown HG9.out).owns (World.ownsRow.alloc HO8.out _) (fun k hk he => by
      have h1 : g7 = k := Option.some.inj hk
      have h2 : k = gE' := Option.some.inj he
      have h3 := HL.out
      have h4 := HNB.out
      have h5 := HG7N.out
      omega)
    have hN10 := hch.owns hN9 (fun k hk he => by have h1 : g7 = k := Option.some.inj hk; have := HG7N.out; have := HL.out; omega)
    have hBW := ((HBW.out.alloc HBW.out.size (.cells #[.int .u64 0] 47)).grown HG9.out hszz (fun k hk => (World.ownsRow.lt HE8.out k hk).1)).setCell (p := ⟨l, 1, none⟩) HL.out.2 (.slice (some ⟨g9, 0, none⟩) (le + 1) c9)
    rw [← u64s_app2] at hN10
    have hE10' : (w9.setCell ⟨l, 1, none⟩ (.slice (some ⟨g9, 0, none⟩) (le + 1) c9)).ownsRow w4.heap.size 47 1 (.slice (some ⟨g9, 0, none⟩) (le + 1) c9) (le + 1) (u64s (keL i ++ [0])) := by rw [u64s_app2]; exact hE10
    have hrN : Raw (w9.setCell ⟨l, 1, none⟩ (.slice (some ⟨g9, 0, none⟩) (le + 1) c9)) (.slice (some ⟨g7, 0, none⟩) (ln + 2) c7) N := by
      have h := own_raw64 hN10 (by rw [List.length_append, ← HLN.out.1]; rfl) (bd_app HBD.out.1.1 (fun x hx => by simp at hx; omega)) (by have := HLN.out; omega)
      rw [val_zero2, ← HN.out.1] at h
      exact h
    have hrE : Raw (w9.setCell ⟨l, 1, none⟩ (.slice (some ⟨g9, 0, none⟩) (le + 1) c9)) (.slice (some ⟨g9, 0, none⟩) (le + 1) c9) E := by
      have h := own_raw64 hE10' (by rw [List.length_append, ← HLN.out.2.2.2.2]; rfl) (bd_app HBD.out.2.1 (fun x hx => by simp at hx; omega)) (by have := HLN.out; omega)
      rw [val_zero1, ← HN.out.2] at h
      exact h
    obtain ⟨hd0, hd1⟩ := KO.cells hkb10
    have HKL : Hid (KeyAt (w9.setCell ⟨l, 1, none⟩ (.slice (some ⟨g9, 0, none⟩) (le + 1) c9)) l (.slice (some ⟨g7, 0, none⟩) (ln + 2) c7) (.slice (some ⟨g9, 0, none⟩) (le + 1) c9) N E) := ⟨hd0, hd1, hrN, hrE⟩
    have HBW := Lib.hid hBW
    clear hc0 hc1 hz0 hz1 HKB9 HO9 HG9 HR9 HO8 HE8 hE10 hE10' hN9 hN10 hch hne9 hg9 HKB HS8 hlen hszz hkb10 hd0 hd1 hrN hrE hBW hBg9 hlt9
    generalize w9.setCell ⟨l, 1, none⟩ (.slice (some ⟨g9, 0, none⟩) (le + 1) c9) = w10 at *
    have HB := Lib.hid (HB44.out.trans (HBW.out.mono HB44.out.size))
    have H3W := Lib.hid (H3W.out.trans (HBW.out.mono H3W.out.size))
    have HK := Lib.hid (HK.out.below HBW.out)
    have HOS := Lib.hid (own8_below HOS.out HBW.out)
    have HBO2 := Lib.hid (And.intro HBO.out HB3.out)
    have HSR : Hid (∀ W, own8 W w3.heap.size (.slice (some ⟨s0, 0, none⟩) n cs) sl → Raw8 W (.slice (some ⟨s0, 0, none⟩) n cs) sl) := fun W h => own8_raw h HSL.out.2.1
    clear HBW HB44 HL HNB HG7N HLN HBD HB4
    have hc0 := HK.out.c0
    have hc1 := HK.out.c1
    have hd0 := HKL.out.c0
    have hd1 := HKL.out.c1
    have HL4 : Hid (m.length ≤ 549755813888 ∧ sl.length ≤ 1099511627776) := ⟨Nat.le_trans HM4.out (by decide), by rw [HSL.out.1]; exact Nat.le_trans (kn_ok i HI.out).size.2 (by decide)⟩
    go_wp2_with fail
    refine (p_verify (HTF.out _ HB.out).1.1 (HTF.out _ HB.out).1.2 HK.out.rN HK.out.rE (HTF.out _ HB.out).2 (HSR.out _ HOS.out) HL4.out.1 HL4.out.2).mono ?_
    rintro e w11 ⟨hb, v, rfl, hV⟩
    rw [HN.out.1, HN.out.2] at hV
    obtain rfl := HSL.out.ok HI.out hV
    have HK := Lib.hid (HK.out.below hb)
    have H3W := Lib.hid (H3W.out.trans (hb.mono H3W.out.size))
    have HKL := Lib.hid (HKL.out.below hb)
    have HOS := Lib.hid (own8_below HOS.out hb)
    have HB := Lib.hid (HB.out.trans (hb.mono HB.out.size))
    clear hb hV hc0 hc1 hd0 hd1
    have hd0 := HKL.out.c0
    have hd1 := HKL.out.c1
    go_wp2_with fail
    refine (p_verify (HTF.out _ HB.out).1.1 (HTF.out _ HB.out).1.2 HKL.out.rN HKL.out.rE (HTF.out _ HB.out).2 (HSR.out _ HOS.out) HL4.out.1 HL4.out.2).mono ?_
    rintro e w12 ⟨hb, v, rfl, hV⟩
    rw [HN.out.1, HN.out.2] at hV
    obtain rfl := HSL.out.ok HI.out hV
    have HK := Lib.hid (HK.out.below hb)
    have HOS := Lib.hid (own8_below HOS.out hb)
    have HB := Lib.hid (HB.out.trans (hb.mono HB.out.size))
    have H3W := Lib.hid (H3W.out.trans (hb.mono H3W.out.size))
    clear hb hV hd0 hd1 HKL HSR
    have hn0 : 0 < n ∧ n ≤ 512 ∧ 46 ≤ n := by have h1 := (kn_ok i HI.out).size; rw [HNL.out, HSL.out.1]; omega
    have HN0 := Lib.hid hn0
    clear hn0
    go_wp2_with fail
    refine (pick8_any z2 n _ HZ.out.2.1 HZ.out.2.2 HN0.out.1 (by have := HN0.out; omega)).mono ?_
    rintro e w13 ⟨j, rfl, hj, rfl⟩
    have HJ := Lib.hid hj
    obtain ⟨x0, hx0⟩ : ∃ x0, x0 = at0 sl j := ⟨_, rfl⟩
    have hjl : j < sl.length := by rw [← HNL.out]; exact hj
    have hos : w12.ownsRow w3.heap.size 5 1 (.slice (some ⟨s0, 0, none⟩) n cs) n (u8s sl) := by have h := HOS.out; unfold own8 at h; rw [← HNL.out] at h; exact h
    have hcx : w12.cell? ⟨s0, j, none⟩ = some (.int .u8 (x0 : Nat)) := by
      rw [World.ownsRow.cellAt hos j (by omega), u8s_at sl j hjl, hx0]
    have hfz : w12.frozen? ⟨s0, j, none⟩ = false := World.ownsRow.frozenAt hos j
    have HOW := Lib.hid hos
    clear hos
    have hx8 : x0 < 256 := by rw [hx0, at0_getElem hjl]; exact HSL.out.2.1 _ (List.getElem_mem hjl)
    have HX0 := Lib.hid hx0
    have hjI : (j : Int) < (n : Int) := by omega
    have hj0 : (0 : Int) ≤ (j : Int) := by omega
    have hwj : IntKind.i64.wrap (j : Int) = (j : Int) := wrap_i64_nat _ (by have := HN0.out; omega)
    have hn46 : n ≤ 512 := HN0.out.2.1
    clear hx0
    obtain ⟨t', ht'⟩ : ∃ t', t' = if t = 0 then 1 else t := ⟨_, rfl⟩
    have ht8 : t' < 256 ∧ t' ≠ 0 := by
      rw [ht']
      have := HTB.out
      split <;> omega
    obtain ⟨y0, hy0⟩ : ∃ y0, y0 = x0 ^^^ t' := ⟨_, rfl⟩
    have hxor : bits BinOp.xor IntKind.u8 (x0 : Int) (t' : Int) = (y0 : Int) := by rw [hy0]; exact u8_xor_nat x0 t' hx8 ht8.1
    have HY0 : Hid (y0 < 256 ∧ y0 ≠ x0) := ⟨by rw [hy0]; exact xor_lt8 hx8 ht8.1, by rw [hy0]; exact xor_ne ht8.2⟩
    have key : (((t : Nat) : Int) == 0) = true ∧ t' = 1 ∨ (((t : Nat) : Int) == 0) = false ∧ t' = t := by
      rw [ht']
      by_cases h : t = 0
      · exact .inl ⟨by simp [h], if_pos h⟩
      · exact .inr ⟨by simp; omega, if_neg h⟩
    clear ht' ht8 hy0 hx8
    rcases key with ⟨hz, rfl⟩ | ⟨hz, rfl⟩
    all_goals
      try (have hxor : bits BinOp.xor IntKind.u8 (x0 : Int) 1 = (y0 : Int) := hxor)
      go_upto_region 15 with fail
      have hset := ow8.set HOW.out j y0
      have hls : (sl.set j y0).length = n := by rw [List.length_set, ← HNL.out]
      have h8s : B8 (sl.set j y0) := fun z hz => by
        rcases List.mem_or_eq_of_mem_set hz with h | h
        · exact HSL.out.2.1 z h
        · rw [h]; exact HY0.out.1
      have hnes : sl.set j y0 ≠ sl := fun h => by
        have h1 : (sl.set j y0)[j]? = sl[j]? := by rw [h]
        have hjl : j < sl.length := by rw [← HNL.out]; exact HJ.out
        rw [List.getElem?_set_self hjl, List.getElem?_eq_getElem hjl] at h1
        apply HY0.out.2
        rw [HX0.out, at0_getElem hjl]
        exact Option.some.inj h1
      have HNE := Lib.hid (And.intro hls (And.intro h8s hnes))
      have HB := Lib.hid (HB.out.setCell (p := ⟨s0, j, none⟩) (Nat.le_trans HBO2.out.2 HBO2.out.1) (.int .u8 (y0 : Nat)))
      have H3W := Lib.hid (H3W.out.setCell (p := ⟨s0, j, none⟩) HBO2.out.1 (.int .u8 (y0 : Nat)))
      have HK := Lib.hid (HK3.out.below H3W.out)
      clear hcx hfz hls h8s hnes hxor HOW
      generalize w12.setCell ⟨s0, j, none⟩ (.int .u8 (y0 : Nat)) = w13 at *
      have HOW := Lib.hid hset
      clear hset
      have HRS : Hid (∀ W, W.ownsRow w3.heap.size 5 1 (.slice (some ⟨s0, 0, none⟩) n cs) n (u8s (sl.set j y0)) → Raw8 W (.slice (some ⟨s0, 0, none⟩) n cs) (sl.set j y0)) := fun W h =>
        own8_raw (show own8 W w3.heap.size _ _ by unfold own8; rw [HNE.out.1]; exact h) HNE.out.2.1
      have HLS2 : Hid ((sl.set j y0).length ≤ 1099511627776) := by show _ ≤ _; rw [HNE.out.1]; have := HN0.out; omega
      have hc0 := HK.out.c0
      have hc1 := HK.out.c1
      go_wp2_with fail
      refine (p_verify (HTF.out _ HB.out).1.1 (HTF.out _ HB.out).1.2 HK.out.rN HK.out.rE (HTF.out _ HB.out).2 (HRS.out _ HOW.out) HL4.out.1 HLS2.out).mono ?_
      rintro e w14 ⟨hb, v, rfl, hV⟩
      rw [HN.out.1, HN.out.2] at hV
      have hvv := HSL.out.other HI.out (by rw [HNE.out.1, HNL.out]) HNE.out.2.1 HNE.out.2.2 hV
      have HK := Lib.hid (HK.out.below hb)
      have HOW := Lib.hid ((Chg.of_below hb).owns HOW.out (fun k hk => by have := (World.ownsRow.lt HOW.out k hk).2; omega))
      have HB := Lib.hid (HB.out.trans (hb.mono HB.out.size))
      have HKO : Hid (KeyOk N E) := by show KeyOk N E; rw [HN.out.1, HN.out.2]; exact kn_ok i HI.out
      obtain ⟨c1', hc1'⟩ : ∃ c', cs = c' + 1 := ⟨cs - 1, by
        have h := (own8_raw (show own8 w14 w3.heap.size (.slice (some ⟨s0, 0, none⟩) n cs) (sl.set j y0) by unfold own8; rw [HNE.out.1]; exact HOW.out) HNE.out.2.1)
        obtain ⟨a', c', e', h1, _⟩ := h
        simp only [Value.slice.injEq] at e'
        have := HN0.out
        omega⟩
      obtain ⟨n1, hn1⟩ : ∃ n1, n = n1 + 1 := ⟨n - 1, by have := HN0.out; omega⟩
      have HRD : Hid (∀ W, W.ownsRow w3.heap.size 5 1 (.slice (some ⟨s0, 0, none⟩) n cs) n (u8s (sl.set j y0)) → Raw8 W (.slice (some ⟨s0, 1, none⟩) n1 c1') ((sl.set j y0).drop 1)) := fun W h => by
        obtain ⟨_, _, e', h1, _, hr, h8⟩ := HRS.out W h
        simp only [Value.slice.injEq] at e'
        obtain ⟨rfl, hln, rfl⟩ := e'
        refine ⟨some ⟨s0, 1, none⟩, c1', by rw [List.length_drop, HNE.out.1, hn1]; rfl, by rw [List.length_drop, HNE.out.1]; omega, (fun h => by cases h), ?_, fun z hz => h8 z (List.mem_of_mem_drop hz)⟩
        exact Rd.tail hr
      have HLD : Hid (¬ SigOk N ((sl.set j y0).drop 1) ∧ ((sl.set j y0).drop 1).length ≤ 1099511627776) := by
        refine ⟨fun h => ?_, by rw [List.length_drop, HNE.out.1]; have := HN0.out; omega⟩
        have h1 := h.1
        have h2 := HSL.out.1
        rw [← HN.out.1] at h2
        rw [List.length_drop, HNE.out.1, HNL.out, h2] at h1
        have h3 := HN0.out
        rw [HNL.out, h2] at h3
        omega
      have hs1 : (n : Int) - 1 = (n1 : Int) := by omega
      have hs2 : (cs : Int) - 1 = (c1' : Int) := by omega
      have hk1 : (1 : Int) ≤ (n : Int) := by have := HN0.out; omega
      have hk2 : (n : Int) ≤ (cs : Int) := by
        obtain ⟨_, _, e', h1, _⟩ := HRS.out _ HOW.out
        simp only [Value.slice.injEq] at e'
        rw [HNE.out.1] at h1
        omega
      have hk3 : ¬ (cs = 1) := by have := HN0.out; omega
      have hk4 : n ≤ cs := by omega
      have hk5 : 1 ≤ n := by omega
      have hk6 : n - 1 = n1 := by omega
      have hk7 : cs - 1 = c1' := by omega
      clear hb hV hc0 hc1 hc1' hn1
      have HSS0 : Hid ((fun W : World => W.cell? ⟨g, 0, none⟩ = some (.slice aN lN cN) ∧ W.cell? ⟨g, 1, none⟩ = some (.slice aE lE cE)) (World.drew w14)) := ⟨HK.out.c0, HK.out.c1⟩
      rcases hvv with rfl | rfl
      all_goals
        go_upto_region 16 with fail
        refine wp_region_held (S := fun W => W.cell? ⟨g, 0, none⟩ = some (.slice aN lN cN) ∧ W.cell? ⟨g, 1, none⟩ = some (.slice aE lE cE)) (by kernel_rfl) ?_
        change wpAnyH _ _ _ _ _ _ _ _ (World.drew _)
        have HSS := HSS0
        have HK := Lib.hid (HK.out.below (Below.refl _ _).drew)
        have HOW : Hid ((World.drew w14).ownsRow w3.heap.size 5 1 (.slice (some ⟨s0, 0, none⟩) n cs) n (u8s (sl.set j y0))) := HOW.out
        have HB := Lib.hid HB.out.drew
        refine wpAnyH_take (i := 0) (v := ?_) rfl (by kernel_rfl) (by kernel_rfl) (by kernel_rfl) (fun _ _ _ h => h) (Or.inl ⟨by rfl, ?_⟩) HSS.out ?_
        case refine_2 => (rintro W ⟨c0, c1⟩; go_simp; try (with_reducible rfl))
        refine wpAnyH_take (i := 1) (v := ?_) rfl (by kernel_rfl) (by kernel_rfl) (by kernel_rfl) (fun _ _ _ h => h) (Or.inl ⟨by rfl, ?_⟩) HSS.out ?_
        case refine_2 => (rintro W ⟨c0, c1⟩; go_simp; try (with_reducible rfl))
        refine wpAnyH_take (i := 2) (v := ?_) rfl (by kernel_rfl) (by kernel_rfl) (by kernel_rfl) (fun _ _ _ h => h) (Or.inl ⟨by rfl, ?_⟩) HSS.out ?_
        case refine_2 => (rintro W ⟨c0, c1⟩; go_simp; try (with_reducible rfl))
        go_simp
        refine wpAnyH_take (i := 3) (v := ?_) rfl (by kernel_rfl) (by kernel_rfl) (by kernel_rfl) (fun _ _ _ h => h) (Or.inl ⟨by rfl, ?_⟩) HSS.out ?_
        case refine_2 => (rintro W ⟨c0, c1⟩; go_simp; try (with_reducible rfl))
        refine wpAnyH_take (i := 4) (v := ?_) rfl (by kernel_rfl) (by kernel_rfl) (by kernel_rfl) (fun _ _ _ h => h) (Or.inl ⟨by rfl, ?_⟩) HSS.out ?_
        case refine_2 => (rintro W ⟨c0, c1⟩; go_simp; try (with_reducible rfl))
        refine wpAnyH_take (i := 5) (v := ?_) rfl (by kernel_rfl) (by kernel_rfl) (by kernel_rfl) (fun _ _ _ h => h) (Or.inl ⟨by rfl, ?_⟩) HSS.out ?_
        case refine_2 => (rintro W ⟨c0, c1⟩; go_simp; try (with_reducible rfl))
        go_simp
        first
        | (refine wpAnyH_take (i := 6) (v := ?_) rfl (by kernel_rfl) (by kernel_rfl) (by kernel_rfl) (fun _ _ _ h => h) (Or.inl ⟨by rfl, ?_⟩) HSS.out ?_
           case refine_2 => (rintro W ⟨c0, c1⟩; go_simp; try (with_reducible rfl)))
        | refine wpAnyH_take (i := 6) (v := undef) rfl (by kernel_rfl) (by kernel_rfl) (by kernel_rfl) (fun _ _ _ h => h) (Or.inr ⟨by rfl, rfl⟩) HSS.out ?_
        first
        | (refine wpAnyH_take (i := 7) (v := ?_) rfl (by kernel_rfl) (by kernel_rfl) (by kernel_rfl) (fun _ _ _ h => h) (Or.inl ⟨by rfl, ?_⟩) HSS.out ?_
           case refine_2 => (rintro W ⟨c0, c1⟩; go_simp; try (with_reducible rfl)))
        | refine wpAnyH_take (i := 7) (v := undef) rfl (by kernel_rfl) (by kernel_rfl) (by kernel_rfl) (fun _ _ _ h => h) (Or.inr ⟨by rfl, rfl⟩) HSS.out ?_
        refine wpAnyH_take (i := 8) (v := ?_) rfl (by kernel_rfl) (by kernel_rfl) (by kernel_rfl) (fun _ _ _ h => h) (Or.inl ⟨by rfl, ?_⟩) HSS.out ?_
        case refine_2 => (rintro W ⟨c0, c1⟩; go_simp; try (with_reducible rfl))
        go_simp
        refine wpAnyH_take (i := 9) (v := ?_) rfl (by kernel_rfl) (by kernel_rfl) (by kernel_rfl) (fun _ _ _ h => h) (Or.inl ⟨by rfl, ?_⟩) HSS.out ?_
        case refine_2 => (rintro W ⟨c0, c1⟩; go_simp; try (with_reducible rfl))
        refine wpAnyH_take (i := 10) (v := ?_) rfl (by kernel_rfl) (by kernel_rfl) (by kernel_rfl) (fun _ _ _ h => h) (Or.inl ⟨by rfl, ?_⟩) HSS.out ?_
        case refine_2 => (rintro W ⟨c0, c1⟩; go_simp; try (with_reducible rfl))
        refine wpAnyH_take (i := 11) (v := ?_) rfl (by kernel_rfl) (by kernel_rfl) (by kernel_rfl) (fun _ _ _ h => h) (Or.inl ⟨by rfl, ?_⟩) HSS.out ?_
        case refine_2 => (rintro W ⟨c0, c1⟩; go_simp; try (with_reducible rfl))
        go_simp
        refine wpAnyH_take (i := 12) (v := ?_) rfl (by kernel_rfl) (by kernel_rfl) (by kernel_rfl) (fun _ _ _ h => h) (Or.inl ⟨by rfl, ?_⟩) HSS.out ?_
        case refine_2 => (rintro W ⟨c0, c1⟩; go_simp; try (with_reducible rfl))
        refine wpAnyH_take (i := 13) (v := ?_) rfl (by kernel_rfl) (by kernel_rfl) (by kernel_rfl) (fun _ _ _ h => h) (Or.inl ⟨by rfl, ?_⟩) HSS.out ?_
        case refine_2 => (rintro W ⟨c0, c1⟩; go_simp; try (with_reducible rfl))
        refine wpAnyH_take (i := 14) (v := ?_) rfl (by kernel_rfl) (by kernel_rfl) (by kernel_rfl) (fun _ _ _ h => h) (Or.inl ⟨by rfl, ?_⟩) HSS.out ?_
        case refine_2 => (rintro W ⟨c0, c1⟩; go_simp; try (with_reducible rfl))
        go_simp
        refine wpAnyH_op (i := 15) (by kernel_rfl) rfl (by rfl) (fun K hK => ?_)
        go_simp
        go_at_call 63
        refine (p_verify (HTF.out _ HB.out).1.1 (HTF.out _ HB.out).1.2 HK.out.rN HK.out.rE (HTF.out _ HB.out).2 (HRD.out _ HOW.out) HL4.out.1 HLD.out.2).mono ?_
        rintro e w15 ⟨hb, v, rfl, hV⟩
        obtain rfl := hV.off HKO.out HLD.out.1
        go_simp
        have HK := Lib.hid (HK.out.below hb)
        have HSS : Hid ((fun W : World => W.cell? ⟨g, 0, none⟩ = some (.slice aN lN cN) ∧ W.cell? ⟨g, 1, none⟩ = some (.slice aE lE cE)) w15) := ⟨HK.out.c0, HK.out.c1⟩
        have HB := Lib.hid (HB.out.trans (hb.mono HB.out.size))
        refine hK _ _ HSS.out ?_
        clear hK K hb hV
        refine wpAnyH_take (i := 16) (v := ?_) rfl (by kernel_rfl) (by kernel_rfl) (by kernel_rfl) (fun _ _ _ h => h) (Or.inl ⟨by rfl, ?_⟩) HSS.out ?_
        case refine_2 => (rintro W ⟨c0, c1⟩; go_simp; try (with_reducible rfl))
        refine wpAnyH_take (i := 17) (v := ?_) rfl (by kernel_rfl) (by kernel_rfl) (by kernel_rfl) (fun _ _ _ h => h) (Or.inl ⟨by rfl, ?_⟩) HSS.out ?_
        case refine_2 => (rintro W ⟨c0, c1⟩; go_simp; try (with_reducible rfl))
        refine wpAnyH_take (i := 18) (v := ?_) rfl (by kernel_rfl) (by kernel_rfl) (by kernel_rfl) (fun _ _ _ h => h) (Or.inl ⟨by rfl, ?_⟩) HSS.out ?_
        case refine_2 => (rintro W ⟨c0, c1⟩; go_simp; try (with_reducible rfl))
        go_simp
        refine wpAnyH_op (i := 19) (by kernel_rfl) rfl (by rfl) (fun K hK => ?_)
        go_simp
        go_at_call 29
        refine (works8_any _ (HTF.out _ HB.out).1.1 (HTF.out _ HB.out).1.2).mono ?_
        rintro e w16 ⟨rfl, hb⟩
        go_simp
        have HK := Lib.hid (HK.out.below hb)
        have HSS : Hid ((fun W : World => W.cell? ⟨g, 0, none⟩ = some (.slice aN lN cN) ∧ W.cell? ⟨g, 1, none⟩ = some (.slice aE lE cE)) w16) := ⟨HK.out.c0, HK.out.c1⟩
        have HB := Lib.hid (HB.out.trans (hb.mono HB.out.size))
        refine hK _ _ HSS.out ?_
        clear hK K hb
        refine wpAnyH_take (i := 20) (v := ?_) rfl (by kernel_rfl) (by kernel_rfl) (by kernel_rfl) (fun _ _ _ h => h) (Or.inl ⟨by rfl, ?_⟩) HSS.out ?_
        case refine_2 => (rintro W ⟨c0, c1⟩; go_simp; try (with_reducible rfl))
        refine wpAnyH_take (i := 21) (v := ?_) rfl (by kernel_rfl) (by kernel_rfl) (by kernel_rfl) (fun _ _ _ h => h) (Or.inl ⟨by rfl, ?_⟩) HSS.out ?_
        case refine_2 => (rintro W ⟨c0, c1⟩; go_simp; try (with_reducible rfl))
        go_simp
        refine wpAnyH_done (by kernel_rfl) ?_ _
        go_wp2
        go_ret
        exact ⟨rfl, HB.out⟩
  · have q1 : decide ((4096 : Int) < (lm : Int)) = true := decide_eq_true (by omega)
    clear hm4
    go_enter Tryz.func35, Tryz.ntmps35
    go_wp2
    go_ret
    exact ⟨rfl, Below.refl _ _⟩
end Go.Proofs.YtaookoejdnkkoaaGreatDoor
