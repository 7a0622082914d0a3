import Derived.Test.YthhchpmlljfpjaaGreatMP4
import Derived.Test.YthhchpmlljfpjaaGreatMP3
import Derived.Test.YthhchpmlljfpjaaGreatNfM
namespace Go.Proofs.YthhchpmlljfpjaaGreat
open Go.RowKit

section
/-! Has, in the program. -/
/-- What Has tells. -/
noncomputable def hasV (L : List St) (q : Int) (T : List Nat) : Bool × Nat × Int :=
  if chkM L q ≠ 0 then (false, 0, chkM L q) else if 65536 < T.length then (false, 0, 3) else ((hasM L q.toNat T).1, (hasM L q.toNat T).2, 0)
theorem chk_mach {L : List St} {q : Int} (h : chkM L q = 0) : MachOk L q.toNat ∧ 0 ≤ q := by
  unfold chkM at h
  by_cases hc : L.length ≤ 4096 ∧ (0 ≤ q ∧ q < (L.length : Int)) ∧ (L.all (okS L.length)) = true
  · exact ⟨⟨hc.1, by omega, hc.2.2⟩, hc.2.1.1⟩
  · rw [if_neg hc] at h; cases h
theorem b_next {w a b : World} (h : Below w.heap.size w a) (k : Below a.heap.size a b) : Below w.heap.size w b := h.trans (k.mono h.size)
theorem RunM.ap {w w' : World} {rb l1 i1 N l2 i2 c q : Nat} {a : Option Addr} {s : ByteArray} (h : RunM w w' rb l1 i1 N l2 i2 a c q s) (hf : ∀ b, a = some b → b.block < w.heap.size) : Ap (fun k => w.heap.size ≤ k) a rb l1 i1 l2 i2 :=
  ⟨h.r1.1, h.r1.2.1, h.r1.2.2.1, h.r1.2.2.2, h.r2.1, h.r2.2.1, h.r2.2.2.1, h.r2.2.2.2, h.new.1, h.new.2.1, h.new.2.2.1, h.new.2.2.2.1, h.new.2.2.2.2, fun b e => Nat.not_le.2 (hf b e)⟩
theorem RunM.ov {w w' : World} {rb l1 i1 N l2 i2 c q : Nat} {a : Option Addr} {s : ByteArray} {S : Nat → Prop} (h : RunM w w' rb l1 i1 N l2 i2 a c q s) : OvW S w' w' rb l1 i1 N l2 i2 a c q s [] [] := ⟨h.box, h.one, h.two, Chg.refl _ _⟩
set_option maxHeartbeats 4000000 in
set_option maxRecDepth 100000 in
theorem m_Has (L : List St) (a : Option Addr) (c : Nat) (q : Int) (s : ByteArray) (w : World) (hlen : L.length ≤ 1099511627776) (hr : RowAt w a (L.flatMap St.cells)) (hfit : ∀ x ∈ L, x.s.fit) (B : Bool) (K : Nat) (E : Int) (hv : hasV L q (bsN s) = (B, K, E)) :
    Calls Tryz.prog 9 #[.agg #[.slice a L.length c, .int .i64 q], .string s] w fun e w' => e = .returned (.tuple #[.bool B, .int .i64 (K : Nat), .int .i64 E]) ∧ Below w.heap.size w w' := by
  obtain ⟨n, hn⟩ : ∃ n, s.size = n := ⟨_, rfl⟩
  have hT : (bsN s).length = n := by rw [bsN_len, hn]
  obtain ⟨N, hN⟩ : ∃ N, L.length = N := ⟨_, rfl⟩
  have hcb : CB (w.alloc (.cells #[.slice a N c, .int .i64 q] 24)) 24 w.heap.size [.slice a N c, .int .i64 q] := CB.new w _ [.slice a N c, .int .i64 q]
  have hb0 : Below w.heap.size w (w.alloc (.cells #[.slice a N c, .int .i64 q] 24)) := (Below.refl _ _).alloc (Nat.le_refl _) _
  have hr0 : RowAt (w.alloc (.cells #[.slice a N c, .int .i64 q] 24)) a (L.flatMap St.cells) := hr.mono (below_cell hb0)
  have hck := n_checkM L a c q (w.alloc (.cells #[.slice a N c, .int .i64 q] 24)) hlen hr0
  rw [hN] at hck ⊢
  have HCK := Lib.hid hck
  have HCB := Lib.hid hcb
  have HB0 := Lib.hid hb0
  have HR0 := Lib.hid hr0
  unfold hasV at hv
  rw [hT] at hv
  by_cases hc0 : chkM L q ≠ 0
  · rw [if_pos hc0] at hv
    obtain ⟨e1, e2⟩ := Prod.mk.inj hv
    obtain ⟨e2, e3⟩ := Prod.mk.inj e2
    subst e1 e2
    rw [e3] at HCK hc0
    have hE : (E == 0) = false := by simpa using hc0
    have hE2 := hc0
    clear hv hck hcb hb0 hr0 hr hc0 e3
    go_enter Tryz.func9, Tryz.ntmps9
    go_wp2_with (go_at_call 22; refine HCK.out.mono ?_; rintro e w1 ⟨rfl, hb1⟩; have HB1 := Lib.hid (b_next HB0.out hb1); clear hb1)
    go_ret3
    exact ⟨rfl, HB1.out⟩
  · have hc1 : chkM L q = 0 := by omega
    rw [if_neg hc0] at hv
    rw [hc1] at HCK
    obtain ⟨hm, hq0⟩ := chk_mach hc1
    obtain ⟨qn, rfl⟩ : ∃ qn : Nat, q = qn := ⟨q.toNat, by omega⟩
    rw [Int.toNat_natCast] at hv hm
    by_cases hbig : 65536 < n
    · rw [if_pos hbig] at hv
      obtain ⟨e1, e2⟩ := Prod.mk.inj hv
      obtain ⟨e2, e3⟩ := Prod.mk.inj e2
      subst e1 e2 e3
      have hb2 : (65536 : Int) < (n : Int) := by omega
      clear hv hck hcb hb0 hr0 hr hc0 hc1
      go_enter Tryz.func9, Tryz.ntmps9
      go_wp2_with (go_at_call 22; refine HCK.out.mono ?_; rintro e w1 ⟨rfl, hb1⟩; have HB1 := Lib.hid (b_next HB0.out hb1); clear hb1)
      go_ret3
      exact ⟨rfl, HB1.out⟩
    · rw [if_neg hbig] at hv
      obtain ⟨e1, e2⟩ := Prod.mk.inj hv
      obtain ⟨g2, g3⟩ := Prod.mk.inj e2
      subst g3
      have hfin : hasM L qn (bsN s) = (B, K) := Prod.ext e1 g2
      have hN4 : N ≤ 4096 := by rw [← hN]; exact hm.len
      have hfar : ∀ b, a = some b → b.block < w.heap.size := fun b e => by
        obtain ⟨b0, off, e2, hra⟩ := st_elem hr (i := 0) (by have := hm.lt; omega)
        rw [e] at e2
        obtain rfl := Option.some.inj e2
        exact World.block_lt_of_cell? w ⟨b0, off + 0 * 7 + 0, none⟩ (hra 0 _ rfl)
      have hb2 : decide ((65536 : Int) < (n : Int)) = false := decide_eq_false (by omega)
      have hb3 : (n : Int) ≤ 65536 := by omega
      have HM := Lib.hid hm
      have HNN := Lib.hid hN
      have HFIN := Lib.hid hfin
      have HFAR := Lib.hid hfar
      have HFIT := Lib.hid hfit
      have HNR := Lib.hid (fun W => m_newRun N c qn a s W hN4)
      clear hv hck hcb hb0 hr0 hr hc0 hc1 e1 e2 g2 hm hfin hfar hN hfit
      go_enter Tryz.func9, Tryz.ntmps9
      go_wp2_with (first | (go_at_call 22; refine HCK.out.mono ?_; rintro e w1 ⟨rfl, hb1⟩; have HB1 := Lib.hid (b_next HB0.out hb1); have HR1 := Lib.hid (HR0.out.mono (below_cell hb1)); obtain ⟨⟨z0, z1⟩, -⟩ := CB.two (CB.below HCB.out hb1); clear hb1) | (go_at_call 23; refine (HNR.out _).mono ?_; rintro e w2 ⟨rb, l1, i1, l2, i2, rfl, hrun⟩; have HRUN := Lib.hid hrun; clear hrun))
      have hfar1 : ∀ b, a = some b → b.block < w1.heap.size := fun b e => Nat.lt_of_lt_of_le (HFAR.out b e) HB1.out.size
      have hov := m_over rb l1 i1 l2 i2 N c qn L a s n w2 HM.out HNN.out hn (by omega) HFIT.out _ HRUN.out.ov (HRUN.out.ap hfar1) (HR1.out.mono (below_cell HRUN.out.chg)) B K HFIN.out
      refine hov.mono ?_
      rintro e w3 ⟨rfl, hch⟩
      have HB3 := Lib.hid (b_next HB1.out (HRUN.out.chg.trans (hch.below HRUN.out.chg.size fun k hk => hk)))
      clear hch hfar1 hov z0 z1
      go_wp2
      go_ret3
      exact ⟨rfl, HB3.out⟩
end

section
/-! MatchSteps: two of its ways. -/
theorem w64_nat (m : Nat) (h : m < 9223372036854775808) : wrap64 (m : Int) = (m : Int) := by unfold wrap64; omega
theorem prod_wrap {N n k : Nat} (hN : N ≤ 5000) (hn : n ≤ 1024) (hk : k ≤ 1024) : wrap64 ((N : Int) * ((n : Int) + (k : Int))) = ((N * (n + k) : Nat) : Int) := by
  have h1 : N * (n + k) ≤ 5000 * 2048 := Nat.mul_le_mul hN (by omega)
  rw [← Int.natCast_add, ← Int.natCast_mul]
  exact w64_nat _ (by omega)
theorem prod_wrapB {N n k : Nat} (hN : N ≤ 5000) (hn : n ≤ 1024) (hk : k ≤ 1024) (b : Bool) (hb : decide (262144 < N * (n + k)) = b) : decide ((262144 : Int) < wrap64 ((N : Int) * ((n : Int) + (k : Int)))) = b := by
  rw [prod_wrap hN hn hk, ← hb]
  exact decide_eq_decide.2 (by omega)
theorem prod_one {N n K : Nat} (hN : N ≤ 5000) (hn : n ≤ 1024) (hK : K ≤ N * (n + 1)) : decide (wrap64 ((N : Int) * ((n : Int) + 1)) < (K : Int)) = false := by
  have h1 : N * (n + 1) ≤ 5000 * 1025 := Nat.mul_le_mul hN (by omega)
  have e : wrap64 ((N : Int) * ((n : Int) + 1)) = ((N * (n + 1) : Nat) : Int) := by
    rw [show (N : Int) * ((n : Int) + 1) = ((N * (n + 1) : Nat) : Int) by push_cast; rfl]
    exact w64_nat _ (by omega)
  rw [e]
  exact decide_eq_false (by omega)
set_option maxHeartbeats 8000000 in
set_option maxRecDepth 100000 in
theorem m_MS_no (L : List St) (a : Option Addr) (c : Nat) (q : Int) (s t : ByteArray) (w : World) (hr : RowAt w a (L.flatMap St.cells)) (hfit : ∀ x ∈ L, x.s.fit)
    (hworks : ∀ W, Below w.heap.size w W → Calls Tryz.prog 12 #[] W fun e w' => e = .returned (.bool true) ∧ Below W.heap.size W w') (n k N : Nat) (hn : s.size = n) (hk : t.size = k) (hN : L.length = N) (h1 : N ≤ 5000) (h2 : n ≤ 1024) (h3 : k ≤ 1024) (h4 : N * (n + k) ≤ 262144) (hc : chkM L q ≠ 0) :
    Calls Tryz.prog 6 #[.agg #[.slice a N c, .int .i64 q], .string s, .string t] w fun e w' => e = .returned (.bool true) ∧ Below w.heap.size w w' := by
  have e110 : chkM L q = 110 := by unfold chkM at hc ⊢; split at hc; exact absurd rfl hc; rename_i h; rw [if_neg h]
  have hT : (bsN s).length = n := by rw [bsN_len, hn]
  have hU : (bsN t).length = k := by rw [bsN_len, hk]
  have hv : hasV L q (bsN s) = (false, 0, 110) := by unfold hasV; rw [if_pos hc, e110]
  have hhas := fun W (hW : Below w.heap.size w W) => m_Has L a c q s W (by omega) (hr.mono (below_cell hW)) hfit _ _ _ hv
  have hck := fun W (hW : Below w.heap.size w W) => n_checkM L a c q W (by omega) (hr.mono (below_cell hW))
  rw [hN] at hhas hck
  rw [e110] at hck
  have HHAS := Lib.hid hhas
  have HCK := Lib.hid hck
  have HWK := Lib.hid hworks
  have v1 : decide ((5000 : Int) < (N : Int)) = false := decide_eq_false (by omega)
  have v2 : decide ((1024 : Int) < (n : Int)) = false := decide_eq_false (by omega)
  have v3 : decide ((1024 : Int) < (k : Int)) = false := decide_eq_false (by omega)
  have v4 := prod_wrapB h1 h2 h3 false (decide_eq_false (by omega))
  have HB0 : Hid (Below w.heap.size w (w.alloc (.cells #[.slice a N c, .int .i64 q] 24))) := (Below.refl _ _).alloc (Nat.le_refl _) _
  have HCB : Hid (CB (w.alloc (.cells #[.slice a N c, .int .i64 q] 24)) 24 w.heap.size [.slice a N c, .int .i64 q]) := CB.new w _ [.slice a N c, .int .i64 q]
  clear hhas hck hworks hv hc e110 hr hfit h4 hN h1
  go_enter Tryz.func6, Tryz.ntmps6
  go_wp2_with (first | (go_at_call 9; refine (HHAS.out _ HB0.out).mono ?_; rintro e w1 ⟨rfl, hb1⟩; have HB1 := Lib.hid (b_next HB0.out hb1); obtain ⟨⟨z0, z1⟩, -⟩ := CB.two (CB.below HCB.out hb1); clear hb1) | (go_at_call 22; refine (HCK.out _ HB1.out).mono ?_; rintro e w2 ⟨rfl, hb2⟩; have HB2 := Lib.hid (b_next HB1.out hb2); clear hb2) | (go_at_call 12; refine (HWK.out _ HB2.out).mono ?_; rintro e w3 ⟨rfl, hb3⟩; have HB3 := Lib.hid (b_next HB2.out hb3); clear hb3))
  go_ret
  exact ⟨rfl, HB3.out⟩
set_option maxHeartbeats 8000000 in
set_option maxRecDepth 100000 in
theorem m_MS_yes (L : List St) (a : Option Addr) (c : Nat) (q : Int) (s t : ByteArray) (w : World) (hr : RowAt w a (L.flatMap St.cells)) (hfit : ∀ x ∈ L, x.s.fit)
    (hworks : ∀ W, Below w.heap.size w W → Calls Tryz.prog 12 #[] W fun e w' => e = .returned (.bool true) ∧ Below W.heap.size W w') (n k N : Nat) (hn : s.size = n) (hk : t.size = k) (hN : L.length = N) (h1 : N ≤ 5000) (h2 : n ≤ 1024) (h3 : k ≤ 1024) (h4 : N * (n + k) ≤ 262144) (hc : chkM L q = 0) :
    Calls Tryz.prog 6 #[.agg #[.slice a N c, .int .i64 q], .string s, .string t] w fun e w' => e = .returned (.bool true) ∧ Below w.heap.size w w' := by
  obtain ⟨hm, hq0⟩ := chk_mach hc
  have hT : (bsN s).length = n := by rw [bsN_len, hn]
  have hU : (bsN t).length = k := by rw [bsN_len, hk]
  have hTU : bsN (s ++ t) = bsN s ++ bsN t := bsN_app2 s t
  obtain ⟨B, K, hBK⟩ : ∃ B K, hasM L q.toNat (bsN s) = (B, K) := ⟨_, _, rfl⟩
  obtain ⟨B2, K2, hBK2⟩ : ∃ B K, hasM L q.toNat (bsN s ++ bsN t) = (B, K) := ⟨_, _, rfl⟩
  have hv : hasV L q (bsN s) = (B, K, 0) := by unfold hasV; rw [if_neg (by omega), if_neg (by omega), hBK]
  have hv2 : hasV L q (bsN (s ++ t)) = (B2, K2, 0) := by unfold hasV; rw [if_neg (by omega), hTU, if_neg (by rw [List.length_append]; omega), hBK2]
  have hst := hasM_steps (T := bsN s) hm
  rw [hBK, hT, hN] at hst
  obtain ⟨hK1, hK2⟩ := hst
  have HFR : Hid ((∀ (i : Nat) (s : St), L[i]? = some s → s.k ≠ 4) → (B = true → B2 = true ∧ K2 = K) ∧ K ≤ K2) := fun h => by
    have := hasM_front (T := bsN s) (q := q.toNat) (U := bsN t) h
    rw [hBK, hBK2] at this
    exact ⟨fun e => by have := this.1 e; exact ⟨(congrArg Prod.fst this).trans e, congrArg Prod.snd this⟩, this.2⟩
  have hhas := fun W (hW : Below w.heap.size w W) => m_Has L a c q s W (by omega) (hr.mono (below_cell hW)) hfit _ _ _ hv
  have hhas2 := fun W (hW : Below w.heap.size w W) => m_Has L a c q (s ++ t) W (by omega) (hr.mono (below_cell hW)) hfit _ _ _ hv2
  have hck := fun W (hW : Below w.heap.size w W) => n_checkM L a c q W (by omega) (hr.mono (below_cell hW))
  rw [hN] at hhas hhas2 hck
  rw [hc] at hck
  have HHAS := Lib.hid hhas
  have HHAS2 := Lib.hid hhas2
  have HCK := Lib.hid hck
  have HWK := Lib.hid hworks
  have HR := Lib.hid hr
  have HN := Lib.hid hN
  have v1 : decide ((5000 : Int) < (N : Int)) = false := decide_eq_false (by omega)
  have v2 : decide ((1024 : Int) < (n : Int)) = false := decide_eq_false (by omega)
  have v3 : decide ((1024 : Int) < (k : Int)) = false := decide_eq_false (by omega)
  have v4 := prod_wrapB h1 h2 h3 false (decide_eq_false (by omega))
  have v6 := prod_one h1 h2 hK2
  have v5 : decide ((K : Int) < 1) = false := decide_eq_false (by omega)
  have HB0 : Hid (Below w.heap.size w (w.alloc (.cells #[.slice a N c, .int .i64 q] 24))) := (Below.refl _ _).alloc (Nat.le_refl _) _
  have HCB : Hid (CB (w.alloc (.cells #[.slice a N c, .int .i64 q] 24)) 24 w.heap.size [.slice a N c, .int .i64 q]) := CB.new w _ [.slice a N c, .int .i64 q]
  clear hhas hhas2 hck hworks hv hv2 hc hr hfit h4 hN hTU hBK hBK2 hm hK2
  go_enter Tryz.func6, Tryz.ntmps6
  go_wp2_with (first | (go_at_call 9; refine (HHAS.out _ HB0.out).mono ?_; rintro e w1 ⟨rfl, hb1⟩; have HB1 := Lib.hid (b_next HB0.out hb1); have HC1 := Lib.hid (CB.below HCB.out hb1); obtain ⟨⟨z0, z1⟩, -⟩ := CB.two HC1.out; clear hb1) | (go_at_call 22; refine (HCK.out _ HB1.out).mono ?_; rintro e w2 ⟨rfl, hb2⟩; have HB2 := Lib.hid (b_next HB1.out hb2); have HC2 := Lib.hid (CB.below HC1.out hb2); obtain ⟨⟨y0, y1⟩, -⟩ := CB.two HC2.out; clear hb2))
  go_loopw [10] (fun iv wr => ∃ i : Nat, i ≤ N ∧ iv = .int .i64 (i : Nat) ∧ Hid (Below w.heap.size w wr) ∧ Hid (CB wr 24 w.heap.size [.slice a N c, .int .i64 q]) ∧ Hid (∀ (j : Nat) (st : St), j < i → L[j]? = some st → st.k ≠ 4)) (fun iv _ => N - (intOf iv).toNat)
  case atStart => exact ⟨0, by omega, rfl, HB2.out, HC2.out, fun j st h => absurd h (Nat.not_lt_zero _)⟩
  case round =>
    obtain ⟨i, hi, rfl, HB, HC, HX⟩ := hrel
    obtain ⟨⟨x0, x1⟩, -⟩ := CB.two HC.out
    by_cases hlt : i < N
    · have hip : i < L.length := by rw [HN.out]; exact hlt
      obtain ⟨b, off, rfl, hra⟩ := st_elem HR.out hip
      obtain ⟨st, hs⟩ : ∃ st, L[i] = st := ⟨_, rfl⟩
      have hsi : L[i]? = some st := by rw [List.getElem?_eq_getElem hip, hs]
      rw [hs] at hra
      obtain ⟨sk, ss, sx, sy⟩ := st
      have xk : wr.cell? ⟨b, off + i * 7, none⟩ = some (.int .i64 sk) := below_cell HB.out _ _ (hra 0 _ rfl)
      by_cases hk4 : sk = 4
      · subst hk4
        clear hra hs hsi
        go_wp2_with (go_at_call 12; refine (HWK.out _ HB.out).mono ?_; rintro e w3 ⟨rfl, hb3⟩; have HB3 := Lib.hid (b_next HB.out hb3); clear hb3)
        go_ret
        exact ⟨rfl, HB3.out⟩
      · have hk5 : (sk == 4) = false := by simpa using hk4
        have HX2 : Hid (∀ (j : Nat) (st : St), j < i + 1 → L[j]? = some st → st.k ≠ 4) := fun j st hj hst => by
          by_cases e : j = i
          · subst e; rw [hsi] at hst; cases hst; exact hk4
          · exact HX.out j st (by omega) hst
        clear hra hs hsi
        go_wp2
        go_roundw
        case rel => exact ⟨i + 1, by omega, by go_num, HB.out, HC.out, HX2.out⟩
        case measure => simp [intOf]; omega
    · obtain rfl : i = N := by omega
      obtain ⟨f1, f2⟩ := HFR.out fun j st hj => HX.out j st (by have := (List.getElem?_eq_some_iff.1 hj).1; rw [HN.out] at this; exact this) hj
      cases B
      · clear f1
        go_wp2_with (first | (go_at_call 9; refine (HHAS2.out _ HB.out).mono ?_; rintro e w4 ⟨rfl, hb4⟩; have HB4 := Lib.hid (b_next HB.out hb4); clear hb4) | (go_at_call 12; refine (HWK.out _ HB4.out).mono ?_; rintro e w3 ⟨rfl, hb3⟩; have HB3 := Lib.hid (b_next HB4.out hb3); clear hb3))
        go_ret
        exact ⟨rfl, HB3.out⟩
      · obtain ⟨rfl, rfl⟩ := f1 rfl
        go_wp2_with (first | (go_at_call 9; refine (HHAS2.out _ HB.out).mono ?_; rintro e w4 ⟨rfl, hb4⟩; have HB4 := Lib.hid (b_next HB.out hb4); clear hb4) | (go_at_call 12; refine (HWK.out _ HB4.out).mono ?_; rintro e w3 ⟨rfl, hb3⟩; have HB3 := Lib.hid (b_next HB4.out hb3); clear hb3))
        go_ret
        exact ⟨rfl, HB3.out⟩
end

section
/-! MatchSteps. -/
set_option maxHeartbeats 8000000 in
set_option maxRecDepth 100000 in
theorem m_MatchSteps (L : List St) (a : Option Addr) (c : Nat) (q : Int) (s t : ByteArray) (w : World) (hr : RowAt w a (L.flatMap St.cells)) (hfit : ∀ x ∈ L, x.s.fit)
    (hworks : ∀ W, Below w.heap.size w W → Calls Tryz.prog 12 #[] W fun e w' => e = .returned (.bool true) ∧ Below W.heap.size W w') :
    Calls Tryz.prog 6 #[.agg #[.slice a L.length c, .int .i64 q], .string s, .string t] w fun e w' => e = .returned (.bool true) ∧ Below w.heap.size w w' := by
  obtain ⟨n, hn⟩ : ∃ n, s.size = n := ⟨_, rfl⟩
  obtain ⟨k, hk⟩ : ∃ k, t.size = k := ⟨_, rfl⟩
  have hT : (bsN s).length = n := by rw [bsN_len, hn]
  have hU : (bsN t).length = k := by rw [bsN_len, hk]
  obtain ⟨N, hN⟩ : ∃ N, L.length = N := ⟨_, rfl⟩
  have HWK := Lib.hid hworks
  clear hworks
  by_cases hq0 : 5000 < N ∨ 1024 < n ∨ 1024 < k ∨ 262144 < N * (n + k)
  · rw [hN]
    have HB0 : Hid (Below w.heap.size w (w.alloc (.cells #[.slice a N c, .int .i64 q] 24))) := (Below.refl _ _).alloc (Nat.le_refl _) _
    by_cases h1 : 5000 < N
    · have v1 : (5000 : Int) < (N : Int) := by omega
      clear hr hfit hq0
      go_enter Tryz.func6, Tryz.ntmps6
      go_wp2
      go_ret
      exact ⟨rfl, HB0.out⟩
    · have v1 : decide ((5000 : Int) < (N : Int)) = false := decide_eq_false (by omega)
      by_cases h2 : 1024 < n
      · have v2 : (1024 : Int) < (n : Int) := by omega
        clear hr hfit hq0 h1
        go_enter Tryz.func6, Tryz.ntmps6
        go_wp2
        go_ret
        exact ⟨rfl, HB0.out⟩
      · have v2 : decide ((1024 : Int) < (n : Int)) = false := decide_eq_false (by omega)
        by_cases h3 : 1024 < k
        · have v3 : (1024 : Int) < (k : Int) := by omega
          clear hr hfit hq0 h1 h2
          go_enter Tryz.func6, Tryz.ntmps6
          go_wp2
          go_ret
          exact ⟨rfl, HB0.out⟩
        · have v3 : decide ((1024 : Int) < (k : Int)) = false := decide_eq_false (by omega)
          have h4 : 262144 < N * (n + k) := by omega
          have w2 : n ≤ 1024 := by omega
          have w3 : k ≤ 1024 := by omega
          have v4 := prod_wrapB (show N ≤ 5000 by omega) (show n ≤ 1024 by omega) (show k ≤ 1024 by omega) true (decide_eq_true h4)
          clear hr hfit hq0 h1 h2 h3 h4
          go_enter Tryz.func6, Tryz.ntmps6
          go_wp2
          go_ret
          exact ⟨rfl, HB0.out⟩
  · rw [hN]
    by_cases hc : chkM L q = 0
    · exact m_MS_yes L a c q s t w hr hfit HWK.out n k N hn hk hN (by omega) (by omega) (by omega) (by omega) hc
    · exact m_MS_no L a c q s t w hr hfit HWK.out n k N hn hk hN (by omega) (by omega) (by omega) (by omega) hc
end
end Go.Proofs.YthhchpmlljfpjaaGreat
