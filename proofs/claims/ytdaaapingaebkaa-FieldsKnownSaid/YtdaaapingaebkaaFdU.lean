import Derived.Test.YtdaaapingaebkaaFdS
namespace Go.Proofs.Ytdaaapingaebkaa
open Go.RowKit

/-! fields: the reference's field at a line. -/
def OneRet (o : Option Fd) (fs : List Fd) (n : Nat) (e : Ending) : Prop :=
  (o = none ∧ e = .returned (.tuple #[fdV 0 0 0 0, .int .i64 131])) ∨ (∃ f c, o = some f ∧ ordK fs f.k = c ∧ c ≠ 0 ∧ e = .returned (.tuple #[fdV 0 0 0 0, .int .i64 (c : Nat)])) ∨
    (∃ k a b, o = some ⟨k, a, b, 0⟩ ∧ ordK fs k = 0 ∧ 1 ≤ k ∧ k ≤ 7 ∧ e = .returned (.tuple #[fdV k a b n, .int .i64 0]))
set_option maxHeartbeats 4000000 in
set_option maxRecDepth 100000 in
theorem r_one (s : ByteArray) (n i : Nat) (v : Value) (fs : List Fd) (w : World) (hn : s.size = n) (hbig : n ≤ 65536) (hi : i ≤ n) (hr : FRow w v fs) (hlen : fs.length ≤ 65536) :
    Calls Try.prog 28 #[.string s, .int .i64 (i : Nat), v] w fun e w' => OneRet (begL (bsN s) i) fs n e ∧ Below w.heap.size w w' := by
  have hsl : (bsN s).length = n := by rw [bsN_len, hn]
  obtain ⟨l, hl⟩ : ∃ l, l = (bsN s).drop i := ⟨_, rfl⟩
  have hll : l.length = n - i := by rw [hl, List.length_drop, hsl]
  have HL := Lib.hid hl
  have HCB : Hid (CB (w.alloc (.cells zeroF.toArray 28)) 28 w.heap.size zeroF) := CB.new w _ zeroF
  have HB0 : Hid (Below w.heap.size w (w.alloc (.cells zeroF.toArray 28))) := bel_alloc (Below.refl _ _) _
  have HR0 := Lib.hid (hr.below HB0.out)
  obtain ⟨a0, cp0, rfl, -⟩ := hr
  cases hcl : colL l with
  | none =>
    have HBEG : Hid (begL (bsN s) i = none) := by show begL _ _ = _; unfold begL; rw [← HL.out, hcl]
    have HCOL := Lib.hid (fun W => r_colon s n i (-1) W hn hbig hi (by rw [← hl, hcl]; rfl))
    clear hl hll hcl hsl
    go_enter Try.func28, Try.ntmps28
    go_wp2_with (first | (go_at_call 38; refine (HCOL.out _).mono ?_; rintro e w1 ⟨rfl, rfl⟩) | (refine wpl_storeS 28 (.tmp 6) _ rfl rfl (t := 28) (g := w.heap.size) (cur := zeroF) (vs := #[.int .u8 0, .int .i64 0, .int .i64 0, .int .i64 0]) ?_ ?_ ?_ ?_ ?_ ?_ ?_; exact HCB.out; rfl; rfl; rfl; exact infoF; rfl; intro w5 hc5 hch5 hsz5))
    refine bodyPost_ret (results_cbT rfl rfl rfl hc5 Try.underlying28 infoF) rfl ?_
    exact ⟨.inl ⟨HBEG.out, rfl⟩, bel_store HB0.out hch5 (Nat.le_refl _)⟩
  | some m =>
    obtain ⟨g1, g2, g3⟩ := colL_get hcl
    obtain ⟨q, hq⟩ : ∃ q, kindN (l.take m) = q := ⟨_, rfl⟩
    have hbeg : begL (bsN s) i = if q = 0 then none else some ⟨q, i, i + m + 1, 0⟩ := by
      unfold begL
      rw [← HL.out, hcl]
      simp only
      rw [hq]
    obtain ⟨z, hz⟩ : ∃ z, z = i + m := ⟨_, rfl⟩
    have HCOL := Lib.hid (fun W => r_colon s n i (z : Int) W hn hbig hi (by rw [← hl, hcl, hz]; rfl))
    obtain ⟨t, ht⟩ : ∃ t, s.extract i z = t := ⟨_, rfl⟩
    have htl : bsN t = l.take m := by rw [← ht, bsN_extract, ← hl, show z - i = m by omega]
    have HT := Lib.hid ht
    have HK := Lib.hid (fun W => r_Kind t q W (by rw [htl]; exact hq))
    have hq7 : q ≤ 7 := by rw [← hq]; exact kindN_le _
    have HQ7 := Lib.hid hq7
    have c0 : ¬ (z : Int) < 0 := by omega
    have c1 : (0 : Int) ≤ (i : Int) := by omega
    have c2 : (i : Int) ≤ (z : Int) := by omega
    have c3 : (z : Int) ≤ (n : Int) := by omega
    have hzn : z < n := by omega
    have HZ := Lib.hid hz
    clear hl hll hcl hsl g1 g2 g3 hq ht htl hq7 hz
    by_cases hq0 : q = 0
    · rw [if_pos hq0] at hbeg
      have HBEG := Lib.hid hbeg
      subst hq0
      clear hbeg
      go_enter Try.func28, Try.ntmps28
      go_wp2_with (go_at_call 38; refine (HCOL.out _).mono ?_; rintro e w1 ⟨rfl, rfl⟩)
      rw [HT.out]
      go_wp2_with (first | (go_at_call 19; refine (HK.out _).mono ?_; rintro e w2 ⟨rfl, hb2⟩; have HB2 := Lib.hid (bel_next HB0.out hb2); have HC2 := Lib.hid (CB.below HCB.out hb2); have HR2 := Lib.hid (HR0.out.below hb2); clear hb2) | (refine wpl_storeS 28 (.tmp 6) _ rfl rfl (t := 28) (g := w.heap.size) (cur := zeroF) (vs := #[.int .u8 0, .int .i64 0, .int .i64 0, .int .i64 0]) ?_ ?_ ?_ ?_ ?_ ?_ ?_; exact HC2.out; rfl; rfl; rfl; exact infoF; rfl; intro w5 hc5 hch5 hsz5))
      refine bodyPost_ret (results_cbT rfl rfl rfl hc5 Try.underlying28 infoF) rfl ?_
      exact ⟨.inl ⟨HBEG.out, rfl⟩, bel_store HB2.out hch5 (Nat.le_refl _)⟩
    · rw [if_neg hq0] at hbeg
      rw [show decide (q ≠ 0) = true from decide_eq_true hq0] at HK
      have HBEG := Lib.hid hbeg
      have HQ0 := Lib.hid hq0
      obtain ⟨bq, hbq⟩ : ∃ b, hasK q fs = b := ⟨_, rfl⟩
      obtain ⟨b7, hb7⟩ : ∃ b, hasK 7 fs = b := ⟨_, rfl⟩
      have HHQ := Lib.hid (fun W (h : FRow W (.slice a0 fs.length cp0) fs) => r_has _ fs q bq W h hlen hbq)
      have HH7 : Hid (∀ W, FRow W (.slice a0 fs.length cp0) fs → Calls Try.prog 29 #[.slice a0 fs.length cp0, .int .u8 7] W fun e w' => e = .returned (.bool b7) ∧ w' = W) := fun W h => r_has _ fs 7 b7 W h hlen hb7
      have HBQ := Lib.hid hbq
      have HB7 := Lib.hid hb7
      have HMARK : Hid True := trivial
      clear hbeg hq0 hbq hb7
      cases bq with
      | true =>
        have HORD : Hid (ordK fs q = 132) := by show ordK _ _ = _; simp [ordK, HBQ.out]
        go_enter Try.func28, Try.ntmps28
        go_wp2_with (go_at_call 38; refine (HCOL.out _).mono ?_; rintro e w1 ⟨rfl, rfl⟩)
        rw [HT.out]
        go_wp2_with (first | (go_at_call 19; refine (HK.out _).mono ?_; rintro e w2 ⟨rfl, hb2⟩; have HB2 := Lib.hid (bel_next HB0.out hb2); have HC2 := Lib.hid (CB.below HCB.out hb2); have HR2 := Lib.hid (HR0.out.below hb2); clear hb2) | (go_at_call 29; clear HMARK; refine (HHQ.out _ HR2.out).mono ?_; rintro e w3 ⟨rfl, rfl⟩) | (refine wpl_storeS 28 (.tmp 6) _ rfl rfl (t := 28) (g := w.heap.size) (cur := zeroF) (vs := #[.int .u8 0, .int .i64 0, .int .i64 0, .int .i64 0]) ?_ ?_ ?_ ?_ ?_ ?_ ?_; exact HC2.out; rfl; rfl; rfl; exact infoF; rfl; intro w5 hc5 hch5 hsz5))
        refine bodyPost_ret (results_cbT rfl rfl rfl hc5 Try.underlying28 infoF) rfl ?_
        exact ⟨.inr (.inl ⟨_, 132, HBEG.out, HORD.out, by decide, rfl⟩), bel_store HB2.out hch5 (Nat.le_refl _)⟩
      | false =>
        by_cases h1 : q = 1 ∧ 0 < fs.length
        · obtain ⟨hx, hp⟩ := h1
          have HORD : Hid (ordK fs q = 133) := by
            show ordK _ _ = _
            rw [hx] at HBQ ⊢
            have : fs.isEmpty = false := by
              cases fs with
              | nil => cases hp
              | cons _ _ => rfl
            simp [ordK, HBQ.out, this]
          have hp1 : (0 : Int) < (fs.length : Int) := by omega
          have hx1 : ((q : Int) == 1) = true := by rw [hx]; rfl
          clear hx
          go_enter Try.func28, Try.ntmps28
          go_wp2_with (go_at_call 38; refine (HCOL.out _).mono ?_; rintro e w1 ⟨rfl, rfl⟩)
          rw [HT.out]
          go_wp2_with (first | (go_at_call 19; refine (HK.out _).mono ?_; rintro e w2 ⟨rfl, hb2⟩; have HB2 := Lib.hid (bel_next HB0.out hb2); have HC2 := Lib.hid (CB.below HCB.out hb2); have HR2 := Lib.hid (HR0.out.below hb2); clear hb2) | (go_at_call 29; clear HMARK; refine (HHQ.out _ HR2.out).mono ?_; rintro e w3 ⟨rfl, rfl⟩) | (refine wpl_storeS 28 (.tmp 6) _ rfl rfl (t := 28) (g := w.heap.size) (cur := zeroF) (vs := #[.int .u8 0, .int .i64 0, .int .i64 0, .int .i64 0]) ?_ ?_ ?_ ?_ ?_ ?_ ?_; exact HC2.out; rfl; rfl; rfl; exact infoF; rfl; intro w5 hc5 hch5 hsz5))
          refine bodyPost_ret (results_cbT rfl rfl rfl hc5 Try.underlying28 infoF) rfl ?_
          exact ⟨.inr (.inl ⟨_, 133, HBEG.out, HORD.out, by decide, rfl⟩), bel_store HB2.out hch5 (Nat.le_refl _)⟩
        · have hord : ordK fs q = if b7 = true then 133 else 0 := by
            unfold ordK
            rw [HBQ.out, HB7.out]
            have : (decide (q = 1) && !fs.isEmpty) = false := by
              by_cases hx : q = 1
              · cases fs with
                | nil => simp
                | cons a b => exact absurd ⟨hx, by simp⟩ h1
              · simp [hx]
            rw [this]
            cases b7 <;> simp
          have HORD := Lib.hid hord
          clear hord
          rcases (show (q = 1 ∧ fs.length = 0) ∨ q ≠ 1 by omega) with ⟨hx, hp⟩ | hx
          · have hx1 : ((q : Int) == 1) = true := by rw [hx]; rfl
            clear hx
            have hp1 : decide ((0 : Int) < (fs.length : Int)) = false := decide_eq_false (by omega)
            have hp2 : decide (0 < fs.length) = false := decide_eq_false (by omega)
            clear hp
            clear h1
            cases b7 with
            | true =>
              go_enter Try.func28, Try.ntmps28
              go_wp2_with (go_at_call 38; refine (HCOL.out _).mono ?_; rintro e w1 ⟨rfl, rfl⟩)
              rw [HT.out]
              go_wp2_with (first | (go_at_call 19; refine (HK.out _).mono ?_; rintro e w2 ⟨rfl, hb2⟩; have HB2 := Lib.hid (bel_next HB0.out hb2); have HC2 := Lib.hid (CB.below HCB.out hb2); have HR2 := Lib.hid (HR0.out.below hb2); clear hb2) | (go_at_call 29; clear HMARK; refine (HHQ.out _ HR2.out).mono ?_; rintro e w3 ⟨rfl, rfl⟩) | (go_at_call 29; refine (HH7.out _ HR2.out).mono ?_; rintro e w4 ⟨rfl, rfl⟩) | (refine wpl_storeS 28 (.tmp 6) _ rfl rfl (t := 28) (g := w.heap.size) (cur := zeroF) (vs := #[.int .u8 0, .int .i64 0, .int .i64 0, .int .i64 0]) ?_ ?_ ?_ ?_ ?_ ?_ ?_; exact HC2.out; rfl; rfl; rfl; exact infoF; rfl; intro w5 hc5 hch5 hsz5))
              refine bodyPost_ret (results_cbT rfl rfl rfl hc5 Try.underlying28 infoF) rfl ?_
              exact ⟨.inr (.inl ⟨_, 133, HBEG.out, HORD.out, by decide, rfl⟩), bel_store HB2.out hch5 (Nat.le_refl _)⟩
            | false =>
              obtain ⟨b, hb⟩ : ∃ b, b = i + m + 1 := ⟨_, rfl⟩
              rw [← hb] at HBEG
              have HBI : Hid ((b : Int) = (z : Int) + 1) := by have := HZ.out; show _ = _; omega
              clear hb
              go_enter Try.func28, Try.ntmps28
              go_wp2_with (go_at_call 38; refine (HCOL.out _).mono ?_; rintro e w1 ⟨rfl, rfl⟩)
              rw [HT.out]
              go_wp2_with (first | (go_at_call 19; refine (HK.out _).mono ?_; rintro e w2 ⟨rfl, hb2⟩; have HB2 := Lib.hid (bel_next HB0.out hb2); have HC2 := Lib.hid (CB.below HCB.out hb2); have HR2 := Lib.hid (HR0.out.below hb2); clear hb2) | (go_at_call 29; clear HMARK; refine (HHQ.out _ HR2.out).mono ?_; rintro e w3 ⟨rfl, rfl⟩) | (go_at_call 29; refine (HH7.out _ HR2.out).mono ?_; rintro e w4 ⟨rfl, rfl⟩) | (refine wpl_storeS 28 (.tmp 6) _ rfl rfl (t := 28) (g := w.heap.size) (cur := zeroF) (vs := #[.int .u8 (q : Nat), .int .i64 (i : Nat), .int .i64 ((z : Int) + 1), .int .i64 (n : Nat)]) ?_ ?_ ?_ ?_ ?_ ?_ ?_; exact HC2.out; rfl; rfl; rfl; exact infoF; rfl; intro w5 hc5 hch5 hsz5))
              refine bodyPost_ret (results_cbT rfl rfl rfl hc5 Try.underlying28 infoF) rfl ?_
              exact ⟨.inr (.inr ⟨_, i, b, HBEG.out, HORD.out, by have := HQ0.out; omega, HQ7.out, by rw [fdV, HBI.out]; rfl⟩), bel_store HB2.out hch5 (Nat.le_refl _)⟩
          · have hx1 : ((q : Int) == 1) = false := by simp; omega
            clear h1
            cases b7 with
            | true =>
              go_enter Try.func28, Try.ntmps28
              go_wp2_with (go_at_call 38; refine (HCOL.out _).mono ?_; rintro e w1 ⟨rfl, rfl⟩)
              rw [HT.out]
              go_wp2_with (first | (go_at_call 19; refine (HK.out _).mono ?_; rintro e w2 ⟨rfl, hb2⟩; have HB2 := Lib.hid (bel_next HB0.out hb2); have HC2 := Lib.hid (CB.below HCB.out hb2); have HR2 := Lib.hid (HR0.out.below hb2); clear hb2) | (go_at_call 29; clear HMARK; refine (HHQ.out _ HR2.out).mono ?_; rintro e w3 ⟨rfl, rfl⟩) | (go_at_call 29; refine (HH7.out _ HR2.out).mono ?_; rintro e w4 ⟨rfl, rfl⟩) | (refine wpl_storeS 28 (.tmp 6) _ rfl rfl (t := 28) (g := w.heap.size) (cur := zeroF) (vs := #[.int .u8 0, .int .i64 0, .int .i64 0, .int .i64 0]) ?_ ?_ ?_ ?_ ?_ ?_ ?_; exact HC2.out; rfl; rfl; rfl; exact infoF; rfl; intro w5 hc5 hch5 hsz5))
              refine bodyPost_ret (results_cbT rfl rfl rfl hc5 Try.underlying28 infoF) rfl ?_
              exact ⟨.inr (.inl ⟨_, 133, HBEG.out, HORD.out, by decide, rfl⟩), bel_store HB2.out hch5 (Nat.le_refl _)⟩
            | false =>
              obtain ⟨b, hb⟩ : ∃ b, b = i + m + 1 := ⟨_, rfl⟩
              rw [← hb] at HBEG
              have HBI : Hid ((b : Int) = (z : Int) + 1) := by have := HZ.out; show _ = _; omega
              clear hb
              go_enter Try.func28, Try.ntmps28
              go_wp2_with (go_at_call 38; refine (HCOL.out _).mono ?_; rintro e w1 ⟨rfl, rfl⟩)
              rw [HT.out]
              go_wp2_with (first | (go_at_call 19; refine (HK.out _).mono ?_; rintro e w2 ⟨rfl, hb2⟩; have HB2 := Lib.hid (bel_next HB0.out hb2); have HC2 := Lib.hid (CB.below HCB.out hb2); have HR2 := Lib.hid (HR0.out.below hb2); clear hb2) | (go_at_call 29; clear HMARK; refine (HHQ.out _ HR2.out).mono ?_; rintro e w3 ⟨rfl, rfl⟩) | (go_at_call 29; refine (HH7.out _ HR2.out).mono ?_; rintro e w4 ⟨rfl, rfl⟩) | (refine wpl_storeS 28 (.tmp 6) _ rfl rfl (t := 28) (g := w.heap.size) (cur := zeroF) (vs := #[.int .u8 (q : Nat), .int .i64 (i : Nat), .int .i64 ((z : Int) + 1), .int .i64 (n : Nat)]) ?_ ?_ ?_ ?_ ?_ ?_ ?_; exact HC2.out; rfl; rfl; rfl; exact infoF; rfl; intro w5 hc5 hch5 hsz5))
              refine bodyPost_ret (results_cbT rfl rfl rfl hc5 Try.underlying28 infoF) rfl ?_
              exact ⟨.inr (.inr ⟨_, i, b, HBEG.out, HORD.out, by have := HQ0.out; omega, HQ7.out, by rw [fdV, HBI.out]; rfl⟩), bel_store HB2.out hch5 (Nat.le_refl _)⟩
end Go.Proofs.Ytdaaapingaebkaa
