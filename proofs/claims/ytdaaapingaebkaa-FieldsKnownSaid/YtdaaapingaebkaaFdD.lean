import Derived.Test.YtdaaapingaebkaaFdC
namespace Go.Proofs.Ytdaaapingaebkaa
open Go.RowKit

/-! fields: the field that a line begins; which kinds stand there. -/
def Fd.cells (f : Fd) : List Value := [.int .u8 (f.k : Nat), .int .i64 (f.a : Nat), .int .i64 (f.b : Nat), .int .i64 (f.e : Nat)]
@[reducible] def fdV (k a b e : Nat) : Value := .agg #[.int .u8 (k : Nat), .int .i64 (a : Nat), .int .i64 (b : Nat), .int .i64 (e : Nat)]
theorem infoF3 : (Try.prog.info? 28).map (fun i => (i.zero, i.size, i.bytes)) = some (some (fdV 0 0 0 0), 4, 32) := by kernel_rfl
theorem infoF : (Try.prog.info? 28).map (·.size) = some 4 := by kernel_rfl
@[reducible] def zeroF : List Value := [.int .u8 0, .int .i64 0, .int .i64 0, .int .i64 0]
theorem bel_next {w a b : World} (h : Below w.heap.size w a) (k : Below a.heap.size a b) : Below w.heap.size w b := h.trans (k.mono h.size)
theorem bel_drewN {w a : World} (h : Below w.heap.size w a) (n : Nat) : Below w.heap.size w (a.drewN n) := h.trans ⟨rfl, rfl, rfl, Nat.le_refl _, fun _ _ => rfl⟩
theorem bel_store {w a b : World} {g : Nat} (h : Below w.heap.size w a) (k : Chg (fun k => k = g) a b) (hg : w.heap.size ≤ g) : Below w.heap.size w b := h.trans (k.below h.size fun i hi => by omega)
theorem bel_alloc {w a : World} (h : Below w.heap.size w a) (o : Obj) : Below w.heap.size w (a.alloc o) := h.alloc h.size o
/-- What a line begins, told by the program. -/
def BegRet (o : Option Fd) (e : Ending) : Prop :=
  (∃ k a b, o = some ⟨k, a, b, 0⟩ ∧ 1 ≤ k ∧ k ≤ 7 ∧ e = .returned (.tuple #[fdV k a b 0, .int .i64 0])) ∨ (o = none ∧ e = .returned (.tuple #[fdV 0 0 0 0, .int .i64 131]))
set_option maxHeartbeats 1000000 in
set_option maxRecDepth 100000 in
theorem f_begun (s : ByteArray) (n i : Nat) (w : World) (hn : s.size = n) (hbig : n ≤ 65536) (hi : i ≤ n) :
    Calls Try.prog 40 #[.string s, .int .i64 (i : Nat)] w fun e w' => BegRet (begL (bsN s) i) e ∧ Below w.heap.size w w' := by
  obtain ⟨l, hl⟩ : ∃ l, l = (bsN s).drop i := ⟨_, rfl⟩
  obtain ⟨z, hz⟩ : ∃ z, z = i + behL l := ⟨_, rfl⟩
  have hsl : (bsN s).length = n := by rw [bsN_len, hn]
  have hll : l.length = n - i := by rw [hl, List.length_drop, hsl]
  have hzn : z ≤ n := by have := behL_le l; omega
  obtain ⟨t, ht⟩ : ∃ t, t = s.extract i z := ⟨_, rfl⟩
  have htl : bsN t = l.take (behL l) := by rw [ht, bsN_extract, ← hl, show z - i = behL l by omega]
  have hts : t.size = behL l := by rw [← bsN_len, htl, List.length_take]; have := behL_le l; omega
  have hl8 : B8 l := by rw [hl]; exact (bsN_8 s).drop i
  have HBL := Lib.hid (fun W => f_behindLine s n i z W hn hbig hi (by rw [← hl]; exact hz))
  have hbl := behL_le l
  have HC := Lib.hid (fun W => f_cut 58 t (behL l) W hts (by omega))
  have HT : Hid (s.extract i z = t) := ht.symm
  have HTL := Lib.hid htl
  have HL8 := Lib.hid hl8
  have HL := Lib.hid hl
  have HLL := Lib.hid hll
  have c1 : (0 : Int) ≤ (i : Int) := by omega
  have c2 : (i : Int) ≤ (z : Int) := by omega
  have c3 : (z : Int) ≤ (n : Int) := by omega
  have HCB : Hid (CB (w.alloc (.cells zeroF.toArray 28)) 28 w.heap.size zeroF) := CB.new w _ zeroF
  clear ht htl hts hl8 hl hz hsl hll hbl
  go_enter Try.func40, Try.ntmps40
  go_wp2_with (go_at_call 39; refine (HBL.out _).mono ?_; rintro e w1 ⟨rfl, hb1⟩; have HB1 := Lib.hid hb1; clear hb1)
  rw [HT.out]
  refine (HC.out _).mono ?_
  rintro e w2 ⟨⟨f, d, hs, hf, rfl⟩ | ⟨hno, rfl⟩, hb2⟩
  · have hs2 : bsN t = f ++ 58 :: d := hs
    have hf2 : 58 ∉ f := hf
    rw [HTL.out] at hs2
    have hcol := colL_some hs2 hf2
    have hft : f = l.take f.length := by
      have h1 := congrArg (List.take f.length) hs2
      rw [List.take_left' rfl, List.take_take] at h1
      obtain ⟨g1, -, -⟩ := colL_get hcol
      rw [Nat.min_eq_left (by omega)] at h1
      exact h1.symm
    obtain ⟨g1, -, g3⟩ := colL_get hcol
    obtain ⟨m, hm⟩ : ∃ m, m = f.length := ⟨_, rfl⟩
    have hf8 : B8 f := by rw [hft]; exact HL8.out.take _
    have hmn : i + m + 1 ≤ n := by have := HLL.out; omega
    obtain ⟨q, hq⟩ : ∃ q, kindN f = q := ⟨_, rfl⟩
    have HK := Lib.hid (fun W => f_Kind (strN f) q W (by rw [bsN_strN hf8]; exact hq))
    have HFS : (strN f).size = m := by rw [strN_size, hm]
    have HB2 := Lib.hid hb2
    have hbeg : begL (bsN s) i = if q = 0 then none else some ⟨q, i, i + m + 1, 0⟩ := by
      unfold begL
      rw [← HL.out, hcol]
      simp only
      rw [← hft, hq, ← hm]
    have hq7 : q ≤ 7 := by rw [← hq]; exact kindN_le f
    have HBW : Hid (Below w.heap.size w w2) := bel_next (bel_next (bel_alloc (Below.refl _ _) (.cells zeroF.toArray 28)) HB1.out) HB2.out
    clear hs hf hs2 hf2 hcol hft g1 g3 hf8 hq hb2
    by_cases hq0 : q = 0
    · rw [if_pos hq0] at hbeg
      have HBEG := Lib.hid hbeg
      subst hq0
      clear hbeg
      go_wp2_with (first | (go_at_call 20; refine (HK.out _).mono ?_; rintro e w3 ⟨rfl, k3, rfl⟩; have HCB3 := Lib.hid (CB.drewN (CB.below (CB.below HCB.out HB1.out) HB2.out) k3)) | (refine wpl_storeS 28 (.tmp 4) _ rfl rfl (t := 28) (g := w.heap.size) (cur := zeroF) (vs := #[.int .u8 0, .int .i64 0, .int .i64 0, .int .i64 0]) ?_ ?_ ?_ ?_ ?_ ?_ ?_; exact HCB3.out; rfl; rfl; rfl; exact infoF; rfl; intro w5 hc5 hch5 hsz5))
      refine bodyPost_ret (results_cbT rfl rfl rfl hc5 Try.underlying28 infoF) rfl ?_
      exact ⟨.inr ⟨HBEG.out, rfl⟩, bel_store (bel_drewN HBW.out _) hch5 (Nat.le_refl _)⟩
    · rw [if_neg hq0] at hbeg
      have HBEG := Lib.hid hbeg
      have hqd : decide (q = 0) = false := decide_eq_false hq0
      have hqd2 : decide (q ≠ 0) = true := decide_eq_true hq0
      rw [hqd2] at HK
      have HQ7 := Lib.hid hq7
      have HQ0 := Lib.hid hq0
      obtain ⟨b, hb⟩ : ∃ b, b = i + m + 1 := ⟨_, rfl⟩
      rw [← hb] at HBEG
      have HBI : Hid ((b : Int) = (i : Int) + (f.length : Int) + 1) := by show _ = _; omega
      have HB := Lib.hid hb
      clear hbeg hqd hqd2 hq7 hq0 hb
      go_wp2_with (first | (go_at_call 20; refine (HK.out _).mono ?_; rintro e w3 ⟨rfl, k3, rfl⟩; have HCB3 := Lib.hid (CB.drewN (CB.below (CB.below HCB.out HB1.out) HB2.out) k3)) | (refine wpl_storeS 28 (.tmp 4) _ rfl rfl (t := 28) (g := w.heap.size) (cur := zeroF) (vs := #[.int .u8 (q : Nat), .int .i64 (i : Nat), .int .i64 ((i : Int) + (f.length : Int) + 1), .int .i64 0]) ?_ ?_ ?_ ?_ ?_ ?_ ?_; exact HCB3.out; rfl; rfl; rfl; exact infoF; rfl; intro w5 hc5 hch5 hsz5))
      refine bodyPost_ret (results_cbT rfl rfl rfl hc5 Try.underlying28 infoF) rfl ?_
      exact ⟨.inl ⟨q, i, b, HBEG.out, by have := HQ0.out; omega, HQ7.out, by rw [fdV, HBI.out]; rfl⟩, bel_store (bel_drewN HBW.out _) hch5 (Nat.le_refl _)⟩
  · have hno2 : 58 ∉ bsN t := hno
    rw [HTL.out] at hno2
    have hcol := colL_none hno2
    have HBEG : Hid (begL (bsN s) i = none) := by
      show begL _ _ = _
      unfold begL
      rw [← HL.out, hcol]
    obtain ⟨q, hq⟩ : ∃ q, kindN (bsN t) = q := ⟨_, rfl⟩
    have HK := Lib.hid (fun W => f_Kind t q W hq)
    have HB2 := Lib.hid hb2
    have HBW : Hid (Below w.heap.size w w2) := bel_next (bel_next (bel_alloc (Below.refl _ _) (.cells zeroF.toArray 28)) HB1.out) HB2.out
    clear hno hno2 hcol hq hb2
    go_wp2_with (first | (go_at_call 20; refine (HK.out _).mono ?_; rintro e w3 ⟨rfl, k3, rfl⟩; have HCB3 := Lib.hid (CB.drewN (CB.below (CB.below HCB.out HB1.out) HB2.out) k3)) | (refine wpl_storeS 28 (.tmp 4) _ rfl rfl (t := 28) (g := w.heap.size) (cur := zeroF) (vs := #[.int .u8 0, .int .i64 0, .int .i64 0, .int .i64 0]) ?_ ?_ ?_ ?_ ?_ ?_ ?_; exact HCB3.out; rfl; rfl; rfl; exact infoF; rfl; intro w5 hc5 hch5 hsz5))
    refine bodyPost_ret (results_cbT rfl rfl rfl hc5 Try.underlying28 infoF) rfl ?_
    exact ⟨.inr ⟨HBEG.out, rfl⟩, bel_store (bel_drewN HBW.out _) hch5 (Nat.le_refl _)⟩
end Go.Proofs.Ytdaaapingaebkaa
