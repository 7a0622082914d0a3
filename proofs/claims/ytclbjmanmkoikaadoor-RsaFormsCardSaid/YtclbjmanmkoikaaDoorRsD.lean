import Derived.Test.YtclbjmanmkoikaaDoorRsJ
import Derived.Test.YtclbjmanmkoikaaDoorRsB
namespace Go.Proofs.YtclbjmanmkoikaaDoor
open Go.RowKit

/-! A number in so many bytes; a digest's encoding. -/
theorem strs_lit (w : World) (T : TypeId) (L : List ByteArray) (cs : Array Value) (hc : cs = (L.map Value.string).toArray) : StrsAt (w.alloc (.cells cs T)) w.heap.size L := fun i s hs => by
  subst hc
  rw [World.cell?_alloc_at _ _ _ _ rfl]
  simp [hs]
theorem below_drew {w w' : World} {B : Nat} (h : Below B w w') : Below B w w'.drew := h.drew
set_option maxHeartbeats 400000 in
set_option maxRecDepth 100000 in
theorem p_inbytes {w : World} {va : Value} {A : Nat} (ga : Raw w va A) (n : Nat) (hA : A < 18446744073709551616 ^ 128) (hn : szN A ≤ n) (hnb : n ≤ 100000) :
    Calls Tryd.prog 35 #[va, .int .i64 (n : Nat)] w fun e w' => Below w.heap.size w w' ∧ ∃ v l, e = .returned (.tuple #[v, .int .i64 0]) ∧ BNum l A ∧ own8 w' w.heap.size v (padL n l) := by
  obtain ⟨a, c, xs, rfl, h1, h2, hr, hb, rfl, hl⟩ := ga
  have HC := Lib.hid (bytes_any a _ c xs w rfl (by omega) h1 hr hb)
  have HF : Hid (fl xs ≤ 128) := (fl_iff hb).2 hA
  have HZ := Lib.hid hn
  obtain ⟨P, hP⟩ : ∃ P, P = val xs := ⟨_, rfl⟩
  rw [← hP] at HZ ⊢
  have HP := Lib.hid hP
  generalize xs.length = lx at *
  clear hA hn hb hr hl h1 h2 hP
  go_enter Tryd.func35, Tryd.ntmps35
  go_wp2_with fail
  refine HC.out.mono ?_
  rintro e w1 ⟨hb1, ab, cb, k, bs, rfl, ho, hbl, hT⟩
  obtain ⟨rfl, hB⟩ : k = 0 ∧ BNum bs P := by
    rw [HP.out]
    rcases hT with ⟨h, _⟩ | ⟨_, h, h'⟩
    · have := HF.out; omega
    · exact ⟨h, h'⟩
  have hsz := bnum_sz hB
  obtain ⟨q, hq⟩ : ∃ q, n = bs.length + q := ⟨n - bs.length, by have := HZ.out; omega⟩
  have HX : Hid (∀ W, Below w1.heap.size w1 W → (convert 25 9 (.slice ab bs.length cb)).run Tryd.prog W = .ok (.string (strN bs)) W) := fun W hW =>
    own_text ((Chg.of_below hW).owns ho (fun j hj => by have := (World.ownsRow.lt ho j hj).2; omega)) rfl 9 Tryd.underlying9
  have HB1 := Lib.hid hb1
  have HBN := Lib.hid hB
  have HQ : Hid (q = n - bs.length) := by show _ = _; omega
  obtain ⟨m, hm⟩ : ∃ m, m = bs.length := ⟨_, rfl⟩
  have HM := Lib.hid hm
  rw [← hm] at hq HX ⊢
  have hq1 : q ≤ 100000 := by omega
  have hm1 : m ≤ 100000 := by omega
  have hsub : (n : Int) - (m : Int) = (q : Int) := by omega
  have hsub2 : IntKind.i64.wrap (q : Int) = (q : Int) := wrap_i64_nat _ (by omega)
  clear hB ho hT hb1 hsz hq hbl hm HF HC
  have hq1' : q ≤ 1000000 := by omega
  have hl2 : Hid ([repT 0 q, strN bs].length = 2) := rfl
  have hl3 : Hid (#[Value.string (repT 0 q), .string (strN bs)] = (([repT 0 q, strN bs]).map Value.string).toArray) := rfl
  have hl4 : (flatS [repT 0 q, strN bs]).length ≤ 549755813888 := by
    have h1 := congrArg List.length (bsN_repT 0 q)
    rw [List.length_replicate] at h1
    have h2 : (bsN (strN bs)).length = m := by rw [bsN_strN HBN.out.b8, HM.out]
    simp only [flatS, List.map_cons, List.map_nil, List.flatten_cons, List.flatten_nil, List.length_append, List.length_nil, h1, h2]
    omega
  have HB := Lib.hid (below_drew (Below.refl w1.heap.size w1))
  go_upto_region 4 with fail
  go_region_held3 (fun W => (convert 25 9 (.slice ab m cb)).run Tryd.prog W = .ok (.string (strN bs)) W)
    (first | (with_reducible exact HX.out _ HB.out) | (with_reducible exact HX.out _ (HB.out.alloc HB.out.size _)))
    (first
      | (go_at_call 30; (with_reducible refine (p_repeat 0 q _ hq1').mono ?_)
         rintro e w2 ⟨rfl, hb2⟩
         have HB := Lib.hid (HB.out.trans (hb2.mono HB.out.size))
         clear hb2)
      | (go_at_call 29; (with_reducible refine (p_joined _ [repT 0 q, strN bs] 2 _ hl2.out (by decide) (strs_lit _ _ _ _ hl3.out) hl4).mono ?_)
         rintro e w3 ⟨v3, rfl, ho3, hb3⟩
         have HO3 := Lib.hid ho3
         have HS2 := Lib.hid HB.out.size
         have HB := Lib.hid ((HB.out.alloc HB.out.size _).trans (hb3.mono (by have := HB.out.size; simp; omega)))
         clear ho3 hb3))
  go_wp2
  go_ret2
  have hv : flatS [repT 0 q, strN bs] = padL n bs := by
    simp only [flatS, List.map_cons, List.map_nil, List.flatten_cons, List.flatten_nil, List.append_nil, bsN_repT, bsN_strN HBN.out.b8, padL, ← HQ.out]
    rfl
  refine ⟨HB1.out.trans (HB.out.mono HB1.out.size), v3, bs, rfl, HBN.out, ?_⟩
  rw [← hv]
  exact owns_base HO3.out (by have := HB1.out.size; have := HS2.out; simp; omega)
theorem rd_text {W : World} {g off c : Nat} {l : List Nat} (h : ∀ i, i < l.length → W.cell? ⟨g, off + i, none⟩ = some (.int .u8 (l.getD i 0 : Nat))) :
    (convert 25 9 (.slice (some ⟨g, off, none⟩) l.length c)).run Tryd.prog W = .ok (.string (strN l)) W := by
  have := run_convert_bytes_arg (P := Tryd.prog) W 25 5 Tryd.underlying25 Tryd.underlying5 g off l.length c (l.map fun (x : Nat) => (x : Int)) (by simp) (fun i hi => by
    rw [h i hi]
    simp [List.getD, hi]) 9 Tryd.underlying9
  rw [this]
  simp [strOfNums, strN, Function.comp_def]
def encS (d : List Nat) (q : Nat) : List ByteArray := [⟨#[0, 1]⟩, repT 255 q, ⟨#[0]⟩, ⟨#[48, 33, 48, 9, 6, 5, 43, 14, 3, 2, 26, 5, 0, 4, 20]⟩, strN d]
theorem encS_flat {d : List Nat} {n q : Nat} (h8 : B8 d) (hq : n - 38 = q) : flatS (encS d q) = encL d n := by
  have h1 : bsN ⟨#[0, 1]⟩ = [0, 1] := rfl
  have h2 : bsN ⟨#[0]⟩ = [0] := rfl
  have h3 : bsN ⟨#[48, 33, 48, 9, 6, 5, 43, 14, 3, 2, 26, 5, 0, 4, 20]⟩ = [48, 33, 48, 9, 6, 5, 43, 14, 3, 2, 26, 5, 0, 4, 20] := rfl
  have h4 : (255 : UInt8).toNat = 255 := rfl
  simp only [flatS, encS, List.map_cons, List.map_nil, List.flatten_cons, List.flatten_nil, List.append_nil, h1, h2, h3, bsN_repT, bsN_strN h8, encL, midL, hq, h4]
  rfl
set_option maxHeartbeats 400000 in
set_option maxRecDepth 100000 in
theorem p_encoded (d : List Nat) (z : Int) (w : World) (hd : d.length = 20) (h8 : B8 d) (hz1 : -9223372036854775808 ≤ z) (hz2 : z ≤ 9223372036854775807) :
    Calls Tryd.prog 13 #[.agg (u8s d).toArray, .int .i64 z] w fun e w' => Below w.heap.size w w' ∧ ∃ v k b, e = .returned (.tuple #[v, .int .i64 k]) ∧ EncdTells d z k b ∧ own8 w' w.heap.size v b := by
  by_cases hr : 46 ≤ z ∧ z ≤ 512
  · obtain ⟨n, rfl⟩ : ∃ n : Nat, z = (n : Int) := ⟨z.toNat, by omega⟩
    have q1 : decide ((n : Int) < 46) = false := decide_eq_false (by omega)
    have q2 : decide ((512 : Int) < (n : Int)) = false := decide_eq_false (by omega)
    obtain ⟨q, hq⟩ : ∃ q, n = 38 + q := ⟨n - 38, by omega⟩
    have hsub : (n : Int) - 38 = (q : Int) := by omega
    have hq1 : q ≤ 1000000 := by omega
    have hsub2 : IntKind.i64.wrap (q : Int) = (q : Int) := wrap_i64_nat _ (by omega)
    have HT : Hid (EncdTells d n 0 (encL d n)) := .inr ⟨by omega, by omega, rfl, by rw [Int.toNat_natCast]⟩
    have HD := Lib.hid (And.intro hd h8)
    have HC0 := Lib.hid (CB.new w 38 (u8s d))
    have HB0 := Lib.hid ((Below.refl w.heap.size w).alloc (Nat.le_refl _) (.cells (u8s d).toArray 38))
    have hqn : n - 38 = q := by omega
    have HQ := Lib.hid hqn
    clear hr hz1 hz2 hq hqn hd h8
    go_enter Tryd.func13, Tryd.ntmps13
    go_upto_region 3 with fail
    generalize w.alloc (.cells (u8s d).toArray 38) = W0 at *
    have HX : Hid (∀ W, Below W0.heap.size W0 W → (convert 25 9 (.slice (some ⟨w.heap.size, 0, none⟩) 20 20)).run Tryd.prog W = .ok (.string (strN d)) W) := fun W hW => by
      have hcb := HC0.out.below hW
      have h := rd_text (W := W) (g := w.heap.size) (off := 0) (c := 20) (l := d) (fun i hi => by
        rw [Nat.zero_add, hcb.cell]
        simp [u8s, List.getElem?_eq_getElem hi])
      rw [HD.out.1] at h
      exact h
    generalize hg : w.heap.size = g at *
    have HLG := Lib.hid (show g < W0.heap.size from HC0.out.lt)
    have hl2 : Hid ((encS d q).length = 5) := rfl
    have hl3 : Hid (#[Value.string ⟨#[0, 1]⟩, .string (repT 255 q), .string ⟨#[0]⟩, .string ⟨#[48, 33, 48, 9, 6, 5, 43, 14, 3, 2, 26, 5, 0, 4, 20]⟩, .string (strN d)] = ((encS d q).map Value.string).toArray) := rfl
    have hfl : Hid (flatS (encS d q) = encL d n) := encS_flat HD.out.2 HQ.out
    have hl4 : (flatS (encS d q)).length ≤ 549755813888 := by
      rw [hfl.out, encL_len HD.out.1 (by omega)]
      omega
    clear HC0
    have HB := Lib.hid (below_drew (Below.refl W0.heap.size W0))
    go_region_held3 (fun W => (convert 25 9 (.slice (some ⟨g, 0, none⟩) 20 20)).run Tryd.prog W = .ok (.string (strN d)) W)
      (first | (with_reducible exact HX.out _ HB.out) | (with_reducible exact HX.out _ (HB.out.alloc HB.out.size _)))
      (first
        | (go_at_call 30; (with_reducible refine (p_repeat 255 q _ hq1).mono ?_)
           rintro e w2 ⟨rfl, hb2⟩
           have HB := Lib.hid (HB.out.trans (hb2.mono HB.out.size))
           clear hb2)
        | (go_at_call 29; (with_reducible refine (p_joined _ (encS d q) 5 _ hl2.out (by decide) (strs_lit _ _ _ _ hl3.out) hl4).mono ?_)
           rintro e w3 ⟨v3, rfl, ho3, hb3⟩
           have HO3 := Lib.hid ho3
           have HS2 := Lib.hid HB.out.size
           have HB := Lib.hid ((HB.out.alloc HB.out.size _).trans (hb3.mono (by have := HB.out.size; simp; omega)))
           clear ho3 hb3))
    go_wp2
    go_ret2
    subst hg
    refine ⟨HB0.out.trans (HB.out.mono (by have := HB0.out.size; omega)), v3, 0, _, rfl, HT.out, ?_⟩
    rw [← hfl.out]
    exact owns_base HO3.out (by have := HB0.out.size; have := HS2.out; simp; omega)
  · have hor : decide (z < 46) = true ∨ (decide (z < 46) = false ∧ decide ((512 : Int) < z) = true) := by
      by_cases h : z < 46
      · exact .inl (decide_eq_true h)
      · exact .inr ⟨decide_eq_false h, decide_eq_true (by omega)⟩
    have HT : Hid (EncdTells d z 81 []) := .inl ⟨by omega, rfl, rfl⟩
    have HB0 := Lib.hid ((Below.refl w.heap.size w).alloc (Nat.le_refl _) (.cells (u8s d).toArray 38))
    clear hr
    rcases hor with q1 | ⟨q1, q2⟩
    all_goals
      go_enter Tryd.func13, Tryd.ntmps13
      go_wp2
      go_ret2
      exact ⟨HB0.out, _, 81, [], rfl, HT.out, World.ownsRow_nil _ _ _ _⟩
end Go.Proofs.YtclbjmanmkoikaaDoor