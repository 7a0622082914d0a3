import Derived.Test.YtpipjkpjpkgmpaaDoorShE0
import Derived.BigRegion
namespace Go.Proofs.YtpipjkpjpkgmpaaDoor
open Go.RowKit

abbrev ow8 (w : World) (B : Nat) (v : Value) (zs : List Nat) : Prop := w.ownsRow B 5 1 v zs.length (u8s zs)
theorem u8s_ats (xs : List Nat) (i : Nat) (h : i < xs.length) : (u8s xs)[i]? = some (.int .u8 (at0 xs i : Nat)) := by simp [u8s, h, at0_getElem]
theorem u8s_sets (xs : List Nat) (i x : Nat) : (u8s xs).set i (.int .u8 (x : Nat)) = u8s (xs.set i x) := by simp [u8s, List.map_set]
theorem ow8.set {w : World} {B g n c : Nat} {zs : List Nat} (h : w.ownsRow B 5 1 (.slice (some ⟨g, 0, none⟩) n c) n (u8s zs)) (j x : Nat) : (w.setCell ⟨g, j, none⟩ (.int .u8 (x : Nat))).ownsRow B 5 1 (.slice (some ⟨g, 0, none⟩) n c) n (u8s (zs.set j x)) := by
  rw [← u8s_sets]
  exact (World.ownsRow.stored h j _).1
theorem wpl_make8s {w : World} {ops : Array Oper} {rest : List Oper} {o : Oper} {a : Act} {Q : Exit → Act → World → Prop} (hg : o.guard = none) (l c : Operand) (hop : o.op = Op.makeSlice 25 l c)
    (B : Nat) (kl kc : IntKind) (L C : Int) (n : Nat) (hl : a.eval l = .int kl L) (hc : a.eval c = .int kc C) (hL : L = (n : Int)) (hC : C = (n : Int)) (hn : n ≤ 4398046511104) (hB : B ≤ w.heap.size)
    (hK : ∀ w', w'.ownsRow B 5 1 (.slice (some ⟨w.heap.size, 0, none⟩) n n) n (u8s (List.replicate n 0)) → Below B w w' → w.heap.size < w'.heap.size → wpList Tryd.prog ops Q rest (a.put o.dst (.slice (some ⟨w.heap.size, 0, none⟩) n n)) w') :
    wpList Tryd.prog ops Q (o :: rest) a w := by
  obtain ⟨i, hi, hz, hsz, hb⟩ := info_parts info8
  refine wpList_make_full w hg l c 25 hop B 5 i (.int .u8 0) 1 Tryd.underlying25 hi hz hsz kl kc L C n hl hc hL hC (by rw [hb]; omega) (by simp only [maxLen]; omega) hB ?_
  intro w' hown hgr
  refine hK w' ?_ ((Below.refl _ _).grown hgr hB (fun k hk => by cases hk)) ((World.ownsRow.lt hown _ rfl).2)
  have e : (madeCells (Value.int .u8 0).cells (n * 1)).toList = u8s (List.replicate n 0) := by
    rw [Nat.mul_one, show (Value.int .u8 0).cells = #[.int .u8 0] from rfl, toList_madeCells_one, u8s, List.map_replicate]
    rfl
  rw [e] at hown
  exact hown

theorem byte_of_words (x t : Nat) : IntKind.u8.wrap ((x / 2 ^ t : Nat) : Int) = ((x / 2 ^ t % 256 : Nat) : Int) := by
  rw [show IntKind.u8.wrap ((x / 2 ^ t : Nat) : Int) = ((x / 2 ^ t : Nat) : Int) % 256 from by simp [IntKind.wrap, IntKind.signed, IntKind.bits]]
  omega

/-- The length's eight bytes. -/
def len8 (n : Nat) : List Nat := (List.range 8).map fun i => n * 8 % 18446744073709551616 / 2 ^ (56 - 8 * i) % 256
theorem padI_eq (n : Nat) : padI n = (128 :: List.replicate (padN n) 0) ++ len8 n := rfl
theorem len8_len (n : Nat) : (len8 n).length = 8 := by simp [len8]
theorem len8_next (n j x : Nat) (h : j < 8) (hx : x = n * 8 % 18446744073709551616 / 2 ^ (56 - 8 * j) % 256) : (len8 n).take (j + 1) = (len8 n).take j ++ [x] := by
  rw [List.take_add_one, List.getElem?_eq_getElem (by rw [len8_len]; exact h), hx]
  simp [len8]
def PadPost (n : Nat) (w : World) (e : Ending) (w' : World) : Prop := ∃ g c, e = .returned (.slice (some ⟨g, 0, none⟩) (padN n + 9) c) ∧ w'.ownsRow w.heap.size 5 1 (.slice (some ⟨g, 0, none⟩) (padN n + 9) c) (padN n + 9) (u8s (padI n)) ∧ Below w.heap.size w w'
theorem padN_lt (n : Nat) : padN n < 64 := by unfold padN; omega
theorem u64_shr (n j : Nat) (hj : j < 8) : IntKind.u8.wrap (IntKind.u64.wrap ((n : Int) * 8) / 2 ^ (56 - 8 * j)) = ((n * 8 % 18446744073709551616 / 2 ^ (56 - 8 * j) % 256 : Nat) : Int) := by
  rw [IntKind.wrap_u64, show ((n : Int) * 8 % 18446744073709551616 : Int) = ((n * 8 % 18446744073709551616 : Nat) : Int) by omega]
  have := byte_of_words (n * 8 % 18446744073709551616) (56 - 8 * j)
  rw [← this]
  congr 1

set_option maxHeartbeats 800000 in
set_option maxRecDepth 100000 in
theorem rpad_any (n : Nat) (w : World) (hn : n < 18446744073709551616) : Calls Tryd.prog 39 #[.int .u64 (n : Nat)] w (PadPost n w) := by
  have hp := padN_lt n
  go_enter Tryd.func39, Tryd.ntmps39
  go_wp2
  have hown0 : (w.alloc (.cells #[.int .u8 128] 5)).ownsRow w.heap.size 5 1 (.slice (some ⟨w.heap.size, 0, none⟩) 1 1) 1 (u8s (128 :: List.replicate 0 0)) :=
    ⟨by simp [u8s], .inr ⟨w.heap.size, 1, _, rfl, Nat.le_refl _, heap_alloc_last w _, by decide, by decide, rfl, rfl⟩⟩
  go_loopw [3] (fun v wr => ∃ k : Nat, k ≤ padN n ∧ wr.ownsRow w.heap.size 5 1 v (k + 1) (u8s (128 :: List.replicate k 0)) ∧ Hid (Below w.heap.size w wr)) (fun v _ => padN n + 1 - lenOf v)
  case atStart => exact ⟨0, Nat.zero_le _, hown0, (Below.refl _ _).alloc (Nat.le_refl _) _⟩
  case round =>
    clear hown0
    obtain ⟨k, hk, hown, HB⟩ := hrel
    rcases hown.2 with ⟨_, h0⟩ | ⟨g, cap, cur, rfl, hbg, hheap, hcap, hmax, hcur, htake⟩
    · omega
    by_cases hlt : k < padN n
    · have hne : (n + (k + 1)) % 64 ≠ 56 := by unfold padN at hlt; omega
      have hq : ((IntKind.u64.wrap ((n : Int) + ((k : Int) + 1))).tmod 64 != 56) = true := by
        rw [IntKind.wrap_u64, Int.tmod_eq_emod_of_nonneg (by omega)]
        simp only [bne_iff_ne]
        omega
      clear hheap hcur htake hne
      go_wp2_with (at_builtin; refine wpl_app 25 5 Tryd.underlying25 info8 rfl (by decide) rfl _ _ rfl w.heap.size _ (k + 1) (u8s (128 :: List.replicate k 0)) rfl (hown.alloc _) wr.heap.size _ rfl (World.cell?_alloc_at _ _ _ _ rfl) rfl (by omega) (by have := HB.out.size; simp; omega) ?_; intro g1 cap1 w1 hown1 hg1 hBg _ _)
      go_roundw
      case rel =>
        exact ⟨k + 1, by omega, by rw [List.replicate_succ', ← List.cons_append, u8s, List.map_append]; exact hown1, (HB.out.alloc HB.out.size _).grown hg1 (by have := HB.out.size; simp; omega) (fun j hj => (hown.lt j hj).1)⟩
      case measure => simp [lenOf]; omega
    · have hkp : k = padN n := by omega
      have hq : ((IntKind.u64.wrap ((n : Int) + ((k : Int) + 1))).tmod 64 != 56) = false := by
        rw [IntKind.wrap_u64, Int.tmod_eq_emod_of_nonneg (by omega)]
        have : (n + (k + 1)) % 64 = 56 := by rw [hkp]; unfold padN; omega
        simp only [bne_eq_false_iff_eq]
        omega
      have HK := Lib.hid hkp
      have HOW := Lib.hid hown
      clear hheap hcur htake hkp hown
      go_wp2
      go_loopw [3, 4] (fun v iv wr => ∃ (j : Nat) (z : Int), j ≤ 8 ∧ iv = .int .i64 z ∧ Hid (z = 56 - 8 * (j : Int)) ∧ wr.ownsRow w.heap.size 5 1 v (k + 1 + j) (u8s (128 :: List.replicate k 0) ++ u8s ((len8 n).take j)) ∧ Hid (Below w.heap.size w wr)) (fun v _ _ => k + 9 - lenOf v)
      case atStart => exact ⟨0, 56, by decide, rfl, rfl, by simpa [u8s] using HOW.out, HB.out⟩
      case round =>
        clear HOW HB hq
        obtain ⟨j, z, hj, rfl, HZ, hown, HB⟩ := hrel
        rcases hown.2 with ⟨_, h0⟩ | ⟨g, cap, cur, rfl, hbg, hheap, hcap, hmax, hcur, htake⟩
        · omega
        clear hheap hcur htake
        by_cases hj8 : j < 8
        · obtain ⟨i, hi⟩ : ∃ i : Nat, i = 56 - 8 * j := ⟨_, rfl⟩
          obtain rfl : z = (i : Int) := by have := HZ.out; omega
          obtain ⟨x, hx⟩ : ∃ x, x = n * 8 % 18446744073709551616 / 2 ^ (56 - 8 * j) % 256 := ⟨_, rfl⟩
          have HX : Hid (IntKind.u64.wrap ((n : Int) * 8) / 2 ^ i % 256 = (x : Int)) := by show _ = _; rw [hi, hx, ← IntKind.wrap_u8']; exact u64_shr n j hj8
          have HLN := Lib.hid (len8_next n j x hj8 hx)
          have hi60 : i ≤ 56 := by omega
          clear hi hx
          go_wp2_with (at_builtin; refine wpl_app 25 5 Tryd.underlying25 info8 rfl (by decide) rfl _ _ rfl w.heap.size _ (k + 1 + j) (u8s (128 :: List.replicate k 0) ++ u8s ((len8 n).take j)) rfl (hown.alloc _) wr.heap.size _ rfl (World.cell?_alloc_at _ _ _ _ rfl) rfl (by omega) (by have := HB.out.size; simp; omega) ?_; intro g1 cap1 w1 hown1 hg1 hBg _ _)
          go_roundw
          case rel =>
            refine ⟨j + 1, (i : Int) - 8, by omega, by go_num, by show _ = _; have := HZ.out; omega, ?_, (HB.out.alloc HB.out.size _).grown hg1 (by have := HB.out.size; simp; omega) (fun j hj => (hown.lt j hj).1)⟩
            rw [HLN.out, u8s, u8s, List.map_append, ← List.append_assoc]
            rw [HX.out] at hown1
            exact hown1
          case measure => simp [lenOf]; omega
        · obtain rfl : j = 8 := by omega
          obtain rfl : z = -8 := by have := HZ.out; omega
          go_wp2
          go_ret
          have e : k = padN n := HK.out
          subst e
          refine ⟨g, cap, rfl, ?_, HB.out⟩
          have h : u8s (padI n) = u8s (128 :: List.replicate (padN n) 0) ++ u8s ((len8 n).take 8) := by
            rw [padI_eq, List.take_of_length_le (by rw [len8_len]; exact Nat.le_refl _)]; simp [u8s]
          rw [h]; exact hown
end Go.Proofs.YtpipjkpjpkgmpaaDoor
